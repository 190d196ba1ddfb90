/-
  Mathematics: the body of a loop (no dump is spoken of).
-/
import Derived.Test.YtjlfmjoallnojadLoopsM
import Derived.Test.YtjlfmjoallnojadBeforeBoth
namespace Go.Proofs.Ytjlfmjoallnojad
set_option linter.unusedVariables false

/-- By k steps backwards from f, none out of the gate, one is at i. -/
def bkn (ss : List Stm) (f g : Nat) : Nat → Nat → Prop
  | 0, i => i = f
  | k + 1, i => i < ss.length ∧ ∃ y : Nat, bkn ss f g k y ∧ y ≠ g ∧ (y : Int) ∈ nx ss i

def Bk (ss : List Stm) (f g i : Nat) : Prop := ∃ k, bkn ss f g k i
def Bod (ss : List Stm) (f g i : Nat) : Prop := i = g ∨ Bk ss f g i

def IsBody (ss : List Stm) (f g : Int) (A : List Int) : Prop := A.Pairwise (· < ·) ∧ ∀ x, x ∈ A ↔ ∃ f' g' i : Nat, f = (f' : Int) ∧ g = (g' : Int) ∧ x = (i : Int) ∧ Bod ss f' g' i

theorem Bk.start (ss : List Stm) (f g : Nat) : Bk ss f g f := ⟨0, rfl⟩
theorem Bk.step {ss : List Stm} {f g y i : Nat} (h : Bk ss f g y) (hy : y ≠ g) (hi : i < ss.length) (hm : (y : Int) ∈ nx ss i) : Bk ss f g i := by
  obtain ⟨k, hk⟩ := h
  exact ⟨k + 1, hi, y, hk, hy, hm⟩

theorem Bk.lt {ss : List Stm} {f g i : Nat} (h : Bk ss f g i) (hf : f < ss.length) : i < ss.length := by
  obtain ⟨k, hk⟩ := h
  cases k with
  | zero => have : i = f := hk; omega
  | succ k => exact hk.1

theorem Bod.lt {ss : List Stm} {f g i : Nat} (h : Bod ss f g i) (hf : f < ss.length) (hg : g < ss.length) : i < ss.length := by
  rcases h with rfl | h
  · exact hg
  · exact h.lt hf

/-- What a loop is. -/
theorem loop_parts {ss : List Stm} {f g : Int} (h : [f, g] ∈ loopsAns ss) : procOk ss = true ∧ ∃ f' g' : Nat, f = (f' : Int) ∧ g = (g' : Int) ∧ f' < ss.length ∧ g' < ss.length := by
  unfold loopsAns at h
  split at h
  · rename_i hp
    obtain ⟨j, y, hj, e, _, hy⟩ := loopsTo_mem h
    obtain ⟨d, i, rfl, _, hd⟩ := gatesL_in hy
    simp at e
    exact ⟨hp, j, d, e.1, e.2, hj, hd.2.1⟩
  · simp at h

theorem isBody_unique {ss : List Stm} {f g : Int} {A B : List Int} (ha : IsBody ss f g A) (hb : IsBody ss f g B) : A = B :=
  sorted_ext A B ha.1 hb.1 (fun x => (ha.2 x).trans (hb.2 x).symm)

theorem body_some (ss : List Stm) (f g : Int) : ∃ A : List Int, ([f, g] ∈ loopsAns ss → IsBody ss f g A) ∧ ([f, g] ∉ loopsAns ss → A = []) ∧ A.length ≤ 12 := by
  classical
  by_cases h : [f, g] ∈ loopsAns ss
  · obtain ⟨hp, f', g', rfl, rfl, hf, hg⟩ := loop_parts h
    have h12 := (procOk_parts hp).2.1
    refine ⟨((List.range ss.length).filter (fun i => decide (Bod ss f' g' i))).map (fun i : Nat => (i : Int)), fun _ => ⟨?_, fun x => ?_⟩, fun hn => absurd h hn, ?_⟩
    · rw [List.pairwise_map]
      exact (List.pairwise_lt_range.sublist List.filter_sublist).imp (fun h => by omega)
    · simp only [List.mem_map, List.mem_filter, List.mem_range, decide_eq_true_eq]
      constructor
      · rintro ⟨i, ⟨_, h⟩, rfl⟩; exact ⟨f', g', i, rfl, rfl, rfl, h⟩
      · rintro ⟨f2, g2, i, e1, e2, rfl, h⟩
        obtain rfl : f' = f2 := by omega
        obtain rfl : g' = g2 := by omega
        exact ⟨i, ⟨h.lt hf hg, h⟩, rfl⟩
    · rw [List.length_map]
      refine Nat.le_trans (List.length_filter_le _ _) ?_
      simpa using h12
  · exact ⟨[], fun h' => absurd h' h, fun _ => rfl, by simp⟩

theorem mem_befN (ss : List Stm) (y : Int) : ∀ (k : Nat) (x : Int), x ∈ befN ss y k ↔ ∃ j : Nat, j < k ∧ x = (j : Int) ∧ y ∈ nx ss j
  | 0, x => by simp [befN]
  | k + 1, x => by
    have ih := mem_befN ss y k x
    simp only [befN, List.mem_append, ih]
    have hh : hasI (nextsS (ss.getD k ⟨0, 0, 0⟩) k) y = true ↔ y ∈ nx ss k := by
      unfold hasI nx
      simp
    constructor
    · rintro (⟨j, h1, h2⟩ | h)
      · exact ⟨j, by omega, h2⟩
      · split at h
        · rename_i hb
          simp at h
          exact ⟨k, by omega, h, hh.1 hb⟩
        · simp at h
    · rintro ⟨j, h1, rfl, h2⟩
      by_cases e : j = k
      · subst e
        right
        rw [if_pos (hh.2 h2)]
        simp
      · exact .inl ⟨j, by omega, rfl, h2⟩

/-- The state of the search that works its list off. -/
structure BdInv (ss : List Stm) (f g : Nat) (out todo : List Int) : Prop where
  sorted : out.Pairwise (· < ·)
  outB : ∀ x ∈ out, ∃ i : Nat, x = (i : Int) ∧ Bod ss f g i
  gate : (g : Int) ∈ out
  todoB : ∀ x ∈ todo, ∃ i : Nat, x = (i : Int) ∧ i < ss.length ∧ Bk ss f g i
  start : (f : Int) ∈ out ∨ (f : Int) ∈ todo
  closed : ∀ y : Nat, (y : Int) ∈ out → y ≠ g → ∀ i : Nat, i < ss.length → (y : Int) ∈ nx ss i → (i : Int) ∈ out ∨ (i : Int) ∈ todo
  len : todo.length ≤ 1 + 12 * out.length

theorem BdInv.first {ss : List Stm} {f g : Nat} (hf : f < ss.length) : BdInv ss f g [(g : Int)] [(f : Int)] where
  sorted := by simp
  outB := fun x hx => by simp at hx; exact ⟨g, hx, .inl rfl⟩
  gate := by simp
  todoB := fun x hx => by simp at hx; exact ⟨f, hx, hf, Bk.start ss f g⟩
  start := by simp
  closed := fun y hy hne => by simp at hy; omega
  len := by simp

theorem BdInv.outLen {ss : List Stm} {f g : Nat} {out todo : List Int} (hp : procOk ss = true) (hf : f < ss.length) (hg : g < ss.length) (h : BdInv ss f g out todo) : out.length ≤ 12 := by
  have h12 := (procOk_parts hp).2.1
  refine Nat.le_trans (sorted_length out 0 ss.length h.sorted (fun x hx => ?_)) h12
  obtain ⟨i, rfl, hi⟩ := h.outB x hx
  have := hi.lt hf hg
  omega

theorem BdInv.skip {ss : List Stm} {f g : Nat} {out todo : List Int} {x : Int} (h : BdInv ss f g out (x :: todo)) (hx : x ∈ out) : BdInv ss f g out todo where
  sorted := h.sorted
  outB := h.outB
  gate := h.gate
  todoB := fun y hy => h.todoB y (by simp [hy])
  start := by
    rcases h.start with h0 | h0
    · exact .inl h0
    · rcases List.mem_cons.1 h0 with e | e
      · exact .inl (e ▸ hx)
      · exact .inr e
  closed := fun y hy hne i hi hm => by
    rcases h.closed y hy hne i hi hm with h0 | h0
    · exact .inl h0
    · rcases List.mem_cons.1 h0 with e | e
      · exact .inl (e ▸ hx)
      · exact .inr e
  len := by have := h.len; simp at this; omega

theorem BdInv.step {ss : List Stm} {f g a : Nat} {out todo : List Int} {B : List Int} (hp : procOk ss = true) (h : BdInv ss f g out ((a : Int) :: todo)) (hx : (a : Int) ∉ out) (hB : ∀ x, x ∈ B ↔ ∃ j : Nat, j < ss.length ∧ x = (j : Int) ∧ (a : Int) ∈ nx ss j) (hBl : B.length ≤ 12) : BdInv ss f g (ins a out) (todo ++ B) := by
  obtain ⟨a', e, hal, hak⟩ := h.todoB a (by simp)
  obtain rfl : a = a' := by omega
  have hag : a ≠ g := fun e => hx (e ▸ h.gate)
  refine ⟨ins_sorted _ _ h.sorted, fun x hx => ?_, (mem_ins _ _ _).2 (.inr h.gate), fun x hx => ?_, ?_, fun y hy hne i hi hm => ?_, ?_⟩
  · rcases (mem_ins _ _ _).1 hx with rfl | hx
    · exact ⟨a, rfl, .inr hak⟩
    · exact h.outB x hx
  · rcases List.mem_append.1 hx with hx | hx
    · exact h.todoB x (by simp [hx])
    · obtain ⟨j, hj, rfl, hm⟩ := (hB x).1 hx
      exact ⟨j, rfl, hj, hak.step hag hj hm⟩
  · rcases h.start with h0 | h0
    · exact .inl ((mem_ins _ _ _).2 (.inr h0))
    · rcases List.mem_cons.1 h0 with e | e
      · exact .inl ((mem_ins _ _ _).2 (.inl e))
      · exact .inr (by simp [e])
  · rcases (mem_ins _ _ _).1 hy with e | hy
    · obtain rfl : y = a := by omega
      exact .inr (by simp [(hB (i : Int)).2 ⟨i, hi, rfl, hm⟩])
    · rcases h.closed y hy hne i hi hm with h0 | h0
      · exact .inl ((mem_ins _ _ _).2 (.inr h0))
      · rcases List.mem_cons.1 h0 with e | e
        · exact .inl ((mem_ins _ _ _).2 (.inl e))
        · exact .inr (by simp [e])
  · have := h.len
    rw [ins_len_new _ _ hx, List.length_append]
    simp at this
    omega

theorem BdInv.done {ss : List Stm} {f g : Nat} {out : List Int} (h : BdInv ss f g out []) : IsBody ss f g out := by
  refine ⟨h.sorted, fun x => ⟨fun hx => ?_, ?_⟩⟩
  · obtain ⟨i, rfl, hi⟩ := h.outB x hx
    exact ⟨f, g, i, rfl, rfl, rfl, hi⟩
  · rintro ⟨f', g', i, e1, e2, rfl, hi⟩
    obtain rfl : f = f' := by omega
    obtain rfl : g = g' := by omega
    have key : ∀ (k i : Nat), bkn ss f g k i → (i : Int) ∈ out := by
      intro k
      induction k with
      | zero =>
        intro i hk
        have : i = f := hk
        subst this
        rcases h.start with h0 | h0
        · exact h0
        · simp at h0
      | succ k ih =>
        rintro i ⟨hi, y, hy, hne, hm⟩
        rcases h.closed y (ih y hy) hne i hi hm with h0 | h0
        · exact h0
        · simp at h0
    rcases hi with rfl | ⟨k, hk⟩
    · exact h.gate
    · exact key k i hk

/-- The program's own search: a set that is grown until nothing changes. -/
structure BSnd (ss : List Stm) (f g : Nat) (bs : List Bool) : Prop where
  len : bs.length = 12
  sound : ∀ i, bs.getD i false = true → Bod ss f g i
  gate : bs.getD g false = true
  start : bs.getD f false = true

theorem BSnd.put {ss : List Stm} {f g y i : Nat} {bs : List Bool} (h : BSnd ss f g bs) (hy : y ≠ g) (hb : bs.getD y false = true) (hi : i < ss.length) (hi12 : i < 12) (hm : (y : Int) ∈ nx ss i) : BSnd ss f g (bs.set i true) where
  len := by rw [List.length_set, h.len]
  sound := fun j hj => by
    rw [getDG_set _ _ _ _ (by rw [h.len]; exact hi12)] at hj
    split at hj
    · rename_i e
      subst e
      rcases h.sound y hb with e | hk
      · exact absurd e hy
      · exact .inr (hk.step hy hi hm)
    · exact h.sound j hj
  gate := by
    rw [getDG_set _ _ _ _ (by rw [h.len]; exact hi12)]
    split
    · rfl
    · exact h.gate
  start := by
    rw [getDG_set _ _ _ _ (by rw [h.len]; exact hi12)]
    split
    · rfl
    · exact h.start

theorem BSnd.exact {ss : List Stm} {f g : Nat} {bs : List Bool} (h : BSnd ss f g bs) (hc : ∀ i : Nat, i < ss.length → ∀ y : Nat, (y : Int) ∈ nx ss i → y ≠ g → bs.getD y false = true → bs.getD i false = true) : ∀ i, bs.getD i false = true ↔ Bod ss f g i := by
  intro i
  refine ⟨h.sound i, ?_⟩
  have key : ∀ (k i : Nat), bkn ss f g k i → bs.getD i false = true := by
    intro k
    induction k with
    | zero => intro i hk; have : i = f := hk; subst this; exact h.start
    | succ k ih =>
      rintro i ⟨hi, y, hy, hne, hm⟩
      exact hc i hi y hm hne (ih y hy)
  rintro (rfl | ⟨k, hk⟩)
  · exact h.gate
  · exact key k i hk

end Go.Proofs.Ytjlfmjoallnojad
