/-
  Mathematics: what one comes to within a procedure, and how far it is (no dump is spoken of).
-/
import Derived.Test.YtmloeldgeegddaaNexts
namespace Go.Proofs.Ytmloeldgeegddaa
set_option linter.unusedVariables false

/-- What may come behind statement j. -/
def nx (ss : List Stm) (j : Nat) : List Int := nextsS (ss.getD j ⟨0, 0, 0⟩) j

/-- One comes to i by k steps from 0, never to wo. -/
def rk (ss : List Stm) (wo : Int) : Nat → Nat → Prop
  | 0, i => (i : Int) ≠ wo ∧ i = 0
  | k + 1, i => (i : Int) ≠ wo ∧ ∃ j : Nat, rk ss wo k j ∧ (i : Int) ∈ nx ss j

def Rch (ss : List Stm) (wo : Int) (i : Nat) : Prop := ∃ k, rk ss wo k i

theorem nx_eq {ss : List Stm} {j : Nat} (h : j < ss.length) : nx ss j = nextsS ss[j] j := by
  unfold nx; simp [List.getD, h]

theorem nx_in {ss : List Stm} (hp : procOk ss = true) {j : Nat} (h : j < ss.length) : ∀ x ∈ nx ss j, ∃ i : Nat, x = (i : Int) ∧ i < ss.length := by
  rw [nx_eq h]; exact nextsS_in hp h

theorem rk_in {ss : List Stm} (hp : procOk ss = true) {wo : Int} : ∀ {k i : Nat}, rk ss wo k i → i < ss.length
  | 0, i, h => by have := (procOk_parts hp).1; have := h.2; omega
  | k + 1, i, h => by
    obtain ⟨_, j, hj, hm⟩ := h
    obtain ⟨i', e, hlt⟩ := nx_in hp (rk_in hp hj) _ hm
    omega

theorem rk_ne {ss : List Stm} {wo : Int} : ∀ {k i : Nat}, rk ss wo k i → (i : Int) ≠ wo
  | 0, _, h => h.1
  | _ + 1, _, h => h.1

/-- The list of all that one comes to, rising. -/
def IsReached (ss : List Stm) (wo : Int) (A : List Int) : Prop := A.Pairwise (· < ·) ∧ ∀ x, x ∈ A ↔ ∃ i : Nat, x = (i : Int) ∧ Rch ss wo i

theorem sorted_ext : ∀ (a b : List Int), a.Pairwise (· < ·) → b.Pairwise (· < ·) → (∀ x, x ∈ a ↔ x ∈ b) → a = b
  | [], [], _, _, _ => rfl
  | [], y :: b, _, _, h => absurd ((h y).2 (by simp)) (by simp)
  | x :: a, [], _, _, h => absurd ((h x).1 (by simp)) (by simp)
  | x :: a, y :: b, ha, hb, h => by
    rw [List.pairwise_cons] at ha hb
    have h1 := (h x).1 (by simp)
    have h2 := (h y).2 (by simp)
    have hxy : x = y := by
      rcases List.mem_cons.1 h1 with e | e
      · exact e
      · rcases List.mem_cons.1 h2 with e' | e'
        · exact e'.symm
        · have := hb.1 x e; have := ha.1 y e'; omega
    subst hxy
    rw [sorted_ext a b ha.2 hb.2 (fun z => ?_)]
    have hz := h z
    simp only [List.mem_cons] at hz
    constructor
    · intro hm
      rcases hz.1 (.inr hm) with e | e
      · have := ha.1 z hm; omega
      · exact e
    · intro hm
      rcases hz.2 (.inr hm) with e | e
      · have := hb.1 z hm; omega
      · exact e

theorem isReached_unique {ss : List Stm} {wo : Int} {A B : List Int} (ha : IsReached ss wo A) (hb : IsReached ss wo B) : A = B :=
  sorted_ext A B ha.1 hb.1 (fun x => (ha.2 x).trans (hb.2 x).symm)

theorem isReached_some {ss : List Stm} (hp : procOk ss = true) (wo : Int) : ∃ A, IsReached ss wo A := by
  classical
  refine ⟨((List.range ss.length).filter (fun i => decide (Rch ss wo i))).map (fun i : Nat => (i : Int)), ?_, fun x => ?_⟩
  · rw [List.pairwise_map]
    exact (List.pairwise_lt_range.sublist List.filter_sublist).imp (fun h => by omega)
  · simp only [List.mem_map, List.mem_filter, List.mem_range, decide_eq_true_eq]
    constructor
    · rintro ⟨i, ⟨_, h⟩, rfl⟩; exact ⟨i, rfl, h⟩
    · rintro ⟨i, rfl, k, h⟩; exact ⟨i, ⟨rk_in hp h, k, h⟩, rfl⟩

theorem mem_ins (n : Int) : ∀ (xs : List Int) (x : Int), x ∈ ins n xs ↔ x = n ∨ x ∈ xs
  | [], x => by simp [ins]
  | y :: xs, x => by
    unfold ins
    split
    · simp only [List.mem_cons, mem_ins n xs x]
      constructor
      · rintro (h | h | h) <;> simp [h]
      · rintro (h | h | h) <;> simp [h]
    · split
      · rename_i h; subst h; simp
      · simp

theorem ins_sorted (n : Int) : ∀ xs : List Int, xs.Pairwise (· < ·) → (ins n xs).Pairwise (· < ·)
  | [], _ => by simp [ins]
  | y :: xs, h => by
    rw [List.pairwise_cons] at h
    unfold ins
    split
    · rename_i hy
      rw [List.pairwise_cons]
      refine ⟨fun z hz => ?_, ins_sorted n xs h.2⟩
      rcases (mem_ins n xs z).1 hz with rfl | hz
      · exact hy
      · exact h.1 z hz
    · split
      · rw [List.pairwise_cons]; exact h
      · rw [List.pairwise_cons, List.pairwise_cons]
        refine ⟨fun z hz => ?_, h⟩
        rcases List.mem_cons.1 hz with rfl | hz
        · omega
        · have := h.1 z hz; omega

theorem ins_len_new (n : Int) : ∀ xs : List Int, n ∉ xs → (ins n xs).length = xs.length + 1
  | [], _ => by simp [ins]
  | y :: xs, h => by
    simp only [List.mem_cons, not_or] at h
    unfold ins
    split
    · simp [ins_len_new n xs h.2]
    · split
      · omega
      · simp

theorem sorted_length : ∀ (a : List Int) (lo : Int) (n : Nat), a.Pairwise (· < ·) → (∀ x ∈ a, lo ≤ x ∧ x < lo + n) → a.length ≤ n
  | [], _, _, _, _ => by simp
  | x :: a, lo, n, h, hb => by
    rw [List.pairwise_cons] at h
    have hx := hb x (by simp)
    have hn : ((n - 1 - (x - lo).toNat : Nat) : Int) = n - 1 - (x - lo) := by omega
    have := sorted_length a (x + 1) (n - 1 - (x - lo).toNat) h.2 (fun y hy => by have := h.1 y hy; have := hb y (by simp [hy]); omega)
    simp only [List.length_cons]
    omega

/-- The state of a search that works its list off. -/
structure RInv (ss : List Stm) (wo : Int) (out todo : List Int) : Prop where
  sorted : out.Pairwise (· < ·)
  outR : ∀ x ∈ out, ∃ i : Nat, x = (i : Int) ∧ Rch ss wo i
  todoR : ∀ x ∈ todo, ∃ i : Nat, x = (i : Int) ∧ i < ss.length ∧ ((i : Int) ≠ wo → Rch ss wo i)
  zero : (0 : Int) ∈ out ∨ (0 : Int) ∈ todo ∨ (0 : Int) = wo
  closed : ∀ i : Nat, (i : Int) ∈ out → ∀ y ∈ nx ss i, y ∈ out ∨ y ∈ todo ∨ y = wo
  len : todo.length ≤ 1 + 2 * out.length

theorem RInv.start {ss : List Stm} (hp : procOk ss = true) (wo : Int) : RInv ss wo [] [0] where
  sorted := by simp
  outR := by simp
  todoR := fun x hx => by simp at hx; subst hx; exact ⟨0, rfl, by have := (procOk_parts hp).1; omega, fun h => ⟨0, h, rfl⟩⟩
  zero := by simp
  closed := by simp
  len := by simp

theorem RInv.outLen {ss : List Stm} {wo : Int} {out todo : List Int} (hp : procOk ss = true) (h : RInv ss wo out todo) : out.length ≤ 12 := by
  have h12 := (procOk_parts hp).2.1
  refine Nat.le_trans (sorted_length out 0 ss.length h.sorted (fun x hx => ?_)) h12
  obtain ⟨i, rfl, k, hk⟩ := h.outR x hx
  have := rk_in hp hk
  omega

theorem RInv.skip {ss : List Stm} {wo : Int} {out todo : List Int} {x : Int} (h : RInv ss wo out (x :: todo)) (hx : x = wo ∨ x ∈ out) : RInv ss wo out todo where
  sorted := h.sorted
  outR := h.outR
  todoR := fun y hy => h.todoR y (by simp [hy])
  zero := by
    rcases h.zero with h0 | h0 | h0
    · exact .inl h0
    · rcases List.mem_cons.1 h0 with e | e
      · rcases hx with hx | hx
        · exact .inr (.inr (e.trans hx))
        · exact .inl (e ▸ hx)
      · exact .inr (.inl e)
    · exact .inr (.inr h0)
  closed := fun i hi y hy => by
    rcases h.closed i hi y hy with h0 | h0 | h0
    · exact .inl h0
    · rcases List.mem_cons.1 h0 with e | e
      · rcases hx with hx | hx
        · exact .inr (.inr (e.trans hx))
        · exact .inl (e ▸ hx)
      · exact .inr (.inl e)
    · exact .inr (.inr h0)
  len := by have := h.len; simp at this; omega

theorem RInv.step {ss : List Stm} {wo : Int} {out todo : List Int} {i : Nat} (hp : procOk ss = true) (h : RInv ss wo out ((i : Int) :: todo)) (h1 : (i : Int) ≠ wo) (h2 : (i : Int) ∉ out) : RInv ss wo (ins i out) (todo ++ nx ss i) := by
  obtain ⟨i', e, hlt, hR⟩ := h.todoR i (by simp)
  obtain rfl : i = i' := by omega
  have hi := hR h1
  refine ⟨ins_sorted _ _ h.sorted, fun x hx => ?_, fun x hx => ?_, ?_, fun j hj y hy => ?_, ?_⟩
  · rcases (mem_ins _ _ _).1 hx with rfl | hx
    · exact ⟨i, rfl, hi⟩
    · exact h.outR x hx
  · rcases List.mem_append.1 hx with hx | hx
    · exact h.todoR x (by simp [hx])
    · obtain ⟨j, rfl, hj⟩ := nx_in hp hlt x hx
      obtain ⟨k, hk⟩ := hi
      exact ⟨j, rfl, hj, fun hne => ⟨k + 1, hne, i, hk, hx⟩⟩
  · rcases h.zero with h0 | h0 | h0
    · exact .inl ((mem_ins _ _ _).2 (.inr h0))
    · rcases List.mem_cons.1 h0 with e | e
      · exact .inl ((mem_ins _ _ _).2 (.inl e))
      · exact .inr (.inl (by simp [e]))
    · exact .inr (.inr h0)
  · rcases (mem_ins _ _ _).1 hj with e | hj
    · obtain rfl : j = i := by omega
      exact .inr (.inl (by simp [hy]))
    · rcases h.closed j hj y hy with h0 | h0 | h0
      · exact .inl ((mem_ins _ _ _).2 (.inr h0))
      · rcases List.mem_cons.1 h0 with e | e
        · exact .inl ((mem_ins _ _ _).2 (.inl e))
        · exact .inr (.inl (by simp [e]))
      · exact .inr (.inr h0)
  · have := h.len
    have h3 : (nx ss i).length ≤ 2 := nextsS_length _ _
    rw [ins_len_new _ _ h2, List.length_append]
    simp at this
    omega

theorem RInv.done {ss : List Stm} {wo : Int} {out : List Int} (h : RInv ss wo out []) : IsReached ss wo out := by
  refine ⟨h.sorted, fun x => ⟨h.outR x, ?_⟩⟩
  rintro ⟨i, rfl, k, hk⟩
  have key : ∀ (k i : Nat), rk ss wo k i → (i : Int) ∈ out := by
    intro k
    induction k with
    | zero =>
      intro i hk
      obtain ⟨h1, rfl⟩ := hk
      rcases h.zero with h0 | h0 | h0
      · exact h0
      · simp at h0
      · exact absurd h0 h1
    | succ k ih =>
      intro i hk
      obtain ⟨h1, j, hj, hm⟩ := hk
      rcases h.closed j (ih j hj) _ hm with h0 | h0 | h0
      · exact h0
      · simp at h0
      · exact absurd h0 h1
  exact key k i hk

end Go.Proofs.Ytmloeldgeegddaa
