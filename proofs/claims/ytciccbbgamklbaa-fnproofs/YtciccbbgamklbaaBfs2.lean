/-
  Mathematics: the search nearest first, with the size of a shortest way.
-/
import Derived.Test.YtciccbbgamklbaaG04VisitsM
namespace Go.Proofs.Ytciccbbgamklbaa
set_option linter.unusedVariables false

/-- A statement and the size of a shortest way to it. -/
def DP (ss : List Stm) (p : Int × Int) : Prop := ∃ i k : Nat, p.1 = (i : Int) ∧ p.2 = (k : Int) + 1 ∧ i < ss.length ∧ k ≤ 12 ∧ rk ss (-1) k i ∧ ∀ k', k' < k → ¬ rk ss (-1) k' i

def zeros (ds : List Int) : Nat := ds.countP (fun x => x == 0)

theorem zeros_set : ∀ (ds : List Int) (j : Nat) (x : Int), ds[j]? = some 0 → x ≠ 0 → zeros (ds.set j x) + 1 = zeros ds
  | [], j, x, h, _ => by simp at h
  | y :: ds, 0, x, h, hx => by
    simp at h; subst h
    simp [zeros, hx]
  | y :: ds, j + 1, x, h, hx => by
    have := zeros_set ds j x (by simpa using h) hx
    simp only [zeros, List.set_cons_succ, List.countP_cons] at *
    omega

theorem getD_set (ds : List Int) (j i : Nat) (x : Int) (hj : j < ds.length) : (ds.set j x).getD i 0 = if i = j then x else ds.getD i 0 := by
  simp only [List.getD, List.getElem?_set]
  by_cases h : j = i
  · subst h; simp [hj]
  · rw [if_neg h, if_neg (fun e => h e.symm)]

/-- The state while statement a is worked on: its first m nexts are done; qs stand behind it. -/
structure BMid (ss : List Stm) (pre : List Int) (a : Nat) (qs : List Int) (ds : List Int) (m : Nat) : Prop where
  len : ds.length = 12
  zero : ds.getD 0 0 = 1
  disc : ∀ i : Nat, ds.getD i 0 ≠ 0 ↔ ((i : Int) ∈ pre ∨ i = a ∨ (i : Int) ∈ qs)
  nat : ∀ x ∈ qs, ∃ i : Nat, x = (i : Int)
  inr : ∀ i : Nat, ds.getD i 0 ≠ 0 → i < ss.length
  path : ∀ i : Nat, ds.getD i 0 ≠ 0 → ∃ k : Nat, ds.getD i 0 = (k : Int) + 1 ∧ rk ss (-1) k i
  exp : ∀ i : Nat, (i : Int) ∈ pre → ∀ j : Nat, (j : Int) ∈ nx ss i → ds.getD j 0 ≠ 0 ∧ ds.getD j 0 ≤ ds.getD i 0 + 1
  expA : ∀ j : Nat, (j : Int) ∈ (nx ss a).take m → ds.getD j 0 ≠ 0 ∧ ds.getD j 0 ≤ ds.getD a 0 + 1
  low : ∀ q : Nat, (q : Int) ∈ qs → ds.getD a 0 ≤ ds.getD q 0 ∧ ds.getD q 0 ≤ ds.getD a 0 + 1
  mono : qs.Pairwise (fun x y => ds.getD x.toNat 0 ≤ ds.getD y.toNat 0)
  cnt : pre.length + 1 + qs.length + zeros ds = 12
  past : ∀ i : Nat, (i : Int) ∈ pre → ds.getD i 0 ≤ ds.getD a 0
  max : ∀ i : Nat, ds.getD i 0 ≤ pre.length + 2
  maxA : ds.getD a 0 ≤ pre.length + 1

/-- The state between two statements. -/
structure BInv (ss : List Stm) (pre : List Int) (qs : List Int) (ds : List Int) : Prop where
  len : ds.length = 12
  zero : ds.getD 0 0 = 1
  disc : ∀ i : Nat, ds.getD i 0 ≠ 0 ↔ ((i : Int) ∈ pre ∨ (i : Int) ∈ qs)
  nat : ∀ x ∈ qs, ∃ i : Nat, x = (i : Int)
  inr : ∀ i : Nat, ds.getD i 0 ≠ 0 → i < ss.length
  path : ∀ i : Nat, ds.getD i 0 ≠ 0 → ∃ k : Nat, ds.getD i 0 = (k : Int) + 1 ∧ rk ss (-1) k i
  exp : ∀ i : Nat, (i : Int) ∈ pre → ∀ j : Nat, (j : Int) ∈ nx ss i → ds.getD j 0 ≠ 0 ∧ ds.getD j 0 ≤ ds.getD i 0 + 1
  low : ∀ (h : Nat) (r : List Int), qs = (h : Int) :: r → ∀ q : Nat, (q : Int) ∈ r → ds.getD h 0 ≤ ds.getD q 0 ∧ ds.getD q 0 ≤ ds.getD h 0 + 1
  mono : qs.Pairwise (fun x y => ds.getD x.toNat 0 ≤ ds.getD y.toNat 0)
  cnt : pre.length + qs.length + zeros ds = 12
  past : ∀ i q : Nat, (i : Int) ∈ pre → (q : Int) ∈ qs → ds.getD i 0 ≤ ds.getD q 0
  max : ∀ i : Nat, ds.getD i 0 ≤ pre.length + 1

theorem BInv.start {ss : List Stm} (hp : procOk ss = true) : BInv ss [] [0] [1, 0, 0, 0, 0, 0, 0, 0, 0, 0, 0, 0] := by
  have h1 := (procOk_parts hp).1
  have key : ∀ i : Nat, ([1, 0, 0, 0, 0, 0, 0, 0, 0, 0, 0, 0] : List Int).getD i 0 = if i = 0 then 1 else 0 := by
    intro i
    rcases Nat.lt_or_ge i 12 with h | h
    · have : i = 0 ∨ i = 1 ∨ i = 2 ∨ i = 3 ∨ i = 4 ∨ i = 5 ∨ i = 6 ∨ i = 7 ∨ i = 8 ∨ i = 9 ∨ i = 10 ∨ i = 11 := by omega
      rcases this with rfl | rfl | rfl | rfl | rfl | rfl | rfl | rfl | rfl | rfl | rfl | rfl <;> rfl
    · rw [List.getD, List.getElem?_eq_none (by simpa using h), if_neg (by omega)]; rfl
  refine ⟨rfl, rfl, fun i => ?_, fun x hx => ⟨0, by simpa using hx⟩, fun i hi => ?_, fun i hi => ?_, by simp, ?_, by simp, rfl, by simp, fun i => ?_⟩
  · rw [key]; by_cases h : i = 0 <;> simp [h]
  · rw [key] at hi; by_cases h : i = 0
    · omega
    · simp [h] at hi
  · rw [key] at hi ⊢; by_cases h : i = 0
    · subst h; exact ⟨0, by simp, by simp [rk]⟩
    · simp [h] at hi
  · intro h r e q hq
    have : r = [] := by simp at e; exact e.2
    subst this; simp at hq
  · rw [key]; by_cases h : i = 0 <;> simp [h]

/-- A number that is reached is known and no farther than its way, or something that waits is nearer. -/
theorem BInv.near {ss : List Stm} {pre qs ds : List Int} (h : BInv ss pre qs ds) : ∀ (k j : Nat), rk ss (-1) k j → (ds.getD j 0 ≠ 0 ∧ ds.getD j 0 ≤ (k : Int) + 1) ∨ ∃ q : Nat, (q : Int) ∈ qs ∧ ds.getD q 0 ≤ (k : Int) := by
  intro k
  induction k with
  | zero =>
    intro j hj
    obtain ⟨_, rfl⟩ := hj
    exact .inl ⟨by rw [h.zero]; omega, by rw [h.zero]; omega⟩
  | succ k ih =>
    intro j hj
    obtain ⟨_, i, hi, hm⟩ := hj
    rcases ih i hi with ⟨h1, h2⟩ | ⟨q, hq, h2⟩
    · rcases (h.disc i).1 h1 with hp | hq
      · obtain ⟨h3, h4⟩ := h.exp i hp j hm
        exact .inl ⟨h3, by omega⟩
      · exact .inr ⟨i, hq, by omega⟩
    · exact .inr ⟨q, hq, by omega⟩

theorem BInv.open {ss : List Stm} {pre qs ds : List Int} {a : Nat} (h : BInv ss pre ((a : Int) :: qs) ds) : BMid ss pre a qs ds 0 where
  len := h.len
  zero := h.zero
  disc := fun i => by
    rw [h.disc i, List.mem_cons]
    constructor
    · rintro (h1 | h1 | h1)
      · exact .inl h1
      · exact .inr (.inl (by omega))
      · exact .inr (.inr h1)
    · rintro (h1 | h1 | h1)
      · exact .inl h1
      · exact .inr (.inl (by omega))
      · exact .inr (.inr h1)
  nat := fun x hx => h.nat x (by simp [hx])
  inr := h.inr
  path := h.path
  exp := h.exp
  expA := by simp
  low := h.low a qs rfl
  mono := (List.pairwise_cons.1 h.mono).2
  cnt := by have := h.cnt; simp at this; omega
  past := fun i hi => h.past i a hi (by simp)
  max := fun i => by have := h.max i; omega
  maxA := h.max a

/-- What is told of the head of the list. -/
theorem BInv.dp {ss : List Stm} {pre qs ds : List Int} {a : Nat} (h : BInv ss pre ((a : Int) :: qs) ds) : DP ss ((a : Int), ds.getD a 0) := by
  have ha : ds.getD a 0 ≠ 0 := (h.disc a).2 (.inr (by simp))
  obtain ⟨k, e, hk⟩ := h.path a ha
  refine ⟨a, k, rfl, e, h.inr a ha, by have := h.max a; have := h.cnt; simp at this; omega, hk, fun k' hk' hr => ?_⟩
  rcases h.near k' a hr with ⟨_, h2⟩ | ⟨q, hq, h2⟩
  · omega
  · rcases List.mem_cons.1 hq with e' | e'
    · obtain rfl : q = a := by omega
      omega
    · have := (h.low a qs rfl q e').1
      omega

theorem BMid.known {ss : List Stm} {pre : List Int} {a : Nat} {qs ds : List Int} {m j : Nat} (h : BMid ss pre a qs ds m) (hj : (nx ss a)[m]? = some (j : Int)) (h0 : ds.getD j 0 ≠ 0) : BMid ss pre a qs ds (m + 1) := by
  refine { h with expA := fun i hi => ?_ }
  have hlt : m < (nx ss a).length := (List.getElem?_eq_some_iff.1 hj).1
  rw [List.take_succ_eq_append_getElem hlt, List.mem_append] at hi
  rcases hi with hi | hi
  · exact h.expA i hi
  · have e : (nx ss a)[m] = (j : Int) := (List.getElem?_eq_some_iff.1 hj).2
    simp [e] at hi
    obtain rfl : i = j := by omega
    refine ⟨h0, ?_⟩
    -- it was known already: it is among those that are worked off, a, or those that wait
    rcases (h.disc i).1 h0 with hp | rfl | hq
    · have := h.past i hp; omega
    · omega
    · exact (h.low i hq).2

theorem BMid.found {ss : List Stm} {pre : List Int} {a : Nat} {qs ds : List Int} {m j : Nat} (h : BMid ss pre a qs ds m) (hj : (nx ss a)[m]? = some (j : Int)) (hlt : j < ss.length) (h12 : ss.length ≤ 12) (h0 : ds.getD j 0 = 0) :
    BMid ss pre a (qs ++ [(j : Int)]) (ds.set j (ds.getD a 0 + 1)) (m + 1) := by
  have hjl : j < ds.length := by rw [h.len]; omega
  have ha : ds.getD a 0 ≠ 0 := (h.disc a).2 (.inr (.inl rfl))
  obtain ⟨ka, ea, hka⟩ := h.path a ha
  have gs := fun i => getD_set ds j i (ds.getD a 0 + 1) hjl
  have hne : ∀ i : Nat, ds.getD i 0 ≠ 0 → i ≠ j := fun i hi e => hi (e ▸ h0)
  have old : ∀ i : Nat, ds.getD i 0 ≠ 0 → (ds.set j (ds.getD a 0 + 1)).getD i 0 = ds.getD i 0 := fun i hi => by rw [gs, if_neg (hne i hi)]
  have hjm : (j : Int) ∈ nx ss a := List.mem_of_getElem? hj
  refine ⟨by simp [h.len], ?_, fun i => ?_, fun x hx => ?_, fun i hi => ?_, fun i hi => ?_, fun i hi j' hj' => ?_, fun i hi => ?_, fun q hq => ?_, ?_, ?_, fun i hi => ?_, fun i => ?_, ?_⟩
  · rw [old 0 (by rw [h.zero]; omega)]; exact h.zero
  · rw [gs, List.mem_append]
    by_cases e : i = j
    · subst e
      rw [if_pos rfl]
      exact ⟨fun _ => .inr (.inr (.inr (by simp))), fun _ => by omega⟩
    · rw [if_neg e, h.disc i]
      constructor
      · rintro (h1 | h1 | h1)
        · exact .inl h1
        · exact .inr (.inl h1)
        · exact .inr (.inr (.inl h1))
      · rintro (h1 | h1 | h1 | h1)
        · exact .inl h1
        · exact .inr (.inl h1)
        · exact .inr (.inr h1)
        · simp at h1; omega
  · rcases List.mem_append.1 hx with hx | hx
    · exact h.nat x hx
    · exact ⟨j, by simpa using hx⟩
  · by_cases e : i = j
    · omega
    · rw [gs, if_neg e] at hi; exact h.inr i hi
  · by_cases e : i = j
    · subst e
      exact ⟨ka + 1, by rw [gs, if_pos rfl, ea]; push_cast; omega, by have : ((i : Nat) : Int) ≠ -1 := by omega
                                                                      exact ⟨this, a, hka, hjm⟩⟩
    · rw [gs, if_neg e] at hi ⊢; exact h.path i hi
  · obtain ⟨h1, h2⟩ := h.exp i hi j' hj'
    have h3 : ds.getD i 0 ≠ 0 := (h.disc i).2 (.inl hi)
    rw [old j' h1, old i h3]
    exact ⟨h1, h2⟩
  · have hm : m < (nx ss a).length := (List.getElem?_eq_some_iff.1 hj).1
    rw [List.take_succ_eq_append_getElem hm, List.mem_append] at hi
    rw [old a ha]
    rcases hi with hi | hi
    · obtain ⟨h1, h2⟩ := h.expA i hi
      rw [old i h1]
      exact ⟨h1, h2⟩
    · have e : (nx ss a)[m] = (j : Int) := (List.getElem?_eq_some_iff.1 hj).2
      simp [e] at hi
      obtain rfl : i = j := by omega
      rw [gs, if_pos rfl]
      omega
  · rw [old a ha]
    rcases List.mem_append.1 hq with hq | hq
    · have h1 : ds.getD q 0 ≠ 0 := (h.disc q).2 (.inr (.inr hq))
      rw [old q h1]; exact h.low q hq
    · simp at hq
      obtain rfl : q = j := by omega
      rw [gs, if_pos rfl]; omega
  · rw [List.pairwise_append]
    refine ⟨h.mono.imp_of_mem (fun {x y} hx hy hxy => ?_), by simp, fun x hx y hy => ?_⟩
    · obtain ⟨i, rfl⟩ := h.nat x hx
      obtain ⟨i', rfl⟩ := h.nat y hy
      simp only [Int.toNat_natCast] at hxy ⊢
      rw [old i ((h.disc i).2 (.inr (.inr hx))), old i' ((h.disc i').2 (.inr (.inr hy)))]
      exact hxy
    · obtain ⟨i, rfl⟩ := h.nat x hx
      simp at hy
      subst hy
      simp only [Int.toNat_natCast]
      rw [old i ((h.disc i).2 (.inr (.inr hx))), gs, if_pos rfl]
      exact (h.low i hx).2
  · have hz : ds[j]? = some 0 := by
      rw [List.getD, List.getElem?_eq_getElem hjl] at h0
      rw [List.getElem?_eq_getElem hjl]
      simpa using h0
    have := zeros_set ds j (ds.getD a 0 + 1) hz (by omega)
    have := h.cnt
    simp only [List.length_append, List.length_cons, List.length_nil]
    omega
  · rw [old a ha, old i ((h.disc i).2 (.inl hi))]
    exact h.past i hi
  · rw [gs]
    split
    · have := h.maxA; omega
    · exact h.max i
  · rw [old a ha]; exact h.maxA

theorem BMid.close {ss : List Stm} {pre : List Int} {a : Nat} {qs ds : List Int} {m : Nat} (h : BMid ss pre a qs ds m) (hm : (nx ss a).length ≤ m) : BInv ss (pre ++ [(a : Int)]) qs ds := by
  refine ⟨h.len, h.zero, fun i => ?_, h.nat, h.inr, h.path, fun i hi j hj => ?_, fun hd r e q hq => ?_, h.mono, ?_, fun i q hi hq => ?_, fun i => ?_⟩
  · rw [h.disc i, List.mem_append]
    constructor
    · rintro (h1 | h1 | h1)
      · exact .inl (.inl h1)
      · exact .inl (.inr (by simp [h1]))
      · exact .inr h1
    · rintro ((h1 | h1) | h1)
      · exact .inl h1
      · exact .inr (.inl (by simp at h1; omega))
      · exact .inr (.inr h1)
  · rcases List.mem_append.1 hi with hi | hi
    · exact h.exp i hi j hj
    · simp at hi
      obtain rfl : i = a := by omega
      exact h.expA j (by rw [List.take_of_length_le hm]; exact hj)
  · have h1 := h.low hd (by rw [e]; simp)
    have h2 := h.low q (by rw [e]; simp [hq])
    have h3 := h.mono
    rw [e, List.pairwise_cons] at h3
    have h4 := h3.1 q hq
    simp only [Int.toNat_natCast] at h4
    omega
  · have := h.cnt; simp; omega
  · rcases List.mem_append.1 hi with hi | hi
    · have := h.past i hi; have := (h.low q hq).1; omega
    · simp at hi
      obtain rfl : i = a := by omega
      exact (h.low q hq).1
  · have := h.max i
    rw [List.length_append, List.length_singleton]
    omega

theorem BInv.end_ {ss : List Stm} {pre ds : List Int} (h : BInv ss pre [] ds) : ∀ j : Nat, Rch ss (-1) j → (j : Int) ∈ pre := by
  rintro j ⟨k, hk⟩
  rcases h.near k j hk with ⟨h1, _⟩ | ⟨q, hq, _⟩
  · rcases (h.disc j).1 h1 with hp | hq
    · exact hp
    · simp at hq
  · simp at hq

end Go.Proofs.Ytciccbbgamklbaa
