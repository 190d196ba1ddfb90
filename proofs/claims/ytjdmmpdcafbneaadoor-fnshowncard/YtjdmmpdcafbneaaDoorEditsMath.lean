/-
  FnEdits, the mathematics: an Edit that is undone makes the Program again.
-/
import Derived.Test.YtjdmmpdcafbneaaDoorG47Und
namespace Go.Proofs.YtjdmmpdcafbneaaDoor
open Go.RowKit
set_option linter.unusedVariables false
set_option linter.unusedSimpArgs false

theorem jmp_back_add (j : Int) (s : Stm) : jmp (j + 1) (-1) (jmp j 1 s) = s := by
  obtain ⟨k, x, y⟩ := s
  unfold jmp
  by_cases h : k = 7 ∧ j ≤ y
  · simp only [h, and_self, if_true]
    obtain ⟨h1, h2⟩ := h
    rw [if_pos ⟨trivial, by omega⟩]
    congr 1
    omega
  · rw [if_neg h, if_neg (fun h' => h ⟨h'.1, by have := h'.2; simp only at this; omega⟩)]

theorem jmp_back_drop (j : Int) (s : Stm) (h : ¬ (s.k = 7 ∧ s.y = j)) : jmp j 1 (jmp (j + 1) (-1) s) = s := by
  obtain ⟨k, x, y⟩ := s
  simp only at h
  unfold jmp
  by_cases h1 : k = 7 ∧ j + 1 ≤ y
  · simp only [h1, and_self, if_true]
    obtain ⟨h2, h3⟩ := h1
    rw [if_pos ⟨trivial, by omega⟩]
    congr 1
    omega
  · rw [if_neg h1, if_neg (fun h' => h1 ⟨h'.1, by have h9 := h'.2; simp only at h9; have : ¬ y = j := fun e => h ⟨h'.1, e⟩; omega⟩)]

theorem edSet_back (p : List Stm) (j : Nat) (s : Stm) (h : j < p.length) : edSet (edSet p j s) j p[j] = p := by
  unfold edSet
  have h1 : (p.take j).length = j := by simp; omega
  rw [List.take_append_of_le_length (by omega), List.take_of_length_le (by omega), List.drop_append, h1]
  have h2 : List.drop (j + 1) (p.take j) = [] := List.drop_of_length_le (by omega)
  have h3 : j + 1 - j = 1 := by omega
  rw [h2, h3]
  simp

theorem edAdd_back (p : List Stm) (j : Nat) (s : Stm) (h : j < p.length) : edDrop (edAdd p j s) j = p := by
  have e1 : mv ((j : Int) + 1) (-1) (mv (j : Int) 1 p) = p := by
    unfold mv
    rw [List.map_map]
    have : (jmp ((j : Int) + 1) (-1)) ∘ (jmp (j : Int) 1) = id := by funext s; exact jmp_back_add _ s
    rw [this, List.map_id]
  have hml := mv_length (j : Int) 1 p
  unfold edDrop edAdd
  generalize hq : mv (j : Int) 1 p = q at *
  have hm : ∀ a b : List Stm, mv ((j : Int) + 1) (-1) (a ++ b) = mv ((j : Int) + 1) (-1) a ++ mv ((j : Int) + 1) (-1) b := fun a b => by simp [mv]
  have hc : ∀ (s : Stm) (b : List Stm), mv ((j : Int) + 1) (-1) (s :: b) = jmp ((j : Int) + 1) (-1) s :: mv ((j : Int) + 1) (-1) b := fun s b => by simp [mv]
  have h1 : (mv ((j : Int) + 1) (-1) (q.take j)).length = j := by rw [mv_length]; simp; omega
  rw [hm, hc, List.take_append_of_le_length (by omega), List.take_of_length_le (by omega), List.drop_append, h1, List.drop_of_length_le (by omega)]
  have h3 : j + 1 - j = 1 := by omega
  rw [h3]
  simp only [List.drop_succ_cons, List.drop_zero, List.nil_append]
  rw [← hm, List.take_append_drop, e1]

theorem edDrop_back (p : List Stm) (j : Nat) (h : j < p.length) (hj : jumpTo p (j : Int) = false) : edAdd (edDrop p j) j p[j] = p := by
  have hno : ∀ s ∈ p, ¬ (s.k = 7 ∧ s.y = (j : Int)) := fun s hs hh => by
    unfold jumpTo at hj
    rw [List.any_eq_false] at hj
    exact hj s hs (by simp [hh.1, hh.2])
  have e1 : mv (j : Int) 1 (mv ((j : Int) + 1) (-1) p) = p := by
    unfold mv
    rw [List.map_map]
    have : ∀ l : List Stm, (∀ s ∈ l, ¬ (s.k = 7 ∧ s.y = (j : Int))) → l.map ((jmp (j : Int) 1) ∘ (jmp ((j : Int) + 1) (-1))) = l := by
      intro l hl
      induction l with
      | nil => rfl
      | cons s l ih =>
        rw [List.map_cons, ih (fun s hs => hl s (by simp [hs]))]
        congr 1
        exact jmp_back_drop _ s (hl s (by simp))
    exact this p hno
  have hml := mv_length ((j : Int) + 1) (-1) p
  unfold edDrop edAdd
  generalize hq : mv ((j : Int) + 1) (-1) p = q at *
  have hm : ∀ a b : List Stm, mv (j : Int) 1 (a ++ b) = mv (j : Int) 1 a ++ mv (j : Int) 1 b := fun a b => by simp [mv]
  have h1 : (mv (j : Int) 1 (q.take j)).length = j := by rw [mv_length]; simp; omega
  rw [hm, List.take_append_of_le_length (by omega), List.take_of_length_le (by omega), List.drop_append, h1, List.drop_of_length_le (by omega), Nat.sub_self, List.nil_append, List.drop_zero]
  have h5 : mv (j : Int) 1 (q.take j) = p.take j := by
    have h6 : mv (j : Int) 1 (q.take j) = (mv (j : Int) 1 q).take j := by simp [mv]
    rw [h6, e1]
  have h7 : mv (j : Int) 1 (q.drop (j + 1)) = p.drop (j + 1) := by
    have h8 : mv (j : Int) 1 (q.drop (j + 1)) = (mv (j : Int) 1 q).drop (j + 1) := by simp [mv]
    rw [h8, e1]
  rw [h5, h7, ← split_at p j h]

theorem edited13_some {ps qs : List (List Stm)} {e : Edt} (h : edited13 ps e.k e.pr e.a e.s = some qs) : programOk ps = true ∧ programOk qs = true ∧ made13 ps e.k e.pr e.a e.s = some qs := by
  unfold edited13 at h
  by_cases h1 : programOk ps = true
  · rw [if_pos h1] at h
    cases h2 : made13 ps e.k e.pr e.a e.s with
    | none => rw [h2] at h; cases h
    | some rs =>
      rw [h2] at h
      simp only at h
      by_cases h3 : programOk rs = true
      · rw [if_pos h3] at h
        cases h
        exact ⟨h1, h3, rfl⟩
      · rw [if_neg h3] at h
        cases h
  · rw [if_neg h1] at h
    cases h

/-- An Edit that is undone makes the Program again. -/
theorem undone_back {ps qs : List (List Stm)} {e u : Edt} (h : edited13 ps e.k e.pr e.a e.s = some qs) (hu : undone13 ps e = some u) : edited13 qs u.k u.pr u.a u.s = some ps := by
  obtain ⟨hok, hqk, hm⟩ := edited13_some h
  obtain ⟨_, hk, i, j, hi, hpr, ha, hj⟩ := edited13_place (by rw [h]; rfl)
  unfold undone13 at hu
  rw [h] at hu
  simp only [Option.isSome_some, if_true] at hu
  obtain ⟨k, pr, a, s⟩ := e
  simp only at *
  subst hpr ha
  have hgd : ps.getD i [] = ps[i] := by simp [List.getD, hi]
  have hgs : ps[i].getD j ⟨0, 0, 0⟩ = ps[i][j] := by simp [List.getD, hj]
  simp only [Int.toNat_natCast, hgd, hgs] at hu
  have hw1 : wiB (i : Int) (ps.length : Int) = true := by simp [wiB]; omega
  have hw2 : wiB (j : Int) (ps[i].length : Int) = true := by simp [wiB]; omega
  have key : ∀ (R : List Stm) (k' : Int) (s' : Stm), qs = ps.set i R → made13 (ps.set i R) k' i j s' = some ps → edited13 qs k' i j s' = some ps := by
    intro R k' s' e1 e2
    unfold edited13
    rw [if_pos hqk, e1, e2]
    simp [hok]
  unfold made13 at hm
  rcases hk with rfl | rfl | rfl | rfl
  · simp only [Int.reduceEq, if_false, if_true, Int.toNat_natCast, hgd, hw1, hw2, Bool.and_self, Option.some.injEq] at hm hu
    subst hu
    simp only
    refine key _ _ _ hm.symm ?_
    unfold made13
    have hg2 : (ps.set i (edSet ps[i] j s)).getD i [] = edSet ps[i] j s := by simp [List.getD, hi]
    have hl2 : (edSet ps[i] j s).length = ps[i].length := by simp [edSet]; omega
    simp only [Int.reduceEq, if_false, if_true, Int.toNat_natCast, hg2, hl2, List.length_set, hw1, hw2, Bool.and_self, List.set_set, edSet_back ps[i] j s hj]
    congr 1
    exact List.ext_getElem? (fun q => by by_cases e : i = q <;> simp [List.getElem?_set, e, hi] <;> (subst e; simp [hi]))
  · simp only [Int.reduceEq, if_false, if_true, Int.toNat_natCast, hgd, hw1, hw2, Bool.and_self, Option.some.injEq] at hm hu
    subst hu
    simp only
    refine key _ _ _ hm.symm ?_
    unfold made13
    have hg2 : (ps.set i (edAdd ps[i] j s)).getD i [] = edAdd ps[i] j s := by simp [List.getD, hi]
    have hl2 : (edAdd ps[i] j s).length = ps[i].length + 1 := by simp [edAdd, mv_length]; omega
    have hw3 : wiB (j : Int) ((ps[i].length + 1 : Nat) : Int) = true := by simp [wiB]; omega
    have hz : zeroS ⟨0, 0, 0⟩ = true := by decide
    simp only [Int.reduceEq, if_false, if_true, Int.toNat_natCast, hg2, hl2, List.length_set, hw1, hw3, Bool.and_self, List.set_set, hz, edAdd_back ps[i] j s hj]
    congr 1
    exact List.ext_getElem? (fun q => by by_cases e : i = q <;> simp [List.getElem?_set, e, hi] <;> (subst e; simp [hi]))
  · simp only [Int.reduceEq, if_false, if_true, Int.toNat_natCast, hgd, hw1, hw2, Bool.and_self] at hm hu
    split at hu
    · rename_i hc
      simp only [Bool.and_eq_true, decide_eq_true_eq, Bool.not_eq_true'] at hc
      obtain rfl := Option.some.inj hu
      simp only
      split at hm
      · have hm := Option.some.inj hm
        refine key _ _ _ hm.symm ?_
        unfold made13
        have hg2 : (ps.set i (edDrop ps[i] j)).getD i [] = edDrop ps[i] j := by simp [List.getD, hi]
        have hl2 : (edDrop ps[i] j).length = ps[i].length - 1 := by simp [edDrop, mv_length]; omega
        have hw3 : wiB (j : Int) ((ps[i].length - 1 : Nat) : Int) = true := by simp [wiB]; omega
        simp only [Int.reduceEq, if_false, if_true, Int.toNat_natCast, hg2, hl2, List.length_set, hw1, hw3, Bool.and_self, List.set_set, edDrop_back ps[i] j hj hc.2]
        congr 1
        exact List.ext_getElem? (fun q => by by_cases e : i = q <;> simp [List.getElem?_set, e, hi] <;> (subst e; simp [hi]))
      · cases hm
    · cases hu
  · simp at hu

end Go.Proofs.YtjdmmpdcafbneaaDoor
