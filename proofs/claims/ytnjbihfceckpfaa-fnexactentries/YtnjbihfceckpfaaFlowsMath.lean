/-
  Chapter 7, mathematics: what a statement makes of a set, fact by fact.
-/
import Derived.Test.YtnjbihfceckpfaaSpecFlow
import Derived.Test.YtnjbihfceckpfaaRelMath
namespace Go.Proofs.Ytnjbihfceckpfaa
open Go.RowKit
set_option linter.unusedVariables false
set_option maxHeartbeats 1000000

theorem bit_made : ∀ j, j < 7 → ∀ x, x < 6 → ∀ t, t < 7 → ∀ b : Bool,
    bit (if b = true then lor (cut (unitL.getD j 0) (factN x)) (factN x) else cut (unitL.getD j 0) (factN x)) t = if t = x + 1 then b else decide (j = t) := by
  decide +kernel

theorem small_made : ∀ j, j < 7 → ∀ x, x < 6 → ∀ b : Bool,
    (0 ≤ (if b = true then lor (cut (unitL.getD j 0) (factN x)) (factN x) else cut (unitL.getD j 0) (factN x))) ∧ (if b = true then lor (cut (unitL.getD j 0) (factN x)) (factN x) else cut (unitL.getD j 0) (factN x)) ≤ 127 := by
  decide +kernel

theorem mkL_smalls (x : Nat) (hx : x < 6) (m : Int) : Smalls (mkL unitL (factN x) m) := by
  refine smalls_of (mkL_length _ _ _) (fun j hj => ?_)
  rw [mkL_getD _ _ _ _ hj]
  exact small_made j hj x hx (bit m j)

theorem bit_mkL (x : Nat) (hx : x < 6) (m : Int) (j : Nat) (hj : j < 7) (t : Nat) (ht : t < 7) : bit ((mkL unitL (factN x) m).getD j 0) t = if t = x + 1 then bit m j else decide (j = t) := by
  rw [mkL_getD _ _ _ _ hj]
  exact bit_made j hj x hx t ht (bit m j)

/-- Other facts stay. -/
theorem img_other (x : Nat) (hx : x < 6) (m s : Int) (t : Nat) (ht : t < 7) (hn : ¬ t = x + 1) : bit (img (mkL unitL (factN x) m) s) t = bit s t := by
  rw [Bool.eq_iff_iff, bit_img (mkL_smalls x hx m)]
  constructor
  · rintro ⟨i, hi, h1, h2⟩
    rw [bit_mkL x hx m i hi t ht, if_neg hn] at h2
    obtain rfl : i = t := by simpa using h2
    exact h1
  · intro h
    exact ⟨t, ht, h, by rw [bit_mkL x hx m t ht t ht, if_neg hn]; simp⟩

/-- The fact of X is made by those of m. -/
theorem img_own (x : Nat) (hx : x < 6) (m s : Int) : bit (img (mkL unitL (factN x) m) s) (x + 1) = true ↔ ∃ i, i < 7 ∧ bit s i = true ∧ bit m i = true := by
  rw [bit_img (mkL_smalls x hx m)]
  constructor
  · rintro ⟨i, hi, h1, h2⟩
    rw [bit_mkL x hx m i hi (x + 1) (by omega), if_pos rfl] at h2
    exact ⟨i, hi, h1, h2⟩
  · rintro ⟨i, hi, h1, h2⟩
    exact ⟨i, hi, h1, by rw [bit_mkL x hx m i hi (x + 1) (by omega), if_pos rfl]; exact h2⟩

theorem bit_fact : ∀ y, y < 6 → ∀ i, i < 7 → bit (factN y) i = decide (i = y + 1) := by decide +kernel

theorem own_copy (x y : Nat) (hx : x < 6) (hy : y < 6) (s : Int) : bit (img (mkL unitL (factN x) (factN y)) s) (x + 1) = bit s (y + 1) := by
  rw [Bool.eq_iff_iff, img_own x hx]
  constructor
  · rintro ⟨i, hi, h1, h2⟩
    rw [bit_fact y hy i hi] at h2
    obtain rfl : i = y + 1 := by simpa using h2
    exact h1
  · intro h
    exact ⟨y + 1, by omega, h, by rw [bit_fact y hy _ (by omega)]; simp⟩

theorem own_both (x y : Nat) (hx : x < 6) (hy : y < 6) (s : Int) : bit (img (mkL unitL (factN x) (lor (factN x) (factN y))) s) (x + 1) = (bit s (x + 1) || bit s (y + 1)) := by
  rw [Bool.eq_iff_iff, img_own x hx, Bool.or_eq_true]
  constructor
  · rintro ⟨i, hi, h1, h2⟩
    rw [bit_lor (factN_small x hx) (factN_small y hy), Bool.or_eq_true, bit_fact x hx i hi, bit_fact y hy i hi] at h2
    rcases h2 with h2 | h2
    · obtain rfl : i = x + 1 := by simpa using h2
      exact .inl h1
    · obtain rfl : i = y + 1 := by simpa using h2
      exact .inr h1
  · rintro (h | h)
    · exact ⟨x + 1, by omega, h, by rw [bit_lor (factN_small x hx) (factN_small y hy), bit_fact x hx _ (by omega)]; simp⟩
    · exact ⟨y + 1, by omega, h, by rw [bit_lor (factN_small x hx) (factN_small y hy), bit_fact y hy _ (by omega)]; simp⟩

theorem own_clear (x : Nat) (hx : x < 6) (s : Int) : bit (img (mkL unitL (factN x) 0) s) (x + 1) = false := by
  rw [Bool.eq_false_iff]
  intro h
  obtain ⟨i, hi, h1, h2⟩ := (img_own x hx 0 s).1 h
  rw [bit_zero] at h2
  exact absurd h2 (by simp)

theorem own_mark (x : Nat) (hx : x < 6) (s : Int) (h0 : bit s 0 = true) : bit (img (mkL unitL (factN x) 1) s) (x + 1) = true :=
  (img_own x hx 1 s).2 ⟨0, by omega, h0, by decide⟩

theorem flowL_smalls {c k x y : Int} (h : stmtOk k x y = true) : Smalls (flowL c k x y) := by
  obtain ⟨i, rfl, hi⟩ := stmtOk_x6 h
  unfold flowL
  split
  · exact mkL_smalls i hi _
  split
  · exact mkL_smalls i hi _
  split
  · exact mkL_smalls i hi _
  split
  · exact mkL_smalls i hi _
  exact unit_smalls

end Go.Proofs.Ytnjbihfceckpfaa
