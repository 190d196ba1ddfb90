/-
  Chapter 13, texts: the parts of a right statement's word (for spec.l13Read and impl.stmtIn).
-/
import Derived.Test.YtbbcbfhijmhnkaaDoorReadSp
namespace Go.Proofs.YtbbcbfhijmhnkaaDoor
open Go.RowKit
set_option linter.unusedVariables false
set_option linter.unusedSimpArgs false

theorem dd2_no_comma {m : Nat} (h : m < 100) : (44 : UInt8) ∉ dd2 m := fun hm => by
  have := ((dd2_facts h).2.1 _ hm).1
  exact absurd this (by decide)

/-- What stands behind the letter, cut at the commas. -/
theorem word_split {t : Stm} (h : stmtOk t.k t.x t.y = true) : stmtT t = letter t.k :: joinT 44 ((told t).map (fun n => dd2 n.toNat)) ∧
    splitT 44 (joinT 44 ((told t).map (fun n => dd2 n.toNat))) = if told t = [] then [[]] else (told t).map (fun n => dd2 n.toNat) := by
  refine ⟨stmtT_two h, ?_⟩
  split
  · next e => rw [e]; rfl
  · next e =>
    refine splitT_join 44 _ (by simpa using e) (fun x hx => ?_)
    obtain ⟨n, hn, rfl⟩ := List.mem_map.1 hx
    have := (told_nums h).2 n hn
    exact dd2_no_comma (by omega)

/-- What a right statement's numbers are, by its Kind. -/
theorem told_kind {t : Stm} (h : stmtOk t.k t.x t.y = true) :
    (told t = [] ∧ t.x = 0 ∧ t.y = 0 ∧ t.k ≠ 7 ∧ t.k ≠ 8) ∨ (told t = [t.x] ∧ t.y = 0 ∧ t.k ≠ 7 ∧ t.k ≠ 8) ∨ (told t = [t.x, t.y] ∧ t.k ≠ 7 ∧ t.k ≠ 8) ∨ (told t = [t.y] ∧ t.x = 0 ∧ (t.k = 7 ∨ t.k = 8)) := by
  obtain ⟨k, x, y⟩ := t
  unfold stmtOk at h
  simp only [inB_wi, wiB] at h
  unfold told
  simp only
  by_cases h1 : k = 1 ∨ k = 9
  · rw [if_pos h1] at h
    simp at h
    refine .inl ⟨by rw [if_neg (by omega), if_neg (by omega), if_neg (by omega)], by omega, by omega, by omega, by omega⟩
  rw [if_neg h1] at h
  by_cases h2 : k = 2 ∨ k = 3
  · exact .inr (.inr (.inl ⟨by rw [if_pos h2], by omega, by omega⟩))
  rw [if_neg h2] at h
  by_cases h3 : k = 4 ∨ k = 5 ∨ k = 6
  · rw [if_pos h3] at h
    simp at h
    exact .inr (.inl ⟨by rw [if_neg h2, if_pos h3], by omega, by omega, by omega⟩)
  rw [if_neg h3] at h
  by_cases h4 : k = 7
  · rw [if_pos h4] at h
    simp at h
    exact .inr (.inr (.inr ⟨by rw [if_neg h2, if_neg h3, if_pos (.inl h4)], by omega, .inl h4⟩))
  rw [if_neg h4] at h
  by_cases h5 : k = 8
  · rw [if_pos h5] at h
    simp at h
    exact .inr (.inr (.inr ⟨by rw [if_neg h2, if_neg h3, if_pos (.inr h5)], by omega, .inr h5⟩))
  rw [if_neg h5] at h
  cases h

/-- The letter tells the Kind. -/
theorem letter_kind {k : Int} (h1 : 1 ≤ k) (h9 : k ≤ 9) : letter k = ([115, 99, 98, 108, 109, 116, 106, 107, 114] : List UInt8).getD (k.toNat - 1) 0 ∧ ∀ j : Int, 1 ≤ j → j ≤ 9 → letter j = letter k → j = k := by
  have e : ∀ n : Nat, n < 10 → 1 ≤ n → letter (n : Int) = ([115, 99, 98, 108, 109, 116, 106, 107, 114] : List UInt8).getD (n - 1) 0 := by decide
  have d : ∀ n : Nat, n < 10 → 1 ≤ n → ∀ m : Nat, m < 10 → 1 ≤ m → letter (n : Int) = letter (m : Int) → n = m := by decide
  have ek : ((k.toNat : Nat) : Int) = k := by omega
  refine ⟨by have := e k.toNat (by omega) (by omega); rw [ek] at this; exact this, fun j hj1 hj9 hjk => ?_⟩
  have ej : ((j.toNat : Nat) : Int) = j := by omega
  have := d j.toNat (by omega) (by omega) k.toNat (by omega) (by omega) (by rw [ek, ej]; exact hjk)
  omega

end Go.Proofs.YtbbcbfhijmhnkaaDoor
