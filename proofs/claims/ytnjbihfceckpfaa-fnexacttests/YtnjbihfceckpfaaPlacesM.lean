/-
  Chapter 11: lists of places, by procedure, then by statement.
-/
import Derived.Test.YtnjbihfceckpfaaPlOwn
import Derived.Test.YtnjbihfceckpfaaSpecFacts
namespace Go.Proofs.Ytnjbihfceckpfaa
open Go.RowKit
set_option linter.unusedVariables false
set_option maxHeartbeats 1000000

/-- The places of procedure i up to statement k, flat; of the first i procedures. -/
def rowPl (P : Nat → Nat → Bool) (i : Nat) : Nat → List Int
  | 0 => []
  | k + 1 => rowPl P i k ++ (if P i k then [(i : Int), (k : Int)] else [])
def allPl (P : Nat → Nat → Bool) (ps : List (List Stm)) : Nat → List Int
  | 0 => []
  | i + 1 => allPl P ps i ++ rowPl P i (ps.getD i []).length

theorem rowPl_len (P : Nat → Nat → Bool) (i : Nat) : ∀ k, ∃ n, (rowPl P i k).length = 2 * n ∧ n ≤ k
  | 0 => ⟨0, rfl, Nat.le_refl _⟩
  | k + 1 => by
    obtain ⟨n, h, hn⟩ := rowPl_len P i k
    unfold rowPl
    by_cases hp : P i k = true
    · exact ⟨n + 1, by rw [if_pos hp]; simp [h]; omega, by omega⟩
    · exact ⟨n, by rw [if_neg hp]; simp [h], by omega⟩

theorem allPl_len (P : Nat → Nat → Bool) {ps : List (List Stm)} (h12 : ∀ i (hi : i < ps.length), ps[i].length ≤ 12) : ∀ i, i ≤ ps.length → ∃ n, (allPl P ps i).length = 2 * n ∧ n ≤ 12 * i
  | 0, _ => ⟨0, rfl, Nat.le_refl _⟩
  | i + 1, hi => by
    obtain ⟨n, h, hn⟩ := allPl_len P h12 i (by omega)
    have hil : i < ps.length := by omega
    obtain ⟨m, h', hm⟩ := rowPl_len P i (ps.getD i []).length
    have e : (ps.getD i []).length = ps[i].length := by simp [List.getD, hil]
    have := h12 i hil
    exact ⟨n + m, by unfold allPl; simp only [List.length_append, h, h']; omega, by rw [e] at hm; omega⟩

theorem rowPl_congr {P Q : Nat → Nat → Bool} {i : Nat} : ∀ k, (∀ q, q < k → P i q = Q i q) → rowPl P i k = rowPl Q i k
  | 0, _ => rfl
  | k + 1, h => by unfold rowPl; rw [rowPl_congr k (fun q hq => h q (by omega)), h k (by omega)]
theorem allPl_congr {P Q : Nat → Nat → Bool} {ps : List (List Stm)} : ∀ i, i ≤ ps.length → (∀ j (hj : j < ps.length) q, q < ps[j].length → P j q = Q j q) → allPl P ps i = allPl Q ps i
  | 0, _, _ => rfl
  | i + 1, hi, h => by
    have hil : i < ps.length := by omega
    unfold allPl
    rw [allPl_congr i (by omega) h, rowPl_congr _ (fun q hq => h i hil q (by simpa [List.getD, hil] using hq))]

end Go.Proofs.Ytnjbihfceckpfaa
