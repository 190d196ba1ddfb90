/-
  spec.Size, impl.Size.
-/
import Derived.Test.YtnjbihfceckpfaaProgOk
namespace Go.Proofs.Ytnjbihfceckpfaa
open Go.RowKit
set_option linter.unusedVariables false
set_option maxHeartbeats 1000000

def sumLen : List (List Stm) → Nat
  | [] => 0
  | p :: ps => p.length + sumLen ps

theorem sumLen_append : ∀ a b : List (List Stm), sumLen (a ++ b) = sumLen a + sumLen b
  | [], b => by simp [sumLen]
  | p :: a, b => by simp [sumLen, sumLen_append a b]; omega

theorem sumLen_take (ps : List (List Stm)) (k : Nat) (h : k < ps.length) : sumLen (ps.take (k + 1)) = sumLen (ps.take k) + ps[k].length := by
  rw [List.take_succ_eq_append_getElem h, sumLen_append]
  simp [sumLen]

/-- What both answer: how many statements. -/
def sizeOf3 (ps : List (List Stm)) : Int := if programOk ps then (sumLen ps : Int) else -1

theorem programOk_len {ps : List (List Stm)} (h : programOk ps = true) : ps.length ≤ 4 ∧ 1 ≤ ps.length ∧ ∀ p ∈ ps, procOk p = true ∧ p.all (callOk ps.length) = true := by
  unfold programOk at h
  simp only [Bool.and_eq_true, decide_eq_true_eq] at h
  refine ⟨h.1.2, h.1.1, fun p hp => ?_⟩
  have := List.all_eq_true.1 h.2 p hp
  unfold partOk at this
  simpa [Bool.and_eq_true] using this

theorem procOk_len {p : List Stm} (h : procOk p = true) : p.length ≤ 12 := by
  unfold procOk at h
  simp only [Bool.and_eq_true, decide_eq_true_eq] at h
  exact h.1.1.2

end Go.Proofs.Ytnjbihfceckpfaa
