/-
  spec.l4Reached (all that one comes to without one statement), spec.Reached.
-/
import Derived.Test.YtefdagbdoaaogaaBfs
import Derived.Test.YtefdagbdoaaogaaQueueS
namespace Go.Proofs.Ytefdagbdoaaogaa
open Go.RowKit
set_option linter.unusedVariables false
set_option maxHeartbeats 1000000

def lenOf : Value → Nat
  | .slice _ n _ => n
  | _ => 0

theorem hasI_mem (xs : List Int) (n : Int) : xs.any (fun x => decide (x = n)) = decide (n ∈ xs) := by
  rw [Bool.eq_iff_iff]
  simp

end Go.Proofs.Ytefdagbdoaaogaa
