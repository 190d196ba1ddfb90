/-
  spec.DrawNext: some Proc in rows of its own, and some number.
-/
import Derived.Test.YtciccbbgamklbaaDrawProc4
namespace Go.Proofs.Ytciccbbgamklbaa
open Go.RowKit
set_option linter.unusedVariables false
set_option maxHeartbeats 1000000
attribute [local go_sem ↓] Go.wp_at_zero Go.wp_at_succ

end Go.Proofs.Ytciccbbgamklbaa
