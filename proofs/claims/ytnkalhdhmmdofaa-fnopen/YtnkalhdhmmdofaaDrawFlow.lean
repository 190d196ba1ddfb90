/-
  spec.l7DrawClient, DrawFlow, DrawEnter: clients and statements that are drawn.
-/
import Derived.Test.YtnkalhdhmmdofaaDrawStm
import Derived.Test.YtnkalhdhmmdofaaIntLaws
import Derived.Test.YtnkalhdhmmdofaaSpecFlow
namespace Go.Proofs.Ytnkalhdhmmdofaa
open Go.RowKit
set_option linter.unusedVariables false
set_option maxHeartbeats 2000000

theorem belowSet {base : Nat} {w0 w : World} (h : Below base w0 w) (b o : Nat) (v : Value) (hb : base ≤ b) : Below base w0 (w.setCell ⟨b, o, none⟩ v) := h.setCell hb v

end Go.Proofs.Ytnkalhdhmmdofaa
