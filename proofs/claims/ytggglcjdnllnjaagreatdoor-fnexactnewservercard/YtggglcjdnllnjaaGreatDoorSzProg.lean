/-
  szProgram with its upper bound.
-/
import Derived.Test.YtggglcjdnllnjaaGreatDoorProgs
namespace Go.Proofs.YtggglcjdnllnjaaGreatDoor
set_option maxRecDepth 100000
open Go.ChangeShapes Go.WideShapes Go.ChangeAt Go.RowKit
set_option linter.unusedVariables false
set_option maxHeartbeats 4000000

end Go.Proofs.YtggglcjdnllnjaaGreatDoor
