/-
  szProgram with its upper bound.
-/
import Derived.Test.YtceialfhonkceaaProgs
namespace Go.Proofs.Ytceialfhonkceaa
set_option maxRecDepth 100000
open Go.ChangeShapes Go.WideShapes Go.ChangeAt Go.RowKit
set_option linter.unusedVariables false
set_option maxHeartbeats 4000000

end Go.Proofs.Ytceialfhonkceaa
