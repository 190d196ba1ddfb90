/-
  slices.Clone over int64, of a list that is not empty.
-/
import Derived.Test.YtciccbbgamklbaaG05Lists
import Derived.ArgAppend
namespace Go.Proofs.Ytciccbbgamklbaa
open Go.RowKit
set_option linter.unusedVariables false
set_option maxHeartbeats 1000000
set_option maxRecDepth 20000

/-- Lists of numbers as Go's. -/
def castLL (c : List (List Nat)) : List (List Int) := c.map (fun g => g.map (fun x : Nat => (x : Int)))

end Go.Proofs.Ytciccbbgamklbaa
