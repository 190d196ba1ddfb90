/-
  spec.l13Do: one statement more.
-/
import Derived.Test.YtgpnoahmpmbgfaaDo13N
import Derived.BigRegion
namespace Go.Proofs.Ytgpnoahmpmbgfaa
open Go.RowKit
set_option linter.unusedVariables false
set_option linter.unusedSimpArgs false
set_option maxHeartbeats 8000000
set_option maxRecDepth 20000

end Go.Proofs.Ytgpnoahmpmbgfaa
