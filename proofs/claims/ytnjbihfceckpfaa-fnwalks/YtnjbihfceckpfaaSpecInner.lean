/-
 Chapter 10, the specification's side: l10Inner.
-/
import Derived.Test.YtnjbihfceckpfaaG34TabSt
namespace Go.Proofs.Ytnjbihfceckpfaa
open Go.RowKit
set_option linter.unusedVariables false
set_option linter.unusedSimpArgs false
set_option maxHeartbeats 4000000
set_option maxRecDepth 20000

end Go.Proofs.Ytnjbihfceckpfaa
