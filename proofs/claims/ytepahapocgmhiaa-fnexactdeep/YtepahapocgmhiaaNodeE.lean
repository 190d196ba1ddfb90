/-
  Chapter 1: count of a node.
-/
import Derived.Test.YtepahapocgmhiaaValTop
namespace Go.Proofs.Ytepahapocgmhiaa
open Go.RowKit
set_option linter.unusedVariables false
set_option linter.unusedSimpArgs false
set_option maxHeartbeats 4000000
set_option maxRecDepth 20000



end Go.Proofs.Ytepahapocgmhiaa
