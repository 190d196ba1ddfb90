/-
  Graphs of four procedures, asked one by one by the kernel.
-/
import Derived.Test.YtefdagbdoaaogaaCircM
namespace Go.Proofs.Ytefdagbdoaaogaa
set_option maxRecDepth 100000

theorem chk4r23 : chkRow 4 [2, 3] = true := by decide +kernel
theorem chk4r1 : chkRow 4 [1] = true := by decide +kernel

end Go.Proofs.Ytefdagbdoaaogaa
