/-
  Graphs of four procedures, asked one by one by the kernel.
-/
import Derived.Test.YtefdagbdoaaogaaCircM
namespace Go.Proofs.Ytefdagbdoaaogaa
set_option maxRecDepth 100000

theorem chk4r13 : chkRow 4 [1, 3] = true := by decide +kernel
theorem chk4r12 : chkRow 4 [1, 2] = true := by decide +kernel
theorem chk4r123 : chkRow 4 [1, 2, 3] = true := by decide +kernel

end Go.Proofs.Ytefdagbdoaaogaa
