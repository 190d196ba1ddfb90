/-
  Graphs of four procedures, asked one by one by the kernel.
-/
import Derived.Test.YtedbglhekmeejaaCircM
namespace Go.Proofs.Ytedbglhekmeejaa
set_option maxRecDepth 100000

theorem chk4r3 : chkRow 4 [3] = true := by decide +kernel
theorem chk4r2 : chkRow 4 [2] = true := by decide +kernel

end Go.Proofs.Ytedbglhekmeejaa
