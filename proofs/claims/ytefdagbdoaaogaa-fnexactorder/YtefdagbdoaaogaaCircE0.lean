/-
  All graphs of up to three procedures, and some of four, asked one by one by the kernel.
-/
import Derived.Test.YtefdagbdoaaogaaCircM
namespace Go.Proofs.Ytefdagbdoaaogaa
set_option maxRecDepth 100000

theorem chk1 : (cand 1 0).all (chkRow 1) = true := by decide +kernel
theorem chk2 : (cand 2 0).all (chkRow 2) = true := by decide +kernel
theorem chk3 : (cand 3 0).all (chkRow 3) = true := by decide +kernel
theorem chk40 : chkRow 4 [] = true := by decide +kernel

end Go.Proofs.Ytefdagbdoaaogaa
