/-
  impl.need, impl.cameThrough's deferred closure.
-/
import Derived.Test.YtgpnoahmpmbgfaaDoorRen14
import Derived.Defers
import Derived.Recover
import Derived.WalkLawsBesides
namespace Go.Proofs.YtgpnoahmpmbgfaaDoor
open Go.RowKit
set_option linter.unusedVariables false
set_option linter.unusedSimpArgs false
set_option maxHeartbeats 4000000
set_option maxRecDepth 20000

/-- What need gives up with. -/
def notTold : Value := .iface 9 (.string ⟨#[110, 111, 116, 32, 97, 115, 32, 116, 111, 108, 100]⟩)

theorem need_yes (w : World) : Calls Tryd.prog 54 #[.bool true] w fun e w' => e = .returned (.tuple #[]) ∧ w = w' := by
  go_enter Tryd.func54, Tryd.ntmps54
  go_wp2
  go_end0
  exact ⟨rfl, rfl⟩

theorem need_no (w : World) : Calls Tryd.prog 54 #[.bool false] w fun e w' => e = .panicked [{ v := notTold, recovered := false }] ∧ w = w' := by
  go_enter Tryd.func54, Tryd.ntmps54
  go_wp2
  exact ⟨rfl, rfl, rfl⟩

theorem caught_panic (p : Addr) (x : Value) (older : List PanicEntry) (w : World) (hc : w.cell? p = some x) (hz : w.frozen? p = false) :
    CallsD Tryd.prog 52 #[.pointer (some p)] (.panicking ({ v := notTold, recovered := false } :: older)) w fun e u' w' =>
      e = .returned (.tuple #[]) ∧ u' = .panicking ({ v := notTold, recovered := true } :: older) ∧ w' = w.setCell p (.bool false) := by
  refine callsD_of_wpS Tryd.func52 rfl fun c₀ cs hu => ?_
  apply wpS_region
  simp [wpOpsS, go_sem, recoverD, hu, Tryd.ntmps52, Exit.thenS, notTold, hc, hz]
  simp [bodyPostS, results, Tryd.results52]

theorem caught_none (p : Addr) (x : Value) (w : World) (hc : w.cell? p = some x) (hz : w.frozen? p = false) :
    CallsD Tryd.prog 52 #[.pointer (some p)] .returning w fun e u' w' =>
      e = .returned (.tuple #[]) ∧ u' = .returning ∧ w' = w.setCell p (.bool true) := by
  refine callsD_of_wpS Tryd.func52 rfl fun c₀ cs hu => ?_
  apply wpS_region
  simp [wpOpsS, go_sem, recoverD, hu, Tryd.ntmps52, Exit.thenS, hc, hz]
  cases c₀
  simp_all [bodyPostS, results, Tryd.results52]

/-- A world that only grows, whatever the two sizes. -/
theorem below_le {a w w' : World} {B : Nat} (h : Below B a w) (k : Below w.heap.size w w') (hB : B ≤ w.heap.size) : Below B a w' := h.trans (k.mono hB)

end Go.Proofs.YtgpnoahmpmbgfaaDoor
