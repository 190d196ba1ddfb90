/-
  spec.l7DrawClient, DrawFlow, DrawEnter: clients and statements that are drawn.
-/
import Derived.Test.YtciccbbgamklbaaDrawStm
import Derived.Test.YtciccbbgamklbaaIntLaws
import Derived.Test.YtciccbbgamklbaaG03Proc
namespace Go.Proofs.Ytciccbbgamklbaa
open Go.RowKit
set_option linter.unusedVariables false
set_option maxHeartbeats 2000000

theorem belowSet {base : Nat} {w0 w : World} (h : Below base w0 w) (b o : Nat) (v : Value) (hb : base ≤ b) : Below base w0 (w.setCell ⟨b, o, none⟩ v) := h.setCell hb v

theorem l7DrawClient (g : Nat) (bs : List Int) (w : World) (hl : bs.length ≤ 1048576) (hc : Cur w g bs) :
    Calls Try.prog 59 #[.pointer (some ⟨g, 0, none⟩)] w fun e w' => ∃ x : Int, e = .returned (.int .i64 x) ∧ Cur w' g bs ∧ w.grownBy w' (some g) := by
  go_enter Try.func59, Try.ntmps59
  go_wp2_with fail
  go_at_call 60
  refine (l1Once g bs 14 (by omega) w hl hc).mono ?_
  rintro e w1 ⟨b, rfl, hc1, g1⟩
  cases b
  · go_wp2_with fail
    go_at_call 39
    refine (l1Below g bs 2 (by omega) w1 hl hc1).mono ?_
    rintro e w2 ⟨x, rfl, hx0, hx1, _, hc2, g2⟩
    have hx2 : x < 2 := hx1 (by omega)
    go_wp2
    go_ret
    exact ⟨_, rfl, hc2, grown_trans g1 g2⟩
  · have hcA := curAlloc hc1 (.cells #[.int .i64 0, .int .i64 3, .int .i64 (-1)] 2)
    have HA := heap_alloc_new w1 (.cells #[.int .i64 0, .int .i64 3, .int .i64 (-1)] 2)
    have gA := World.grownBy_alloc w1 (.cells #[.int .i64 0, .int .i64 3, .int .i64 (-1)] 2) (some g)
    have hgl := curLt hc1
    go_wp2_with fail
    go_at_call 39
    refine (l1Below g bs 3 (by omega) _ hl hcA).mono ?_
    rintro e w2 ⟨x, rfl, hx0, hx1, _, hc2, g2⟩
    have hx2 : x < 3 := hx1 (by omega)
    have H2 := blockGrown HA g2 hgl
    obtain ⟨c0, c1, c2⟩ := stmt_cells H2
    have hcs : x = 0 ∨ x = 1 ∨ x = 2 := by omega
    clear HA hcA
    rcases hcs with rfl | rfl | rfl
    all_goals
      go_wp2
      go_ret
      exact ⟨_, rfl, hc2, grown_trans g1 (grown_trans gA g2)⟩

end Go.Proofs.Ytciccbbgamklbaa
