/-
  The laws' helpers over lists of numbers: likeInts, has, rises; the draw l1From.
-/
import Derived.Test.YtnkalhdhmmdofaaMa
import Derived.Test.YtnkalhdhmmdofaaDraw
namespace Go.Proofs.Ytnkalhdhmmdofaa
open Go.RowKit
set_option linter.unusedVariables false
set_option maxHeartbeats 1000000



/-- Each number is greater than the one ahead of it. -/
def Rises (xs : List Int) : Prop := ∀ (j : Nat) (x y : Int), xs[j]? = some x → xs[j + 1]? = some y → x < y


theorem l1From (g : Nat) (bs : List Int) (lo hi : Int) (h0 : -1000000 ≤ lo) (h1 : lo ≤ hi) (h2 : hi ≤ 1000000) (w : World) (hl : bs.length ≤ 1048576) (hc : Cur w g bs) :
    Calls Try.prog 37 #[.pointer (some ⟨g, 0, none⟩), .int .i64 lo, .int .i64 hi] w fun e w' => ∃ x : Int, e = .returned (.int .i64 x) ∧ lo ≤ x ∧ x ≤ hi ∧ Cur w' g bs ∧ w.grownBy w' (some g) := by
  have hbel := l1Below g bs (hi - lo + 1) (by omega) w hl hc
  go_enter Try.func37, Try.ntmps37
  go_wp2_with fail
  go_at_call 36
  refine hbel.mono ?_
  rintro e w1 ⟨x, rfl, hx0, hx1, _, hc1, hg1⟩
  have hx1 := hx1 (by omega)
  go_wp2
  go_ret
  exact ⟨lo + x, rfl, by omega, by omega, hc1, hg1⟩

end Go.Proofs.Ytnkalhdhmmdofaa
