/-
  The laws' helpers over lists of numbers: likeInts, has, rises; the draw l1From.
-/
import Derived.Test.YtciccbbgamklbaaG00RelA
import Derived.Test.YtciccbbgamklbaaDraw
namespace Go.Proofs.Ytciccbbgamklbaa
open Go.RowKit
set_option linter.unusedVariables false
set_option maxHeartbeats 1000000

theorem likeInts (xs : List Int) (v u : Value) (w : World) (hl : xs.length ≤ maxLen) (hv : Reads w v (ints xs)) (hu : Reads w u (ints xs)) :
    Calls Try.prog 16 #[v, u] w fun e w' => e = .returned (.bool true) ∧ Below w.heap.size w w' := by
  unfold maxLen at hl
  obtain ⟨ao, cap, rfl, hc⟩ := hv
  obtain ⟨bo, cap', rfl, hd⟩ := hu
  simp only [ints_length]
  go_enter Try.func16, Try.ntmps16
  go_wp2
  go_loopw [5] (fun i wr => ∃ k : Nat, k ≤ xs.length ∧ i = .int .i64 k ∧ Below w.heap.size w wr) (fun i _ => xs.length - (intOf i).toNat)
  case atStart => exact ⟨0, Nat.zero_le _, rfl, Below.refl _ _⟩
  case round =>
    obtain ⟨k, hk, rfl, hb⟩ := hrel
    by_cases hlt : k < xs.length
    · obtain ⟨g, off, rfl, hg⟩ := hc k (.int .i64 xs[k]) (by simp [ints, hlt])
      obtain ⟨g', off', rfl, hg'⟩ := hd k (.int .i64 xs[k]) (by simp [ints, hlt])
      have hg := (hb.cell (World.block_lt_of_cell? w _ hg)).trans hg
      have hg' := (hb.cell (World.block_lt_of_cell? w _ hg')).trans hg'
      have hlt' : (k : Int) < (xs.length : Int) := by omega
      clear hc hd
      generalize xs[k] = x at *
      go_wp2
      go_quiet (fail)
      go_wp2
      go_roundw
      case rel => exact ⟨k + 1, by omega, by go_num, below_drewN hb _⟩
      case measure => simp [intOf]; omega
    · go_wp2
      go_ret
      exact ⟨rfl, hb⟩


/-- Each number is greater than the one ahead of it. -/
def Rises (xs : List Int) : Prop := ∀ (j : Nat) (x y : Int), xs[j]? = some x → xs[j + 1]? = some y → x < y


theorem l1From (g : Nat) (bs : List Int) (lo hi : Int) (h0 : -1000000 ≤ lo) (h1 : lo ≤ hi) (h2 : hi ≤ 1000000) (w : World) (hl : bs.length ≤ 1048576) (hc : Cur w g bs) :
    Calls Try.prog 40 #[.pointer (some ⟨g, 0, none⟩), .int .i64 lo, .int .i64 hi] w fun e w' => ∃ x : Int, e = .returned (.int .i64 x) ∧ lo ≤ x ∧ x ≤ hi ∧ Cur w' g bs ∧ w.grownBy w' (some g) := by
  have hbel := l1Below g bs (hi - lo + 1) (by omega) w hl hc
  go_enter Try.func40, Try.ntmps40
  go_wp2_with fail
  go_at_call 39
  refine hbel.mono ?_
  rintro e w1 ⟨x, rfl, hx0, hx1, _, hc1, hg1⟩
  have hx1 := hx1 (by omega)
  go_wp2
  go_ret
  exact ⟨lo + x, rfl, by omega, by omega, hc1, hg1⟩

end Go.Proofs.Ytciccbbgamklbaa
