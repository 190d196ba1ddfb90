/-
  laws.likePlaces, where both are the same.
-/
import Derived.Test.YtnkalhdhmmdofaaMn
import Derived.BigRegion
namespace Go.Proofs.Ytnkalhdhmmdofaa
open Go.RowKit
set_option linter.unusedVariables false
set_option linter.unusedSimpArgs false
set_option maxHeartbeats 4000000
set_option maxRecDepth 20000

theorem likePlaces (n : Nat) (xs : List Int) (v u : Value) (w : World) (hx : xs.length = 2 * n) (hl : n ≤ 1000) (hv : Reads2 w v n (ints xs)) (hu : Reads2 w u n (ints xs)) :
    Calls Try.prog 8 #[v, u] w fun e w' => e = .returned (.bool true) ∧ Below w.heap.size w w' := by
  obtain ⟨ao, cap, rfl, hc⟩ := hv
  obtain ⟨bo, cap', rfl, hd⟩ := hu
  go_enter Try.func8, Try.ntmps8
  go_wp2_with fail
  go_loopw [5] (fun i wr => ∃ k : Nat, k ≤ n ∧ i = .int .i64 k ∧ Below w.heap.size w wr) (fun i _ => n - (intOf i).toNat)
  case atStart => exact ⟨0, Nat.zero_le _, rfl, Below.refl _ _⟩
  case round =>
    obtain ⟨k, hk, rfl, hb⟩ := hrel
    by_cases hlt : k < n
    · have k1 : k * 2 < xs.length := by omega
      have k2 : k * 2 + 1 < xs.length := by omega
      obtain ⟨g, off, rfl, h1⟩ := hc (k * 2) (.int .i64 xs[k * 2]) (by simp [ints, k1])
      obtain ⟨g9, off9, e9, h2⟩ := hc (k * 2 + 1) (.int .i64 xs[k * 2 + 1]) (by simp [ints, k2])
      cases e9
      obtain ⟨g', off', rfl, h3⟩ := hd (k * 2) (.int .i64 xs[k * 2]) (by simp [ints, k1])
      obtain ⟨g8, off8, e8, h4⟩ := hd (k * 2 + 1) (.int .i64 xs[k * 2 + 1]) (by simp [ints, k2])
      cases e8
      have h1 := (hb.cell (World.block_lt_of_cell? w _ h1)).trans h1
      have h2 := (hb.cell (World.block_lt_of_cell? w _ h2)).trans h2
      have h3 := (hb.cell (World.block_lt_of_cell? w _ h3)).trans h3
      have h4 := (hb.cell (World.block_lt_of_cell? w _ h4)).trans h4
      rw [← Nat.add_assoc] at h2 h4
      have hlt' : (k : Int) < (n : Int) := by omega
      have HB : Hid (Below w.heap.size w wr) := hb
      clear hc hd hb
      generalize xs[k * 2] = x at *
      generalize xs[k * 2 + 1] = y at *
      go_wp2_with fail
      go_region
      go_wp2_with fail
      go_roundw
      case rel => exact ⟨k + 1, by omega, by go_num, Below.drew HB.out⟩
      case measure => simp [intOf]; omega
    · go_wp2
      go_ret
      exact ⟨rfl, hb⟩

end Go.Proofs.Ytnkalhdhmmdofaa
