/-
  spec.Along.
-/
import Derived.Test.YtebadimjpbhagaaG14WaysM
import Derived.Test.YtebadimjpbhagaaSpecFlow
namespace Go.Proofs.Ytebadimjpbhagaa
open Go.RowKit
set_option linter.unusedVariables false
set_option maxHeartbeats 2000000
set_option maxRecDepth 4000

theorem cut_cell {w : World} {g : Nat} {off : Nat} {ys : List Int} (hc : ∀ (j : Nat) (x : Value), (ints ys)[j]? = some x → ∃ g' off', some (⟨g, off, none⟩ : Addr) = some ⟨g', off', none⟩ ∧ w.cell? ⟨g', off' + j, none⟩ = some x) {k : Nat} (hk : k < ys.length) : w.cell? ⟨g, off + k, none⟩ = some (.int .i64 (ys.getD k 0)) := by
  obtain ⟨g1, off1, e1, q0⟩ := hc k (.int .i64 (ys.getD k 0)) (ints_get ys k hk)
  simp only [Option.some.injEq, Addr.mk.injEq, and_true] at e1
  obtain ⟨rfl, rfl⟩ := e1
  exact q0

theorem int_reads {w : World} {B : Nat} {xs : List Int} (h : IntAt w B xs) (hl : xs.length = 7) : Reads w (.slice (some ⟨B, 0, none⟩) 7 7) (ints xs) := by
  have := reads_own (h.own (Nat.zero_le _) hl)
  exact this

theorem specAlong (ss : List Stm) (c s : Int) (ys : List Int) (v u : Value) (w : World) (hl : ss.length ≤ maxLen) (hy : ys.length ≤ maxLen) (hv : Reads3 w v ss) (hu : Reads w u (ints ys)) :
    Calls Try.prog 12 #[.agg #[v], .int .i64 c, u, .int .i64 s] w fun e w' => e = .returned (.int .i64 (alongAns ss c ys s)) ∧ Below w.heap.size w w' := by
  have hb0 : Below w.heap.size w (w.alloc (.cells #[v] 26)) := by go_grown
  have hwo := specWayOk ss ys v u _ hl hy (reads3_below hv hb0) (reads_below hu hb0)
  have hcl := fun W => l7Client c W
  have hin := fun W => l1In s 0 127 W
  have H0 := heap_alloc_new w (.cells #[v] 26)
  have s0 : (w.alloc (.cells #[v] 26)).heap.size = w.heap.size + 1 := by simp
  unfold alongAns
  cases hw : wayAns ss ys
  · rw [hw] at hwo
    simp only [Bool.false_and]
    go_enter Try.func12, Try.ntmps12
    go_wp2_with (go_at_call 50; refine hwo.mono ?_; rintro e w2 ⟨rfl, b2⟩)
    go_ret
    exact ⟨rfl, hb0.trans (b2.mono hb0.size)⟩
  rw [hw] at hwo
  change ∀ W, Calls Try.prog 42 #[.int .i64 c] W (fun e w' => e = .returned (.bool (isCl c)) ∧ W = w') at hcl
  cases hic : isCl c
  · rw [hic] at hcl
    simp only [Bool.and_false, Bool.false_and]
    go_enter Try.func12, Try.ntmps12
    go_wp2_with (first
      | (go_at_call 50; refine hwo.mono ?_; rintro e w2 ⟨rfl, b2⟩)
      | (go_at_call 42; refine (hcl _).mono ?_; rintro e w3 ⟨rfl, rfl⟩))
    go_ret
    exact ⟨rfl, hb0.trans (b2.mono hb0.size)⟩
  rw [hic] at hcl
  cases hs : inB s 0 127
  · rw [hs] at hin
    simp only [Bool.and_false]
    go_enter Try.func12, Try.ntmps12
    go_wp2_with (first
      | (go_at_call 50; refine hwo.mono ?_; rintro e w2 ⟨rfl, b2⟩)
      | (go_at_call 42; refine (hcl _).mono ?_; rintro e w3 ⟨rfl, rfl⟩)
      | (go_at_call 43; refine (hin _).mono ?_; rintro e w4 ⟨rfl, rfl⟩))
    go_ret
    exact ⟨rfl, hb0.trans (b2.mono hb0.size)⟩
  rw [hs] at hin
  simp only [Bool.and_self, if_true]
  have hsm := small_in.1 hs
  have hc : c = 1 ∨ c = 2 := by simpa [isCl] using hic
  obtain ⟨hok, h1, h100, _, _⟩ := wayAns_parts hw
  obtain ⟨R, hR⟩ : ∃ R, alongK c ss ys s (ys.length - 1) = R := ⟨_, rfl⟩
  rw [hR]
  have HR : Hid _ := hR
  clear hR
  obtain ⟨ao, cap, hu0, hcu⟩ := id hu
  obtain ⟨g, off, rfl, hy0⟩ := hcu 0 (.int .i64 (ys.getD 0 0)) (ints_get ys 0 (by omega))
  rw [ints_length] at hu0
  have gB := World.block_lt_of_cell? w _ hy0
  obtain ⟨vo, vc, hv0, hcv⟩ := id hv
  have h12 := (procOk_parts hok).2.1
  clear hy0
  subst hu0 hv0
  go_enter Try.func12, Try.ntmps12
  go_wp2_with fail
  go_at_call 50
  refine hwo.mono ?_
  rintro e w2 ⟨rfl, b2⟩
  have L2 := hb0.trans (b2.mono hb0.size)
  have H2 : Hid _ := (b2.block w.heap.size (by omega)).trans H0
  go_wp2_with (first
      | (go_at_call 42; refine (hcl _).mono ?_; rintro e w3 ⟨rfl, rfl⟩)
      | (go_at_call 43; refine (hin _).mono ?_; rintro e w4 ⟨rfl, rfl⟩))
  go_loopw [9, 10] (fun x i wr => ∃ (k : Nat), k + 1 ≤ ys.length ∧ i = .int .i64 k ∧ x = .int .i64 (alongK c ss ys s k) ∧ Below w2.heap.size w2 wr) (fun _ i _ => ys.length - (intOf i).toNat)
  case atStart => exact ⟨0, by omega, rfl, rfl, Below.refl _ _⟩
  case round =>
    obtain ⟨k, hk, rfl, rfl, hb⟩ := hrel
    have LR := L2.trans (hb.mono L2.size)
    have s2 := L2.size
    have sb := hb.size
    obtain ⟨c0, f0⟩ := one_cell ((hb.block w.heap.size (by have := b2.size; omega)).trans H2.out)
    by_cases hlt : k + 1 < ys.length
    · have hlt' : (k : Int) + 1 < (ys.length : Int) := by omega
      have hlt2 : (k : Int) < (ys.length : Int) := by omega
      obtain ⟨j, hj, hjl⟩ := way_in hw (k := k) (by omega)
      have q0 := cut_cell hcu (k := k) (by omega)
      have q0 := (LR.cell (World.block_lt_of_cell? w _ q0)).trans q0
      rw [hj] at q0
      obtain ⟨vg, voff, rfl, p0, p1, p2⟩ := hcv j ss[j] (by simp [hjl])
      have pB := World.block_lt_of_cell? w _ p0
      have p0 := (LR.cell pB).trans p0
      have p1 := (LR.cell (p := ⟨vg, voff + j * 3 + 1, none⟩) pB).trans p1
      have p2 := (LR.cell (p := ⟨vg, voff + j * 3 + 2, none⟩) pB).trans p2
      have hjl' : (j : Int) < (ss.length : Int) := by omega
      have hsm2 := alongK_small (c := c) hw hsm (k := k) (by omega)
      have HK : Hid (alongK c ss ys s (k + 1) = img (flw c ss j) (alongK c ss ys s k)) := by
        show alongK c ss ys s (k + 1) = _
        rw [alongK, hj, Int.toNat_natCast]
      have hfs := flw_smalls (c := c) hok hjl
      have hlf := fun W => l7Flow c ss[j].k ss[j].x ss[j].y hc (stm_ok hok hjl) W
      rw [← flw_eq hjl] at hlf
      generalize alongK c ss ys s k = x at *
      generalize flw c ss j = rs at *
      have h7 := hfs.1
      clear hcu hcv
      generalize ss[j] = st at *
      go_wp2_with fail
      go_region_with (first
        | (go_at_call 45; refine (hlf _).mono ?_; rintro e w3 ⟨B, rfl, hB3, i3, b3⟩; have M3 : Below wr.heap.size wr w3 := Below.trans (by go_grown) b3)
        | (go_at_call 44; refine (l6Image rs x _ _ hfs hsm2 (reads_below (int_reads i3 h7) (by go_grown))).mono ?_; rintro e w4 ⟨rfl, b4⟩; have M4 : Below wr.heap.size wr w4 := Below.trans (Below.trans M3 (by go_grown)) (b4.mono M3.size)))
      all_goals
        have B4 : Below w2.heap.size w2 w4 := hb.trans (M4.mono hb.size)
        go_wp2
        go_roundw
        case rel => exact ⟨k + 1, by omega, by go_num, by rw [HK.out], B4⟩
        case measure => simp [intOf]; omega
    · have hkk : ys.length - 1 = k := by omega
      rw [hkk] at HR
      have hlt' : ¬ (k : Int) + 1 < (ys.length : Int) := by omega
      go_wp2
      go_ret
      exact ⟨by first | rfl | (rw [HR.out]; rfl), LR⟩

end Go.Proofs.Ytebadimjpbhagaa
