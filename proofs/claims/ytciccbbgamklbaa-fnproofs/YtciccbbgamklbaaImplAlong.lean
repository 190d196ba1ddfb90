/-
  impl.Along.
-/
import Derived.Test.YtciccbbgamklbaaG07SpecLess
import Derived.Test.YtciccbbgamklbaaWayImpl
import Derived.Test.YtciccbbgamklbaaG05Lists
namespace Go.Proofs.Ytciccbbgamklbaa
open Go.RowKit
set_option linter.unusedVariables false
set_option maxHeartbeats 4000000
set_option maxRecDepth 4000

theorem implAlong (ss : List Stm) (c s : Int) (ys : List Int) (v u : Value) (w : World) (hl : ss.length ≤ maxLen) (hy : ys.length ≤ maxLen) (hv : Reads3 w v ss) (hu : Reads w u (ints ys)) (hcap : ∀ a m c, u = .slice a m c → m ≤ c) :
    Calls Try.prog 18 #[.agg #[v], .int .i64 c, u, .int .i64 s] w fun e w' => e = .returned (.int .i64 (alongAns ss c ys s)) ∧ Below w.heap.size w w' := by
  have hb0 : Below w.heap.size w (w.alloc (.cells #[v] 30)) := by go_grown
  have hfi := fun W (hW : Below w.heap.size w W) => flowsInside ss c s v W hl (reads3_below hv hW)
  have hwo := fun W (hW : Below w.heap.size w W) => implWayOk ss ys v u W hl hy (reads3_below hv hW) (reads_below hu hW) hcap
  have H0 := heap_alloc_new w (.cells #[v] 30)
  have s0 : (w.alloc (.cells #[v] 30)).heap.size = w.heap.size + 1 := by simp
  unfold alongAns
  cases hin : (procOk ss && isCl c && inB s 0 127)
  · have hr : (wayAns ss ys && isCl c && inB s 0 127) = false := by
      cases hw : wayAns ss ys
      · simp
      · rw [(wayAns_parts hw).1] at hin; simpa using hin
    rw [hr]
    rw [hin] at hfi
    clear hwo
    go_enter Try.func18, Try.ntmps18
    go_wp2_with (go_at_call 30; refine (hfi _ (by go_grown)).mono ?_; rintro e w2 ⟨rfl, b2⟩)
    go_ret
    have L2 := hb0.trans (b2.mono hb0.size)
    exact ⟨rfl, L2.alloc L2.size _⟩
  rw [hin] at hfi
  simp only [if_true] at hfi
  have hparts : procOk ss = true ∧ isCl c = true ∧ inB s 0 127 = true := by
    simp only [Bool.and_eq_true] at hin
    exact ⟨hin.1.1, hin.1.2, hin.2⟩
  obtain ⟨hok, hic, hs⟩ := hparts
  have hc : c = 1 ∨ c = 2 := by simpa [isCl] using hic
  have hsm := small_in.1 hs
  rw [hic, hs]
  simp only [Bool.and_true]
  have HM : Hid (∀ k x y, stmtOk k x y = true → ∀ W, _) := fun k x y h W => relationOf c k x y hc h W
  unfold flowsV at hfi HM
  obtain ⟨m, hm⟩ : ∃ m, markFn c = m := ⟨_, rfl⟩
  rw [hm] at hfi HM
  clear hm
  cases hw : wayAns ss ys
  · rw [hw] at hwo
    go_enter Try.func18, Try.ntmps18
    go_wp2_with fail
    go_at_call 30
    refine (hfi _ (by go_grown)).mono ?_
    rintro e w2 ⟨rfl, b2⟩
    obtain ⟨L2, q2⟩ := flow_pre b2
    have hlt : w.heap.size < w2.heap.size := (Array.getElem?_eq_some_iff.1 q2).1
    have g0 : ∀ o, (w2.alloc o).cell? ⟨w.heap.size, 0, none⟩ = some v := fun o => (one_cell ((old_block hlt).trans q2)).1
    clear hfi
    go_wp2_with fail
    go_at_call 19
    refine (hwo _ (L2.alloc L2.size _)).mono ?_
    rintro e w3 ⟨rfl, b3⟩
    go_wp2
    go_ret
    exact ⟨rfl, (L2.alloc L2.size _).trans (b3.mono (by simp; omega))⟩
  rw [hw] at hwo
  simp only [if_true]
  obtain ⟨_, h1, h100, _, _⟩ := wayAns_parts hw
  obtain ⟨R, hR⟩ : ∃ R, alongK c ss ys s (ys.length - 1) = R := ⟨_, rfl⟩
  rw [hR]
  have HR : Hid _ := hR
  clear hR
  obtain ⟨ao, cap, hu0, hcu⟩ := id hu
  obtain ⟨g, off, rfl, hy0⟩ := hcu 0 (.int .i64 (ys.getD 0 0)) (ints_get ys 0 (by omega))
  rw [ints_length] at hu0
  have hcap := hcap _ _ _ hu0
  have gB := World.block_lt_of_cell? w _ hy0
  obtain ⟨vo, vc, hv0, hcv⟩ := id hv
  have h12 := (procOk_parts hok).2.1
  clear hy0
  subst hu0 hv0
  have hsub : ((ys.length - 1 : Nat) : Int) = (ys.length : Int) - 1 := by omega
  go_enter Try.func18, Try.ntmps18
  go_wp2_with fail
  go_at_call 30
  refine (hfi _ (by go_grown)).mono ?_
  rintro e w2 ⟨rfl, b2⟩
  obtain ⟨L2, q2⟩ := flow_pre b2
  have hlt : w.heap.size < w2.heap.size := (Array.getElem?_eq_some_iff.1 q2).1
  have g0 : ∀ o, (w2.alloc o).cell? ⟨w.heap.size, 0, none⟩ = some (.slice vo ss.length vc) := fun o => (one_cell ((old_block hlt).trans q2)).1
  have G0 : Hid (∀ o, (w2.alloc o).heap[w.heap.size]? = _) := fun o => (old_block hlt).trans q2
  clear hfi
  go_wp2_with fail
  go_at_call 19
  refine (hwo _ (L2.alloc L2.size _)).mono ?_
  rintro e w3 ⟨rfl, b3⟩
  have L3 := (L2.alloc L2.size _).trans (b3.mono (by simp; omega))
  have s3 := b3.size
  simp only [World.size_alloc] at s3
  have P3 : Hid _ := (b3.block w.heap.size (by simp; omega)).trans (G0.out _)
  have F3 : Hid _ := (b3.block w2.heap.size (by simp)).trans (heap_alloc_new w2 _)
  clear g0 G0 q2 hwo b2
  go_wp2_with fail
  go_loopw [11, 36] (fun x i wr => ∃ (k : Nat), k + 1 ≤ ys.length ∧ i = .int .i64 k ∧ x = .int .i64 (alongK c ss ys s k) ∧ Below w3.heap.size w3 wr) (fun _ i _ => ys.length - (intOf i).toNat)
  case atStart => exact ⟨0, by omega, rfl, rfl, Below.refl _ _⟩
  case round =>
    obtain ⟨k, hk, rfl, rfl, hb⟩ := hrel
    have LR := L3.trans (hb.mono L3.size)
    have s4 := L3.size
    have sb := hb.size
    obtain ⟨c0, f0⟩ := one_cell ((hb.block w.heap.size (by omega)).trans P3.out)
    obtain ⟨k0, k1, k2, k3⟩ := four_cells ((hb.block w2.heap.size (by omega)).trans F3.out)
    by_cases hlt : k + 1 < ys.length
    · have hlt' : (k : Int) < ((ys.length - 1 : Nat) : Int) := by omega
      have hlt2 : (k : Int) < (ys.length : Int) - 1 := by omega
      obtain ⟨j, hj, hjl⟩ := way_in hw (k := k) (by omega)
      have q0 := cut_cell hcu (k := k) (by omega)
      have q0 := (LR.cell (World.block_lt_of_cell? w _ q0)).trans q0
      rw [hj] at q0
      obtain ⟨vg, voff, rfl, p0, p1, p2⟩ := hcv j ss[j] (by simp [hjl])
      have pB := World.block_lt_of_cell? w _ p0
      have p0 := (LR.cell pB).trans p0
      have p1 := (LR.cell (p := ⟨vg, voff + j * 3 + 1, none⟩) pB).trans p1
      have p2 := (LR.cell (p := ⟨vg, voff + j * 3 + 2, none⟩) pB).trans p2
      have hjl' : (j : Int) < (ss.length : Int) := by omega
      have hsm2 := alongK_small (c := c) hw hsm (k := k) (by omega)
      have HK : Hid (alongK c ss ys s (k + 1) = img (flw c ss j) (alongK c ss ys s k)) := by
        show alongK c ss ys s (k + 1) = _
        rw [alongK, hj, Int.toNat_natCast]
      have hfs := flw_smalls (c := c) hok hjl
      have hro := HM.out ss[j].k ss[j].x ss[j].y (stm_ok hok hjl)
      rw [← flw_eq hjl] at hro
      generalize alongK c ss ys s k = x at *
      generalize flw c ss j = rs at *
      have him := fun W => relImage rs x W hfs hsm2
      clear hcu hcv
      generalize ss[j] = st at *
      go_wp2_with fail
      go_region_with (first
        | (go_at_call 41; refine (hro _).mono ?_; rintro e w4 ⟨rfl, b4⟩; have M4 : Below wr.heap.size wr w4 := Below.trans (by go_grown) b4)
        | (go_at_call 42; refine (him _).mono ?_; rintro e w5 ⟨rfl, b5⟩; have M5 : Below wr.heap.size wr w5 := Below.trans (Below.trans M4 (by go_grown)) (b5.mono M4.size)))
      all_goals
        have B4 : Below w3.heap.size w3 w5 := hb.trans (M5.mono hb.size)
        go_wp2
        go_roundw
        case rel => exact ⟨k + 1, by omega, by go_num, by rw [HK.out], B4⟩
        case measure => simp [intOf]; omega
    · have hkk : ys.length - 1 = k := by omega
      rw [hkk] at HR
      have hlt' : ¬ (k : Int) < ((ys.length - 1 : Nat) : Int) := by omega
      have hlt2 : ¬ (k : Int) < (ys.length : Int) - 1 := by omega
      go_wp2
      go_ret
      exact ⟨by first | rfl | (rw [HR.out]; rfl), LR⟩

end Go.Proofs.Ytciccbbgamklbaa
