/-
  Put together out of: WayImpl, ImplAlong.
-/
import Derived.Test.YtebadimjpbhagaaG13WayBoth
import Derived.Test.YtebadimjpbhagaaInTop
import Derived.Test.YtebadimjpbhagaaSpecAlong
/-
  impl.WayOk.
-/
namespace Go.Proofs.Ytebadimjpbhagaa
open Go.RowKit
set_option linter.unusedVariables false
set_option maxHeartbeats 1000000

theorem implWayOk (ss : List Stm) (ys : List Int) (v u : Value) (w : World) (hl : ss.length ≤ maxLen) (hy : ys.length ≤ maxLen) (hv : Reads3 w v ss) (hu : Reads w u (ints ys)) (hcap : ∀ a m c, u = .slice a m c → m ≤ c) :
    Calls Try.prog 47 #[.agg #[v], u] w fun e w' => e = .returned (.bool (wayAns ss ys)) ∧ Below w.heap.size w w' := by
  have hb0 : Below w.heap.size w (w.alloc (.cells #[v] 26)) := by go_grown
  have he := implProcOk ss v _ hl (reads3_below hv hb0)
  have H0 := heap_alloc_new w (.cells #[v] 26)
  have s0 : (w.alloc (.cells #[v] 26)).heap.size = w.heap.size + 1 := by simp
  unfold maxLen at hy
  unfold wayAns
  cases hok : procOk ss
  · rw [hok] at he
    obtain ⟨ao, cap, rfl, hc⟩ := hu
    rw [ints_length]
    clear hc
    go_enter Try.func47, Try.ntmps47
    go_wp2_with (go_at_call 81; refine he.mono ?_; rintro e w2 ⟨rfl, b2⟩)
    go_ret
    exact ⟨rfl, hb0.trans (b2.mono hb0.size)⟩
  rw [hok] at he
  by_cases h1 : ys.length < 1
  · have hr : (true && decide (1 ≤ ys.length) && decide (ys.length ≤ 100) && (ys.getD 0 0 == 0) && stepsOk ss ys (ys.length - 1)) = false := by
      have : decide (1 ≤ ys.length) = false := decide_eq_false (by omega)
      rw [this]; simp
    rw [hr]
    have h1' : (ys.length : Int) < 1 := by omega
    obtain ⟨ao, cap, rfl, hc⟩ := hu
    rw [ints_length]
    clear hc hr
    go_enter Try.func47, Try.ntmps47
    go_wp2_with (go_at_call 81; refine he.mono ?_; rintro e w2 ⟨rfl, b2⟩)
    go_ret
    exact ⟨rfl, hb0.trans (b2.mono hb0.size)⟩
  by_cases h2 : 100 < ys.length
  · have hr : (true && decide (1 ≤ ys.length) && decide (ys.length ≤ 100) && (ys.getD 0 0 == 0) && stepsOk ss ys (ys.length - 1)) = false := by
      have : decide (ys.length ≤ 100) = false := decide_eq_false (by omega)
      rw [this]; simp
    rw [hr]
    have h1' : ¬ (ys.length : Int) < 1 := by omega
    have h2' : (100 : Int) < (ys.length : Int) := by omega
    obtain ⟨ao, cap, rfl, hc⟩ := hu
    rw [ints_length]
    clear hc hr
    go_enter Try.func47, Try.ntmps47
    go_wp2_with (go_at_call 81; refine he.mono ?_; rintro e w2 ⟨rfl, b2⟩)
    go_ret
    exact ⟨rfl, hb0.trans (b2.mono hb0.size)⟩
  have h1' : ¬ (ys.length : Int) < 1 := by omega
  have h2' : ¬ (100 : Int) < (ys.length : Int) := by omega
  obtain ⟨ao, cap, hu0, hc⟩ := id hu
  obtain ⟨g, off, rfl, hy0⟩ := hc 0 (.int .i64 (ys.getD 0 0)) (ints_get ys 0 (by omega))
  rw [Nat.add_zero] at hy0
  rw [ints_length] at hu0
  have hcap := hcap _ _ _ hu0
  by_cases h3 : ys.getD 0 0 = 0
  · have hr : (true && decide (1 ≤ ys.length) && decide (ys.length ≤ 100) && (ys.getD 0 0 == 0) && stepsOk ss ys (ys.length - 1)) = stepsOk ss ys (ys.length - 1) := by
      have e1 : decide (1 ≤ ys.length) = true := decide_eq_true (by omega)
      have e2 : decide (ys.length ≤ 100) = true := decide_eq_true (by omega)
      rw [e1, e2, h3]; simp
    rw [hr]
    clear hr
    have h30 : Hid _ := h3
    rw [h3] at hy0
    clear h3
    obtain ⟨_, h12, _⟩ := procOk_parts hok
    subst hu0
    have gB := World.block_lt_of_cell? w _ hy0
    obtain ⟨R, hR⟩ : ∃ R, stepsOk ss ys (ys.length - 1) = R := ⟨_, rfl⟩
    rw [hR]
    have HR : Hid _ := hR
    clear hR
    go_enter Try.func47, Try.ntmps47
    go_wp2_with fail
    go_at_call 81
    refine he.mono ?_
    rintro e w2 ⟨rfl, b2⟩
    have L2 := hb0.trans (b2.mono hb0.size)
    have y2 := (L2.cell gB).trans hy0
    have H2 : Hid _ := (b2.block w.heap.size (by omega)).trans H0
    have s2 := b2.size
    by_cases hone : ys.length = 1
    · rw [hone] at HR ⊢
      have HF : Hid (R = true) := HR.out.symm
      go_wp2_with fail
      all_goals
        refine wp_loop_rounds 1 ?_
        rw [rounds_succ]
        go_wp2
        go_ret
        exact ⟨by rw [HF.out]; rfl, L2⟩
    have hc1 : ¬ cap = 1 := by omega
    have hsub : ((ys.length - 1 : Nat) : Int) = (ys.length : Int) - 1 := by omega
    go_wp2_with fail
    clear y2
    go_loopw [29] (fun j wr => ∃ (k : Nat), k + 1 ≤ ys.length ∧ j = .int .i64 k ∧ stepsOk ss ys k = true ∧ Below w2.heap.size w2 wr) (fun j _ => ys.length - (intOf j).toNat)
    case atStart => exact ⟨0, by omega, rfl, rfl, Below.refl _ _⟩
    case round =>
      obtain ⟨k, hk, rfl, hst, hb⟩ := hrel
      have LR := L2.trans (hb.mono L2.size)
      obtain ⟨c0, f0⟩ := one_cell ((hb.block w.heap.size (by omega)).trans H2.out)
      have HST : Hid _ := hst
      clear hst
      by_cases hlt : k + 1 < ys.length
      · have hlt' : (k : Int) < ((ys.length - 1 : Nat) : Int) := by omega
        have hlt2 : (k : Int) < (ys.length : Int) := by omega
        have hk0 : (0 : Int) ≤ (k : Int) := by omega
        obtain ⟨j, hj, hjl⟩ := stepsOk_in hok h30.out HST.out
        obtain ⟨g1, off1, e1, q0⟩ := hc k (.int .i64 (ys.getD k 0)) (ints_get ys k (by omega))
        simp only [Option.some.injEq, Addr.mk.injEq, and_true] at e1
        obtain ⟨rfl, rfl⟩ := e1
        obtain ⟨g1, off1, e1, q1⟩ := hc (k + 1) (.int .i64 (ys.getD (k + 1) 0)) (ints_get ys (k + 1) (by omega))
        simp only [Option.some.injEq, Addr.mk.injEq, and_true] at e1
        obtain ⟨rfl, rfl⟩ := e1
        have q0 := (LR.cell (World.block_lt_of_cell? w _ q0)).trans q0
        have q1 := (LR.cell (World.block_lt_of_cell? w _ q1)).trans q1
        have ea : off + (k + 1) = off + 1 + k := by omega
        rw [ea] at q1
        have hstep : stepsOk ss ys (k + 1) = hasI (nextsS ss[j] j) (ys.getD (k + 1) 0) := by
          have hg : ss.getD ((j : Int).toNat) ⟨0, 0, 0⟩ = ss[j] := by simp [List.getD, hjl]
          rw [stepsOk, HST.out, hj, hg]; simp
        have HS : Hid _ := hstep
        clear hstep ea
        rw [hj] at q0
        generalize ys.getD (k + 1) 0 = y at *
        have hn : ∀ W, Below wr.heap.size wr W → _ := fun W hW => nextsOf ss j v W hjl h12 (reads3_below (reads3_below hv LR) hW)
        have hnl := nextsS_length ss[j] j
        generalize nextsS ss[j] j = ns at *
        have z1 : w.heap.size < wr.heap.size := by have := hb.size; omega
        have z2 : g < wr.heap.size := by have := hb.size; omega
        clear hc hj hy0
        obtain ⟨q, hq⟩ : ∃ q, hasI ns y = q := ⟨_, rfl⟩
        have HQ : Hid (hasI ns y = q) := hq
        rw [hq] at HS
        clear hq
        go_wp2_with fail
        go_region_with (first
          | (go_at_call 55; refine (hn _ (by go_grown)).mono ?_; rintro e w3 ⟨u3, rfl, own3, b3⟩; have M3 : Below wr.heap.size wr w3 := Below.trans (by go_grown) b3; obtain ⟨hc3, hf3⟩ := bcell M3)
          | (go_at_call 76; refine (sliceContains ns y _ _ (by unfold maxLen; omega) (reads_below (reads_own own3) (by go_grown))).mono ?_; rintro e w4 ⟨rfl, rfl⟩; (rw [HQ.out])))
        all_goals
          have B4 : Below w2.heap.size w2 w3 := hb.trans (M3.mono hb.size)
          cases q
          · have HF : Hid (R = false) := by
              show R = false
              rw [← HR.out]
              cases hs : stepsOk ss ys (ys.length - 1) with
              | false => rfl
              | true => exact absurd (stepsOk_mono (k := k + 1) (by omega) hs) (by rw [HS.out]; simp)
            go_wp2
            go_ret
            exact ⟨by rw [HF.out]; rfl, L2.trans (B4.mono L2.size)⟩
          · go_wp2
            go_roundw
            case rel => exact ⟨k + 1, by omega, by go_num, HS.out, B4⟩
            case measure => simp [intOf]; omega
      · have hkk : ys.length - 1 = k := by omega
        rw [hkk] at HR
        have HF : Hid (R = true) := HR.out.symm.trans HST.out
        have hlt' : ¬ (k : Int) < ((ys.length - 1 : Nat) : Int) := by omega
        go_wp2
        go_ret
        exact ⟨by rw [HF.out]; rfl, LR⟩
  · have hr : (true && decide (1 ≤ ys.length) && decide (ys.length ≤ 100) && (ys.getD 0 0 == 0) && stepsOk ss ys (ys.length - 1)) = false := by
      have : (ys.getD 0 0 == 0) = false := by simpa using h3
      rw [this]; simp
    rw [hr]
    have h3' : (ys.getD 0 0 != 0) = true := by simpa using h3
    clear hr
    generalize ys.getD 0 0 = y at *
    subst hu0
    have gB := World.block_lt_of_cell? w _ hy0
    go_enter Try.func47, Try.ntmps47
    go_wp2_with fail
    go_at_call 81
    refine he.mono ?_
    rintro e w2 ⟨rfl, b2⟩
    have L2 := hb0.trans (b2.mono hb0.size)
    have y2 := (L2.cell gB).trans hy0
    go_wp2
    go_ret
    exact ⟨rfl, L2⟩


end Go.Proofs.Ytebadimjpbhagaa

/-
  impl.Along.
-/
namespace Go.Proofs.Ytebadimjpbhagaa
open Go.RowKit
set_option linter.unusedVariables false
set_option maxHeartbeats 4000000
set_option maxRecDepth 4000

theorem implAlong (ss : List Stm) (c s : Int) (ys : List Int) (v u : Value) (w : World) (hl : ss.length ≤ maxLen) (hy : ys.length ≤ maxLen) (hv : Reads3 w v ss) (hu : Reads w u (ints ys)) (hcap : ∀ a m c, u = .slice a m c → m ≤ c) :
    Calls Try.prog 11 #[.agg #[v], .int .i64 c, u, .int .i64 s] w fun e w' => e = .returned (.int .i64 (alongAns ss c ys s)) ∧ Below w.heap.size w w' := by
  have hb0 : Below w.heap.size w (w.alloc (.cells #[v] 26)) := by go_grown
  have hfi := fun W (hW : Below w.heap.size w W) => flowsInside ss c s v W hl (reads3_below hv hW)
  have hwo := fun W (hW : Below w.heap.size w W) => implWayOk ss ys v u W hl hy (reads3_below hv hW) (reads_below hu hW) hcap
  have H0 := heap_alloc_new w (.cells #[v] 26)
  have s0 : (w.alloc (.cells #[v] 26)).heap.size = w.heap.size + 1 := by simp
  unfold alongAns
  cases hin : (procOk ss && isCl c && inB s 0 127)
  · have hr : (wayAns ss ys && isCl c && inB s 0 127) = false := by
      cases hw : wayAns ss ys
      · simp
      · rw [(wayAns_parts hw).1] at hin; simpa using hin
    rw [hr]
    rw [hin] at hfi
    clear hwo
    go_enter Try.func11, Try.ntmps11
    go_wp2_with (go_at_call 37; refine (hfi _ (by go_grown)).mono ?_; rintro e w2 ⟨rfl, b2⟩)
    go_ret
    have L2 := hb0.trans (b2.mono hb0.size)
    exact ⟨rfl, L2.alloc L2.size _⟩
  rw [hin] at hfi
  simp only [if_true] at hfi
  have hparts : procOk ss = true ∧ isCl c = true ∧ inB s 0 127 = true := by
    simp only [Bool.and_eq_true] at hin
    exact ⟨hin.1.1, hin.1.2, hin.2⟩
  obtain ⟨hok, hic, hs⟩ := hparts
  have hc : c = 1 ∨ c = 2 := by simpa [isCl] using hic
  have hsm := small_in.1 hs
  rw [hic, hs]
  simp only [Bool.and_true]
  have HM : Hid (∀ k x y, stmtOk k x y = true → ∀ W, _) := fun k x y h W => relationOf c k x y hc h W
  unfold flowsV at hfi HM
  obtain ⟨m, hm⟩ : ∃ m, markFn c = m := ⟨_, rfl⟩
  rw [hm] at hfi HM
  clear hm
  cases hw : wayAns ss ys
  · rw [hw] at hwo
    go_enter Try.func11, Try.ntmps11
    go_wp2_with fail
    go_at_call 37
    refine (hfi _ (by go_grown)).mono ?_
    rintro e w2 ⟨rfl, b2⟩
    obtain ⟨L2, q2⟩ := flow_pre b2
    have hlt : w.heap.size < w2.heap.size := (Array.getElem?_eq_some_iff.1 q2).1
    have g0 : ∀ o, (w2.alloc o).cell? ⟨w.heap.size, 0, none⟩ = some v := fun o => (one_cell ((old_block hlt).trans q2)).1
    clear hfi
    go_wp2_with fail
    go_at_call 47
    refine (hwo _ (L2.alloc L2.size _)).mono ?_
    rintro e w3 ⟨rfl, b3⟩
    go_wp2
    go_ret
    exact ⟨rfl, (L2.alloc L2.size _).trans (b3.mono (by simp; omega))⟩
  rw [hw] at hwo
  simp only [if_true]
  obtain ⟨_, h1, h100, _, _⟩ := wayAns_parts hw
  obtain ⟨R, hR⟩ : ∃ R, alongK c ss ys s (ys.length - 1) = R := ⟨_, rfl⟩
  rw [hR]
  have HR : Hid _ := hR
  clear hR
  obtain ⟨ao, cap, hu0, hcu⟩ := id hu
  obtain ⟨g, off, rfl, hy0⟩ := hcu 0 (.int .i64 (ys.getD 0 0)) (ints_get ys 0 (by omega))
  rw [ints_length] at hu0
  have hcap := hcap _ _ _ hu0
  have gB := World.block_lt_of_cell? w _ hy0
  obtain ⟨vo, vc, hv0, hcv⟩ := id hv
  have h12 := (procOk_parts hok).2.1
  clear hy0
  subst hu0 hv0
  have hsub : ((ys.length - 1 : Nat) : Int) = (ys.length : Int) - 1 := by omega
  go_enter Try.func11, Try.ntmps11
  go_wp2_with fail
  go_at_call 37
  refine (hfi _ (by go_grown)).mono ?_
  rintro e w2 ⟨rfl, b2⟩
  obtain ⟨L2, q2⟩ := flow_pre b2
  have hlt : w.heap.size < w2.heap.size := (Array.getElem?_eq_some_iff.1 q2).1
  have g0 : ∀ o, (w2.alloc o).cell? ⟨w.heap.size, 0, none⟩ = some (.slice vo ss.length vc) := fun o => (one_cell ((old_block hlt).trans q2)).1
  have G0 : Hid (∀ o, (w2.alloc o).heap[w.heap.size]? = _) := fun o => (old_block hlt).trans q2
  clear hfi
  go_wp2_with fail
  go_at_call 47
  refine (hwo _ (L2.alloc L2.size _)).mono ?_
  rintro e w3 ⟨rfl, b3⟩
  have L3 := (L2.alloc L2.size _).trans (b3.mono (by simp; omega))
  have s3 := b3.size
  simp only [World.size_alloc] at s3
  have P3 : Hid _ := (b3.block w.heap.size (by simp; omega)).trans (G0.out _)
  have F3 : Hid _ := (b3.block w2.heap.size (by simp)).trans (heap_alloc_new w2 _)
  clear g0 G0 q2 hwo b2
  go_wp2_with fail
  go_loopw [11, 36] (fun x i wr => ∃ (k : Nat), k + 1 ≤ ys.length ∧ i = .int .i64 k ∧ x = .int .i64 (alongK c ss ys s k) ∧ Below w3.heap.size w3 wr) (fun _ i _ => ys.length - (intOf i).toNat)
  case atStart => exact ⟨0, by omega, rfl, rfl, Below.refl _ _⟩
  case round =>
    obtain ⟨k, hk, rfl, rfl, hb⟩ := hrel
    have LR := L3.trans (hb.mono L3.size)
    have s4 := L3.size
    have sb := hb.size
    obtain ⟨c0, f0⟩ := one_cell ((hb.block w.heap.size (by omega)).trans P3.out)
    obtain ⟨k0, k1, k2, k3⟩ := four_cells ((hb.block w2.heap.size (by omega)).trans F3.out)
    by_cases hlt : k + 1 < ys.length
    · have hlt' : (k : Int) < ((ys.length - 1 : Nat) : Int) := by omega
      have hlt2 : (k : Int) < (ys.length : Int) - 1 := by omega
      obtain ⟨j, hj, hjl⟩ := way_in hw (k := k) (by omega)
      have q0 := cut_cell hcu (k := k) (by omega)
      have q0 := (LR.cell (World.block_lt_of_cell? w _ q0)).trans q0
      rw [hj] at q0
      obtain ⟨vg, voff, rfl, p0, p1, p2⟩ := hcv j ss[j] (by simp [hjl])
      have pB := World.block_lt_of_cell? w _ p0
      have p0 := (LR.cell pB).trans p0
      have p1 := (LR.cell (p := ⟨vg, voff + j * 3 + 1, none⟩) pB).trans p1
      have p2 := (LR.cell (p := ⟨vg, voff + j * 3 + 2, none⟩) pB).trans p2
      have hjl' : (j : Int) < (ss.length : Int) := by omega
      have hsm2 := alongK_small (c := c) hw hsm (k := k) (by omega)
      have HK : Hid (alongK c ss ys s (k + 1) = img (flw c ss j) (alongK c ss ys s k)) := by
        show alongK c ss ys s (k + 1) = _
        rw [alongK, hj, Int.toNat_natCast]
      have hfs := flw_smalls (c := c) hok hjl
      have hro := HM.out ss[j].k ss[j].x ss[j].y (stm_ok hok hjl)
      rw [← flw_eq hjl] at hro
      generalize alongK c ss ys s k = x at *
      generalize flw c ss j = rs at *
      have him := fun W => relImage rs x W hfs hsm2
      clear hcu hcv
      generalize ss[j] = st at *
      go_wp2_with fail
      go_region_with (first
        | (go_at_call 48; refine (hro _).mono ?_; rintro e w4 ⟨rfl, b4⟩; have M4 : Below wr.heap.size wr w4 := Below.trans (by go_grown) b4)
        | (go_at_call 49; refine (him _).mono ?_; rintro e w5 ⟨rfl, b5⟩; have M5 : Below wr.heap.size wr w5 := Below.trans (Below.trans M4 (by go_grown)) (b5.mono M4.size)))
      all_goals
        have B4 : Below w3.heap.size w3 w5 := hb.trans (M5.mono hb.size)
        go_wp2
        go_roundw
        case rel => exact ⟨k + 1, by omega, by go_num, by rw [HK.out], B4⟩
        case measure => simp [intOf]; omega
    · have hkk : ys.length - 1 = k := by omega
      rw [hkk] at HR
      have hlt' : ¬ (k : Int) < ((ys.length - 1 : Nat) : Int) := by omega
      have hlt2 : ¬ (k : Int) < (ys.length : Int) - 1 := by omega
      go_wp2
      go_ret
      exact ⟨by first | rfl | (rw [HR.out]; rfl), LR⟩

end Go.Proofs.Ytebadimjpbhagaa
