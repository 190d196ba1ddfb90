/-
  impl.WayOk.
-/
import Derived.Test.YtciccbbgamklbaaG04VisitsM
namespace Go.Proofs.Ytciccbbgamklbaa
open Go.RowKit
set_option linter.unusedVariables false
set_option maxHeartbeats 1000000

theorem implWayOk (ss : List Stm) (ys : List Int) (v u : Value) (w : World) (hl : ss.length ≤ maxLen) (hy : ys.length ≤ maxLen) (hv : Reads3 w v ss) (hu : Reads w u (ints ys)) (hcap : ∀ a m c, u = .slice a m c → m ≤ c) :
    Calls Try.prog 19 #[.agg #[v], u] w fun e w' => e = .returned (.bool (wayAns ss ys)) ∧ Below w.heap.size w w' := by
  have hb0 : Below w.heap.size w (w.alloc (.cells #[v] 30)) := by go_grown
  have he := implProcOk ss v _ hl (reads3_below hv hb0)
  have H0 := heap_alloc_new w (.cells #[v] 30)
  have s0 : (w.alloc (.cells #[v] 30)).heap.size = w.heap.size + 1 := by simp
  unfold maxLen at hy
  unfold wayAns
  cases hok : procOk ss
  · rw [hok] at he
    obtain ⟨ao, cap, rfl, hc⟩ := hu
    rw [ints_length]
    clear hc
    go_enter Try.func19, Try.ntmps19
    go_wp2_with (go_at_call 43; refine he.mono ?_; rintro e w2 ⟨rfl, b2⟩)
    go_ret
    exact ⟨rfl, hb0.trans (b2.mono hb0.size)⟩
  rw [hok] at he
  by_cases h1 : ys.length < 1
  · have hr : (true && decide (1 ≤ ys.length) && decide (ys.length ≤ 100) && (ys.getD 0 0 == 0) && stepsOk ss ys (ys.length - 1)) = false := by
      have : decide (1 ≤ ys.length) = false := decide_eq_false (by omega)
      rw [this]; simp
    rw [hr]
    have h1' : (ys.length : Int) < 1 := by omega
    obtain ⟨ao, cap, rfl, hc⟩ := hu
    rw [ints_length]
    clear hc hr
    go_enter Try.func19, Try.ntmps19
    go_wp2_with (go_at_call 43; refine he.mono ?_; rintro e w2 ⟨rfl, b2⟩)
    go_ret
    exact ⟨rfl, hb0.trans (b2.mono hb0.size)⟩
  by_cases h2 : 100 < ys.length
  · have hr : (true && decide (1 ≤ ys.length) && decide (ys.length ≤ 100) && (ys.getD 0 0 == 0) && stepsOk ss ys (ys.length - 1)) = false := by
      have : decide (ys.length ≤ 100) = false := decide_eq_false (by omega)
      rw [this]; simp
    rw [hr]
    have h1' : ¬ (ys.length : Int) < 1 := by omega
    have h2' : (100 : Int) < (ys.length : Int) := by omega
    obtain ⟨ao, cap, rfl, hc⟩ := hu
    rw [ints_length]
    clear hc hr
    go_enter Try.func19, Try.ntmps19
    go_wp2_with (go_at_call 43; refine he.mono ?_; rintro e w2 ⟨rfl, b2⟩)
    go_ret
    exact ⟨rfl, hb0.trans (b2.mono hb0.size)⟩
  have h1' : ¬ (ys.length : Int) < 1 := by omega
  have h2' : ¬ (100 : Int) < (ys.length : Int) := by omega
  obtain ⟨ao, cap, hu0, hc⟩ := id hu
  obtain ⟨g, off, rfl, hy0⟩ := hc 0 (.int .i64 (ys.getD 0 0)) (ints_get ys 0 (by omega))
  rw [Nat.add_zero] at hy0
  rw [ints_length] at hu0
  have hcap := hcap _ _ _ hu0
  by_cases h3 : ys.getD 0 0 = 0
  · have hr : (true && decide (1 ≤ ys.length) && decide (ys.length ≤ 100) && (ys.getD 0 0 == 0) && stepsOk ss ys (ys.length - 1)) = stepsOk ss ys (ys.length - 1) := by
      have e1 : decide (1 ≤ ys.length) = true := decide_eq_true (by omega)
      have e2 : decide (ys.length ≤ 100) = true := decide_eq_true (by omega)
      rw [e1, e2, h3]; simp
    rw [hr]
    clear hr
    have h30 : Hid _ := h3
    rw [h3] at hy0
    clear h3
    obtain ⟨_, h12, _⟩ := procOk_parts hok
    subst hu0
    have gB := World.block_lt_of_cell? w _ hy0
    obtain ⟨R, hR⟩ : ∃ R, stepsOk ss ys (ys.length - 1) = R := ⟨_, rfl⟩
    rw [hR]
    have HR : Hid _ := hR
    clear hR
    go_enter Try.func19, Try.ntmps19
    go_wp2_with fail
    go_at_call 43
    refine he.mono ?_
    rintro e w2 ⟨rfl, b2⟩
    have L2 := hb0.trans (b2.mono hb0.size)
    have y2 := (L2.cell gB).trans hy0
    have H2 : Hid _ := (b2.block w.heap.size (by omega)).trans H0
    have s2 := b2.size
    by_cases hone : ys.length = 1
    · rw [hone] at HR ⊢
      have HF : Hid (R = true) := HR.out.symm
      go_wp2_with fail
      all_goals
        refine wp_loop_rounds 1 ?_
        rw [rounds_succ]
        go_wp2
        go_ret
        exact ⟨by rw [HF.out]; rfl, L2⟩
    have hc1 : ¬ cap = 1 := by omega
    have hsub : ((ys.length - 1 : Nat) : Int) = (ys.length : Int) - 1 := by omega
    go_wp2_with fail
    clear y2
    go_loopw [29] (fun j wr => ∃ (k : Nat), k + 1 ≤ ys.length ∧ j = .int .i64 k ∧ stepsOk ss ys k = true ∧ Below w2.heap.size w2 wr) (fun j _ => ys.length - (intOf j).toNat)
    case atStart => exact ⟨0, by omega, rfl, rfl, Below.refl _ _⟩
    case round =>
      obtain ⟨k, hk, rfl, hst, hb⟩ := hrel
      have LR := L2.trans (hb.mono L2.size)
      obtain ⟨c0, f0⟩ := one_cell ((hb.block w.heap.size (by omega)).trans H2.out)
      have HST : Hid _ := hst
      clear hst
      by_cases hlt : k + 1 < ys.length
      · have hlt' : (k : Int) < ((ys.length - 1 : Nat) : Int) := by omega
        have hlt2 : (k : Int) < (ys.length : Int) := by omega
        have hk0 : (0 : Int) ≤ (k : Int) := by omega
        obtain ⟨j, hj, hjl⟩ := stepsOk_in hok h30.out HST.out
        obtain ⟨g1, off1, e1, q0⟩ := hc k (.int .i64 (ys.getD k 0)) (ints_get ys k (by omega))
        simp only [Option.some.injEq, Addr.mk.injEq, and_true] at e1
        obtain ⟨rfl, rfl⟩ := e1
        obtain ⟨g1, off1, e1, q1⟩ := hc (k + 1) (.int .i64 (ys.getD (k + 1) 0)) (ints_get ys (k + 1) (by omega))
        simp only [Option.some.injEq, Addr.mk.injEq, and_true] at e1
        obtain ⟨rfl, rfl⟩ := e1
        have q0 := (LR.cell (World.block_lt_of_cell? w _ q0)).trans q0
        have q1 := (LR.cell (World.block_lt_of_cell? w _ q1)).trans q1
        have ea : off + (k + 1) = off + 1 + k := by omega
        rw [ea] at q1
        have hstep : stepsOk ss ys (k + 1) = hasI (nextsS ss[j] j) (ys.getD (k + 1) 0) := by
          have hg : ss.getD ((j : Int).toNat) ⟨0, 0, 0⟩ = ss[j] := by simp [List.getD, hjl]
          rw [stepsOk, HST.out, hj, hg]; simp
        have HS : Hid _ := hstep
        clear hstep ea
        rw [hj] at q0
        generalize ys.getD (k + 1) 0 = y at *
        have hn : ∀ W, Below wr.heap.size wr W → _ := fun W hW => nextsOf ss j v W hjl h12 (reads3_below (reads3_below hv LR) hW)
        have hnl := nextsS_length ss[j] j
        generalize nextsS ss[j] j = ns at *
        have z1 : w.heap.size < wr.heap.size := by have := hb.size; omega
        have z2 : g < wr.heap.size := by have := hb.size; omega
        clear hc hj hy0
        obtain ⟨q, hq⟩ : ∃ q, hasI ns y = q := ⟨_, rfl⟩
        have HQ : Hid (hasI ns y = q) := hq
        rw [hq] at HS
        clear hq
        go_wp2_with fail
        go_region_with (first
          | (go_at_call 45; refine (hn _ (by go_grown)).mono ?_; rintro e w3 ⟨u3, rfl, own3, b3⟩; have M3 : Below wr.heap.size wr w3 := Below.trans (by go_grown) b3; obtain ⟨hc3, hf3⟩ := bcell M3)
          | (go_at_call 44; refine (sliceContains ns y _ _ (by unfold maxLen; omega) (reads_below (reads_own own3) (by go_grown))).mono ?_; rintro e w4 ⟨rfl, rfl⟩; (rw [HQ.out])))
        all_goals
          have B4 : Below w2.heap.size w2 w3 := hb.trans (M3.mono hb.size)
          cases q
          · have HF : Hid (R = false) := by
              show R = false
              rw [← HR.out]
              cases hs : stepsOk ss ys (ys.length - 1) with
              | false => rfl
              | true => exact absurd (stepsOk_mono (k := k + 1) (by omega) hs) (by rw [HS.out]; simp)
            go_wp2
            go_ret
            exact ⟨by rw [HF.out]; rfl, L2.trans (B4.mono L2.size)⟩
          · go_wp2
            go_roundw
            case rel => exact ⟨k + 1, by omega, by go_num, HS.out, B4⟩
            case measure => simp [intOf]; omega
      · have hkk : ys.length - 1 = k := by omega
        rw [hkk] at HR
        have HF : Hid (R = true) := HR.out.symm.trans HST.out
        have hlt' : ¬ (k : Int) < ((ys.length - 1 : Nat) : Int) := by omega
        go_wp2
        go_ret
        exact ⟨by rw [HF.out]; rfl, LR⟩
  · have hr : (true && decide (1 ≤ ys.length) && decide (ys.length ≤ 100) && (ys.getD 0 0 == 0) && stepsOk ss ys (ys.length - 1)) = false := by
      have : (ys.getD 0 0 == 0) = false := by simpa using h3
      rw [this]; simp
    rw [hr]
    have h3' : (ys.getD 0 0 != 0) = true := by simpa using h3
    clear hr
    generalize ys.getD 0 0 = y at *
    subst hu0
    have gB := World.block_lt_of_cell? w _ hy0
    go_enter Try.func19, Try.ntmps19
    go_wp2_with fail
    go_at_call 43
    refine he.mono ?_
    rintro e w2 ⟨rfl, b2⟩
    have L2 := hb0.trans (b2.mono hb0.size)
    have y2 := (L2.cell gB).trans hy0
    go_wp2
    go_ret
    exact ⟨rfl, L2⟩


end Go.Proofs.Ytciccbbgamklbaa
