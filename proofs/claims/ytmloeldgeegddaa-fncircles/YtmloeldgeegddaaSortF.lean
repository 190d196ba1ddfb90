/-
  slices.SortFunc over lists of numbers by their first.
-/
import Derived.Test.YtmloeldgeegddaaG15SortG
namespace Go.Proofs.Ytmloeldgeegddaa
open Go.RowKit
set_option linter.unusedVariables false
set_option maxHeartbeats 4000000
set_option maxRecDepth 20000

theorem insCmp (L : List LV) (g cap base : Nat) (w : World) (hn : L.length ≤ 4) (hv : GRow w base g L.length cap L) :
    Calls Try.prog 125 #[.slice (some ⟨g, 0, none⟩) L.length cap, .int .i64 0, .int .i64 (L.length : Int), .func (.func 82) #[] #[]] w fun e w' => (∃ u, e = .returned u) ∧
      GRow w' base g L.length cap (isrt ltL lv0 L) ∧ w.grownBy w' (some g) := by
  have hn' : (L.length : Int) ≤ 4 := by omega
  obtain ⟨N, hN⟩ : ∃ N, L.length = N := ⟨_, rfl⟩
  have HN : Hid _ := hN
  rw [hN] at hn hn' hv ⊢
  have HV : Hid (GRow w base g N cap L) := hv
  obtain ⟨R, hR⟩ : ∃ R, isrt ltL lv0 L = R := ⟨_, rfl⟩
  have HR : Hid _ := hR
  rw [hR]
  clear hN hv hR
  go_enter Try.func125, Try.ntmps125
  go_wp2
  go_loopw [8] (fun i wr => ∃ (k : Nat) (ys : List LV), k + 1 ≤ max N 1 ∧ i = .int .i64 ((k + 1 : Nat) : Int) ∧ isrtU ltL lv0 k L = ys ∧ GRow wr base g N cap ys ∧ w.grownBy wr (some g)) (fun i _ => N + 1 - (intOf i).toNat)
  case atStart => exact ⟨0, L, by omega, rfl, rfl, HV.out, World.grownBy.refl _ _⟩
  case round =>
    obtain ⟨k, ys, hk, rfl, hys, hown, hg⟩ := hrel
    have HYS : Hid _ := hys
    clear hys HV
    by_cases hlt : k + 1 < N
    · have hlt' : ((k + 1 : Nat) : Int) < (N : Int) := by omega
      have hltk : (k : Int) + 1 < (N : Int) := by omega
      have HS0 : Hid (sink ltL lv0 (k + 1) ys = isrtU ltL lv0 (k + 1) L) := by
        show sink ltL lv0 (k + 1) ys = sink ltL lv0 (k + 1) (isrtU ltL lv0 k L)
        rw [HYS.out]
      have HO : Hid (GRow wr base g N cap ys) := hown
      obtain ⟨wa, hwa⟩ : ∃ x, x = wr := ⟨_, rfl⟩
      subst hwa
      have HG : Hid (w.grownBy wa (some g)) := hg
      clear hown hg HYS
      go_wp2
      go_loopw [9] (fun jv wr => ∃ (j : Nat) (zs : List LV), j ≤ k + 1 ∧ jv = .int .i64 (j : Int) ∧ sink ltL lv0 j zs = isrtU ltL lv0 (k + 1) L ∧ GRow wr base g N cap zs ∧ w.grownBy wr (some g)) (fun jv _ => (intOf jv).toNat)
      case atStart => exact ⟨k + 1, ys, Nat.le_refl _, rfl, HS0.out, HO.out, HG.out⟩
      case round =>
        obtain ⟨j, zs, hj, rfl, hzs, hown, hg⟩ := hrel
        have HZS : Hid _ := hzs
        have HOW : Hid (GRow wr base g N cap zs) := hown
        have HGG : Hid (w.grownBy wr (some g)) := hg
        cases j with
        | zero =>
          have HE : Hid (isrtU ltL lv0 (k + 1) L = zs) := HZS.out.symm
          clear hzs hown hg
          go_wp2_with fail
          go_quiet (fail)
          go_wp2
          have BD := fun n => below_drewN (Below.refl wr.heap.size wr) n
          go_roundw
          case rel => exact ⟨k + 1, zs, by omega, by go_num, HE.out, HOW.out.below (BD _), grown_trans HGG.out (grown_of_below (BD _) _)⟩
          case measure => simp [intOf]; omega
        | succ j =>
          obtain ⟨cj, _⟩ := hown.cell (j := j + 1) (by omega)
          obtain ⟨ci, _⟩ := hown.cell (j := j) (by omega)
          have hzl := hown.len
          obtain ⟨na, oa⟩ := hown.each _ (mem_getD' (d := lv0) (by omega : j + 1 < zs.length))
          obtain ⟨nb, ob⟩ := hown.each _ (mem_getD' (d := lv0) (by omega : j < zs.length))
          have HAB0 : Hid (ltL (zs.getD (j + 1) lv0) (zs.getD j lv0) = decide (sgnN (hd (zs.getD (j + 1) lv0).2) (hd (zs.getD j lv0).2) < 0)) := (sgnN_lt _ _).symm
          have hless : ∀ d os, _ := fun d os => Calls.regrown_of (w := wr) (d := d) (os := os) (circlesCmp (zs.getD (j + 1) lv0).2 (zs.getD j lv0).2 (zs.getD (j + 1) lv0).1 (zs.getD j lv0).1 _ na nb (reads_below (reads_own oa) (below_regrown wr d os)) (reads_below (reads_own ob) (below_regrown wr d os)))
          obtain ⟨z, hz⟩ : ∃ z, sgnN (hd (zs.getD (j + 1) lv0).2) (hd (zs.getD j lv0).2) = z := ⟨_, rfl⟩
          rw [hz] at hless HAB0
          obtain ⟨B, hB⟩ : ∃ B, decide (z < 0) = B := ⟨_, rfl⟩
          rw [hB] at HAB0
          obtain ⟨a, ha⟩ : ∃ a, (zs.getD (j + 1) lv0).1 = a := ⟨_, rfl⟩
          obtain ⟨b, hb⟩ : ∃ b, (zs.getD j lv0).1 = b := ⟨_, rfl⟩
          rw [ha] at cj hless oa
          rw [hb] at ci hless ob
          have HA : Hid ((zs.getD (j + 1) lv0).1 = a) := ha
          have HB : Hid ((zs.getD j lv0).1 = b) := hb
          obtain ⟨ao, am, ac, ea⟩ : ∃ o m c, a = .slice o m c := by obtain ⟨o, c, e, _⟩ := reads_own oa; exact ⟨_, _, _, e⟩
          obtain ⟨bo, bm, bc, eb⟩ : ∃ o m c, b = .slice o m c := by obtain ⟨o, c, e, _⟩ := reads_own ob; exact ⟨_, _, _, e⟩
          clear hzs hown hg ha hb hz oa ob na nb
          subst ea eb
          obtain ⟨J, hJ⟩ : ∃ J, j + 1 = J := ⟨_, rfl⟩
          have HJ : Hid _ := hJ
          rw [hJ] at cj hj ⊢
          have hj1 : (J : Int) < (N : Int) := by omega
          have hj0 : (0 : Int) < (J : Int) := by omega
          have hj0n : 0 < J := by omega
          have hjN : (j : Int) < (N : Int) := by omega
          have hjm : (J : Int) - 1 = (j : Int) := by omega
          have hjw : IntKind.i64.wrap (j : Int) = (j : Int) := IntWalk.i64_in _ (by omega)
          clear hJ
          have cj0 := cj
          have ci0 := ci
          have cj := cell_regrown cj
          have ci := cell_regrown ci
          go_wp2
          refine wp_region_quiet_below (by kernel_rfl) (by kernel_rfl) ?_
          repeat (go_big_quiet_step (exact hless _ _))
          refine wpQuiet_nil ?_
          intro _ hw'
          obtain ⟨⟨dq, osq⟩, hw''⟩ := hw'
          subst hw''
          have BW := below_regrown wr dq osq
          clear cj ci hless
          generalize Go.Sort.grow (redrawn wr dq) osq = W8 at *
          have s8 := BW.size
          have O8 : Hid (GRow W8 base g N cap zs) := HOW.out.below BW
          have G8 : Hid (w.grownBy W8 (some g)) := grown_trans HGG.out (grown_of_below BW _)
          have hgw := (HOW.out.row.lt g rfl).2
          have cj := (BW.cell (p := ⟨g, J, none⟩) hgw).trans cj0
          have ci := (BW.cell (p := ⟨g, j, none⟩) hgw).trans ci0
          clear cj0 ci0 HOW HGG BW
          cases B with
          | true =>
            have sw := O8.out.swap (j := j) (by omega)
            rw [HA.out, HB.out, HJ.out] at sw
            obtain ⟨sw1, sw2⟩ := sw
            have fJ := O8.out.row.frozenAt J
            have fj := O8.out.row.frozenAt j
            have o1 := own_put1 O8.out.row (j := J) (by omega) (.slice bo bm bc)
            have fj1 := o1.frozenAt j
            have cj1 : (W8.setCell ⟨g, J, none⟩ (.slice bo bm bc)).cell? ⟨g, j, none⟩ = some (.slice bo bm bc) := by
              rw [o1.cellAt j (by omega), List.getElem?_set_ne (by have := HJ.out; omega), List.getElem?_map, getD_some' (d := lv0) (by rw [O8.out.len]; omega)]
              exact congrArg some HB.out
            have O9 : Hid _ := sw1
            have G9 : Hid _ := grown_trans G8.out sw2
            have HS9 : Hid (sink ltL lv0 j (swp1 lv0 zs j) = isrtU ltL lv0 (k + 1) L) := by
              show sink ltL lv0 j (swp1 lv0 zs j) = isrtU ltL lv0 (k + 1) L
              rw [← HZS.out, sink_lt HAB0.out]
            clear o1 sw1 sw2 O8 G8
            go_wp2_with fail
            go_region
            have BD := Below.drew (Below.refl ((W8.setCell ⟨g, J, none⟩ (.slice bo bm bc)).setCell ⟨g, j, none⟩ (.slice ao am ac)).heap.size ((W8.setCell ⟨g, J, none⟩ (.slice bo bm bc)).setCell ⟨g, j, none⟩ (.slice ao am ac)))
            have O10 : Hid _ := O9.out.below BD
            have G10 : Hid _ := grown_trans G9.out (grown_of_below BD _)
            clear O9 G9 BD
            go_wp2
            go_roundw
            case rel => exact ⟨j, swp1 lv0 zs j, by omega, by first | rfl | go_num, HS9.out, O10.out, G10.out⟩
            case measure => simp [intOf]; omega
          | false =>
            go_wp2
            have HE : Hid (isrtU ltL lv0 (k + 1) L = zs) := by
              show isrtU ltL lv0 (k + 1) L = zs
              rw [← HZS.out]
              exact sink_not HAB0.out
            go_roundw
            case rel => exact ⟨k + 1, zs, by omega, by go_num, HE.out, O8.out, G8.out⟩
            case measure => simp [intOf]; omega
    · have HE : Hid (R = ys) := by
        show R = ys
        rw [← HR.out, ← HYS.out]
        unfold isrt
        rw [HN.out]
        congr 1
        omega
      have hge : ¬ ((k + 1 : Nat) : Int) < (N : Int) := by omega
      have hgk : ¬ (k : Int) + 1 < (N : Int) := by omega
      have HO : Hid (GRow wr base g N cap ys) := hown
      clear hown
      go_wp2
      go_returns
      exact ⟨⟨_, rfl⟩, by rw [HE.out]; exact HO.out, hg⟩

theorem pdqCmp (L : List LV) (g cap base : Nat) (m : Int) (w : World) (hn : L.length ≤ 4) (hv : GRow w base g L.length cap L) :
    Calls Try.prog 111 #[.slice (some ⟨g, 0, none⟩) L.length cap, .int .i64 0, .int .i64 (L.length : Int), .int .i64 m, .func (.func 82) #[] #[]] w fun e w' => (∃ u, e = .returned u) ∧
      GRow w' base g L.length cap (isrt ltL lv0 L) ∧ w.grownBy w' (some g) := by
  have hi := insCmp L g cap base w hn hv
  have hn' : (L.length : Int) ≤ 12 := by omega
  have hn2 : L.length ≤ 12 := by omega
  generalize L.length = N at *
  go_enter Try.func111, Try.ntmps111
  go_wp2
  refine wp_loop_rounds 1 ?_
  rw [rounds_succ]
  go_wp2_with fail
  go_at_call 125
  refine hi.mono ?_
  rintro e w2 ⟨⟨u, rfl⟩, h1, h2⟩
  go_wp2
  go_returns
  exact ⟨⟨_, rfl⟩, h1, h2⟩

theorem sortCmp (L : List LV) (g cap base : Nat) (w : World) (hn : L.length ≤ 4) (hv : GRow w base g L.length cap L) :
    Calls Try.prog 81 #[.slice (some ⟨g, 0, none⟩) L.length cap, .func (.func 82) #[] #[]] w fun e w' => (∃ u, e = .returned u) ∧
      GRow w' base g L.length cap (isrt ltL lv0 L) ∧ w.grownBy w' (some g) := by
  have hi := fun m => pdqCmp L g cap base m w hn hv
  have hb := bitsLen L.length hn w
  have hu : IntKind.u64.wrap (L.length : Int) = (L.length : Int) := IntWalk.u64_in _ (by omega)
  generalize L.length = N at *
  go_enter Try.func81, Try.ntmps81
  go_wp2_with fail
  go_at_call 112
  refine hb.mono ?_
  rintro e w1 ⟨⟨r, rfl⟩, rfl⟩
  go_wp2_with fail
  go_at_call 111
  refine (hi r).mono ?_
  rintro e w2 ⟨⟨u, rfl⟩, h1, h2⟩
  go_wp2
  go_returns
  exact ⟨⟨_, rfl⟩, h1, h2⟩

end Go.Proofs.Ytmloeldgeegddaa
