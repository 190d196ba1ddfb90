/-
  slices.Sort over int64, of at most four numbers: what the insertion does.
-/
import Derived.Test.YtmloeldgeegddaaTarjanM
import Derived.Test.YtmloeldgeegddaaG13CloneI
import Derived.BigRegion
import Derived.Lib.QuietBelow
namespace Go.Proofs.Ytmloeldgeegddaa
open Go.RowKit
set_option linter.unusedVariables false
set_option maxHeartbeats 4000000
set_option maxRecDepth 20000

/-- Numbers from 0 on as Go's. -/
def nats (xs : List Nat) : List Value := ints (xs.map (fun x : Nat => (x : Int)))

theorem nats_length (xs : List Nat) : (nats xs).length = xs.length := by simp [nats, ints]

theorem nats_get {xs : List Nat} {j : Nat} (h : j < xs.length) : (nats xs)[j]? = some (.int .i64 (xs.getD j 0 : Nat)) := by
  simp [nats, ints, h, List.getD]

theorem nats_set (xs : List Nat) (j x : Nat) : nats (xs.set j x) = (nats xs).set j (.int .i64 (x : Int)) := by
  simp [nats, ints, List.map_set]

/-- A cell of a row of one's own is set. -/
theorem own_put1 {w : World} {base : Nat} {e : TypeId} {g n cap : Nat} {xs : List Value} (h : w.ownsRow base e 1 (.slice (some ⟨g, 0, none⟩) n cap) n xs) {j : Nat} (hj : j < n) (u : Value) : (w.setCell ⟨g, j, none⟩ u).ownsRow base e 1 (.slice (some ⟨g, 0, none⟩) n cap) n (xs.set j u) := by
  refine ⟨by rw [List.length_set]; exact h.1, ?_⟩
  rcases h.2 with ⟨e0, _⟩ | ⟨g', cap', cur, e0, h1, h2, h3, h4, h5, h6⟩
  · cases e0
  · cases e0
    have := heap_setCell_same w g j cur e u h2
    refine .inr ⟨g, cap, _, rfl, h1, this, h3, h4, by simpa using h5, ?_⟩
    rw [← h6]
    simp [List.take_set]

theorem bitsLen (n : Nat) (hn : n ≤ 4) (W : World) : Calls Try.prog 112 #[.int .u64 (n : Int)] W fun e w' => (∃ r : Int, e = .returned (.int .i64 r)) ∧ W = w' := by
  have : n = 0 ∨ n = 1 ∨ n = 2 ∨ n = 3 ∨ n = 4 := by omega
  have h64 : ∀ n : Nat, (n = 0 ∨ n = 1 ∨ n = 2 ∨ n = 3 ∨ n = 4) → ∀ W, Calls Try.prog 134 #[.int .u64 (n : Int)] W fun e w' => (∃ r : Int, e = .returned (.int .i64 r)) ∧ W = w' := by
    intro n h W
    rcases h with rfl | rfl | rfl | rfl | rfl
    all_goals
      go_enter Try.func134, Try.ntmps134
      go_wp2
      go_ret
      exact ⟨⟨_, rfl⟩, rfl⟩
  go_enter Try.func112, Try.ntmps112
  go_wp2_with (go_at_call 134; refine (h64 n this _).mono ?_; rintro e w1 ⟨⟨r, rfl⟩, rfl⟩)
  go_ret
  exact ⟨⟨_, rfl⟩, rfl⟩

theorem notNaN (a : Int) (W : World) : Calls Try.prog 113 #[.int .i64 a] W fun e w' => e = .returned (.bool false) ∧ W = w' := by
  go_enter Try.func113, Try.ntmps113
  go_wp2
  go_ret
  exact ⟨by simp, rfl⟩

theorem cmpLess (a b : Int) (W : World) : Calls Try.prog 141 #[.int .i64 a, .int .i64 b] W fun e w' => e = .returned (.bool (decide (a < b))) ∧ Below W.heap.size W w' := by
  have hn := notNaN
  go_enter Try.func141, Try.ntmps141
  go_wp2_with (go_at_call 113; refine (hn _ _).mono ?_; rintro e w1 ⟨rfl, rfl⟩)
  go_ret
  exact ⟨rfl, Below.refl _ _⟩

theorem blt_lt (a b : Nat) : Nat.blt a b = decide ((a : Int) < (b : Int)) := by
  cases h : Nat.blt a b
  · have : ¬ a < b := fun e => by
      have : Nat.blt a b = true := Nat.ble_eq_true_of_le e
      rw [this] at h; cases h
    simp; omega
  · have : a + 1 ≤ b := Nat.le_of_ble_eq_true h
    simp; omega

/-- The swap of two neighbours. -/
def swp1 {α : Type} (d : α) (xs : List α) (j : Nat) : List α := (xs.set (j + 1) (xs.getD j d)).set j (xs.getD (j + 1) d)

theorem sink_lt {α : Type} {lt : α → α → Bool} {d : α} {j : Nat} {xs : List α} (h : lt (xs.getD (j + 1) d) (xs.getD j d) = true) : sink lt d (j + 1) xs = sink lt d j (swp1 d xs j) := by
  show (bif lt (xs.getD (j + 1) d) (xs.getD j d) then _ else _) = _
  rw [h]; rfl

theorem sink_not {α : Type} {lt : α → α → Bool} {d : α} {j : Nat} {xs : List α} (h : lt (xs.getD (j + 1) d) (xs.getD j d) = false) : sink lt d (j + 1) xs = xs := by
  show (bif lt (xs.getD (j + 1) d) (xs.getD j d) then _ else _) = _
  rw [h]; rfl

theorem insOrd (xs : List Nat) (g cap base : Nat) (w : World) (hn : xs.length ≤ 4) (hv : w.ownsRow base 2 1 (.slice (some ⟨g, 0, none⟩) xs.length cap) xs.length (nats xs)) :
    Calls Try.prog 135 #[.slice (some ⟨g, 0, none⟩) xs.length cap, .int .i64 0, .int .i64 (xs.length : Int)] w fun e w' => (∃ u, e = .returned u) ∧
      w'.ownsRow base 2 1 (.slice (some ⟨g, 0, none⟩) xs.length cap) xs.length (nats (isrt Nat.blt 0 xs)) ∧ w.grownBy w' (some g) := by
  have hn' : (xs.length : Int) ≤ 4 := by omega
  obtain ⟨N, hN⟩ : ∃ N, xs.length = N := ⟨_, rfl⟩
  have HN : Hid _ := hN
  rw [hN] at hn hn' hv ⊢
  have HV : Hid (w.ownsRow base 2 1 (.slice (some ⟨g, 0, none⟩) N cap) N (nats xs)) := hv
  obtain ⟨R, hR⟩ : ∃ R, isrt Nat.blt 0 xs = R := ⟨_, rfl⟩
  have HR : Hid _ := hR
  rw [hR]
  clear hN hv hR
  go_enter Try.func135, Try.ntmps135
  go_wp2
  go_loopw [6] (fun i wr => ∃ (k : Nat) (ys : List Nat), k + 1 ≤ max N 1 ∧ i = .int .i64 ((k + 1 : Nat) : Int) ∧ ys.length = N ∧ isrtU Nat.blt 0 k xs = ys ∧ wr.ownsRow base 2 1 (.slice (some ⟨g, 0, none⟩) N cap) N (nats ys) ∧ w.grownBy wr (some g)) (fun i _ => N + 1 - (intOf i).toNat)
  case atStart => exact ⟨0, xs, by omega, rfl, HN.out, rfl, HV.out, World.grownBy.refl _ _⟩
  case round =>
    obtain ⟨k, ys, hk, rfl, hyl, hys, hown, hg⟩ := hrel
    have HYL : Hid _ := hyl
    have HYS : Hid _ := hys
    clear hyl hys HV
    by_cases hlt : k + 1 < N
    · have hlt' : ((k + 1 : Nat) : Int) < (N : Int) := by omega
      have hltk : (k : Int) + 1 < (N : Int) := by omega
      have HS0 : Hid (sink Nat.blt 0 (k + 1) ys = isrtU Nat.blt 0 (k + 1) xs) := by
        show sink Nat.blt 0 (k + 1) ys = sink Nat.blt 0 (k + 1) (isrtU Nat.blt 0 k xs)
        rw [HYS.out]
      have HO : Hid (wr.ownsRow base 2 1 (.slice (some ⟨g, 0, none⟩) N cap) N (nats ys)) := hown
      obtain ⟨wa, hwa⟩ : ∃ x, x = wr := ⟨_, rfl⟩
      subst hwa
      have HG : Hid (w.grownBy wa (some g)) := hg
      clear hown hg HYS
      go_wp2
      go_loopw [7] (fun jv wr => ∃ (j : Nat) (zs : List Nat), j ≤ k + 1 ∧ jv = .int .i64 (j : Int) ∧ zs.length = N ∧ sink Nat.blt 0 j zs = isrtU Nat.blt 0 (k + 1) xs ∧ wr.ownsRow base 2 1 (.slice (some ⟨g, 0, none⟩) N cap) N (nats zs) ∧ w.grownBy wr (some g)) (fun jv _ => (intOf jv).toNat)
      case atStart => exact ⟨k + 1, ys, Nat.le_refl _, rfl, HYL.out, HS0.out, HO.out, HG.out⟩
      case round =>
        obtain ⟨j, zs, hj, rfl, hzl, hzs, hown, hg⟩ := hrel
        have HZL : Hid _ := hzl
        have HZS : Hid _ := hzs
        have HOW : Hid (wr.ownsRow base 2 1 (.slice (some ⟨g, 0, none⟩) N cap) N (nats zs)) := hown
        have HGG : Hid (w.grownBy wr (some g)) := hg
        cases j with
        | zero =>
          have HE : Hid (isrtU Nat.blt 0 (k + 1) xs = zs) := HZS.out.symm
          clear hzl hzs hown hg
          go_wp2_with fail
          go_quiet (fail)
          go_wp2
          have BD := fun n => below_drewN (Below.refl wr.heap.size wr) n
          go_roundw
          case rel => exact ⟨k + 1, zs, by omega, by go_num, HZL.out, HE.out, own_kept HOW.out (BD _), grown_trans HGG.out (grown_of_below (BD _) _)⟩
          case measure => simp [intOf]; omega
        | succ j =>
          have cj := hown.cellAt (j + 1) (by omega)
          have ci := hown.cellAt j (by omega)
          rw [nats_get (by omega)] at cj ci
          obtain ⟨a, ha⟩ : ∃ a, zs.getD (j + 1) 0 = a := ⟨_, rfl⟩
          obtain ⟨b, hb⟩ : ∃ b, zs.getD j 0 = b := ⟨_, rfl⟩
          rw [ha] at cj
          rw [hb] at ci
          have hless : ∀ d os, _ := fun d os => Calls.regrown_of (w := wr) (d := d) (os := os) (cmpLess (a : Int) (b : Int) _)
          have HAB : Hid (Nat.blt (zs.getD (j + 1) 0) (zs.getD j 0) = decide ((a : Int) < (b : Int))) := by
            show Nat.blt (zs.getD (j + 1) 0) (zs.getD j 0) = decide ((a : Int) < (b : Int))
            rw [ha, hb]; exact blt_lt a b
          have HA : Hid _ := ha
          have HB : Hid _ := hb
          obtain ⟨J, hJ⟩ : ∃ J, j + 1 = J := ⟨_, rfl⟩
          have HJ : Hid _ := hJ
          rw [hJ] at cj hj ⊢
          have hj1 : (J : Int) < (N : Int) := by omega
          have hj0 : (0 : Int) < (J : Int) := by omega
          have hj0n : 0 < J := by omega
          have hjN : (j : Int) < (N : Int) := by omega
          have hjm : (J : Int) - 1 = (j : Int) := by omega
          have hjw : IntKind.i64.wrap (j : Int) = (j : Int) := IntWalk.i64_in _ (by omega)
          clear hzl hzs hown hg ha hb hJ
          have cj0 := cj
          have ci0 := ci
          have cj := cell_regrown cj
          have ci := cell_regrown ci
          obtain ⟨B, hB⟩ : ∃ B, decide ((a : Int) < (b : Int)) = B := ⟨_, rfl⟩
          rw [hB] at hless HAB
          clear hB
          go_wp2
          refine wp_region_quiet_below (by kernel_rfl) (by kernel_rfl) ?_
          repeat (go_big_quiet_step (exact hless _ _))
          refine wpQuiet_nil ?_
          intro _ hw'
          obtain ⟨⟨dq, osq⟩, hw''⟩ := hw'
          subst hw''
          have BW := below_regrown wr dq osq
          clear cj ci hless
          generalize Go.Sort.grow (redrawn wr dq) osq = W8 at *
          have s8 := BW.size
          have O8 : Hid (W8.ownsRow base 2 1 (.slice (some ⟨g, 0, none⟩) N cap) N (nats zs)) := own_kept HOW.out BW
          have G8 : Hid (w.grownBy W8 (some g)) := grown_trans HGG.out (grown_of_below BW _)
          have hgw := (HOW.out.lt g rfl).2
          have cj := (BW.cell (p := ⟨g, J, none⟩) hgw).trans cj0
          have ci := (BW.cell (p := ⟨g, j, none⟩) hgw).trans ci0
          clear cj0 ci0 HOW HGG BW
          cases B with
          | true =>
            have o1 := own_put1 O8.out (j := J) (by omega) (.int .i64 (b : Int))
            have o2 := own_put1 o1 (j := j) (by omega) (.int .i64 (a : Int))
            have fJ := O8.out.frozenAt J
            have fj := O8.out.frozenAt j
            have fj1 := o1.frozenAt j
            have cj1 := o1.cellAt j (by omega)
            rw [List.getElem?_set_ne (by have := HJ.out; omega), nats_get (by rw [HZL.out]; omega), HB.out] at cj1
            have e2 : ((nats zs).set J (.int .i64 (b : Int))).set j (.int .i64 (a : Int)) = nats (swp1 0 zs j) := by
              unfold swp1
              rw [nats_set, nats_set, HA.out, HB.out, HJ.out]
            rw [e2] at o2
            have O9 : Hid _ := o2
            have G9 : Hid _ := grown_trans G8.out (grown_trans (grown_setCell1 W8 g J (.int .i64 (b : Int))) (grown_setCell1 _ g j (.int .i64 (a : Int))))
            have HS9 : Hid (sink Nat.blt 0 j (swp1 0 zs j) = isrtU Nat.blt 0 (k + 1) xs) := by
              show sink Nat.blt 0 j (swp1 0 zs j) = isrtU Nat.blt 0 (k + 1) xs
              rw [← HZS.out, sink_lt HAB.out]
            have HL9 : Hid ((swp1 0 zs j).length = N) := by
              show (swp1 0 zs j).length = N
              unfold swp1
              rw [List.length_set, List.length_set]
              exact HZL.out
            clear o1 o2 e2 O8 G8
            go_wp2_with fail
            go_region
            have BD := Below.drew (Below.refl ((W8.setCell ⟨g, J, none⟩ (.int .i64 (b : Int))).setCell ⟨g, j, none⟩ (.int .i64 (a : Int))).heap.size ((W8.setCell ⟨g, J, none⟩ (.int .i64 (b : Int))).setCell ⟨g, j, none⟩ (.int .i64 (a : Int))))
            have O10 : Hid _ := own_kept O9.out BD
            have G10 : Hid _ := grown_trans G9.out (grown_of_below BD _)
            clear O9 G9 BD
            go_wp2
            go_roundw
            case rel => exact ⟨j, swp1 0 zs j, by omega, by first | rfl | go_num, HL9.out, HS9.out, O10.out, G10.out⟩
            case measure => simp [intOf]; omega
          | false =>
            go_wp2
            have HE : Hid (isrtU Nat.blt 0 (k + 1) xs = zs) := by
              show isrtU Nat.blt 0 (k + 1) xs = zs
              rw [← HZS.out]
              exact sink_not HAB.out
            go_roundw
            case rel => exact ⟨k + 1, zs, by omega, by go_num, HZL.out, HE.out, O8.out, G8.out⟩
            case measure => simp [intOf]; omega
    · have HE : Hid (R = ys) := by
        show R = ys
        rw [← HR.out, ← HYS.out]
        unfold isrt
        rw [HN.out]
        congr 1
        omega
      have hge : ¬ ((k + 1 : Nat) : Int) < (N : Int) := by omega
      have hgk : ¬ (k : Int) + 1 < (N : Int) := by omega
      have HO : Hid (wr.ownsRow base 2 1 (.slice (some ⟨g, 0, none⟩) N cap) N (nats ys)) := hown
      clear hown
      go_wp2
      go_returns
      exact ⟨⟨_, rfl⟩, by rw [HE.out]; exact HO.out, hg⟩

theorem pdqOrd (xs : List Nat) (g cap base : Nat) (m : Int) (w : World) (hn : xs.length ≤ 4) (hv : w.ownsRow base 2 1 (.slice (some ⟨g, 0, none⟩) xs.length cap) xs.length (nats xs)) :
    Calls Try.prog 124 #[.slice (some ⟨g, 0, none⟩) xs.length cap, .int .i64 0, .int .i64 (xs.length : Int), .int .i64 m] w fun e w' => (∃ u, e = .returned u) ∧
      w'.ownsRow base 2 1 (.slice (some ⟨g, 0, none⟩) xs.length cap) xs.length (nats (isrt Nat.blt 0 xs)) ∧ w.grownBy w' (some g) := by
  have hi := insOrd xs g cap base w hn hv
  have hn' : (xs.length : Int) ≤ 12 := by omega
  have hn2 : xs.length ≤ 12 := by omega
  generalize xs.length = N at *
  go_enter Try.func124, Try.ntmps124
  go_wp2
  refine wp_loop_rounds 1 ?_
  rw [rounds_succ]
  go_wp2_with fail
  go_at_call 135
  refine hi.mono ?_
  rintro e w2 ⟨⟨u, rfl⟩, h1, h2⟩
  go_wp2
  go_returns
  exact ⟨⟨_, rfl⟩, h1, h2⟩

theorem sortOrd (xs : List Nat) (g cap base : Nat) (w : World) (hn : xs.length ≤ 4) (hv : w.ownsRow base 2 1 (.slice (some ⟨g, 0, none⟩) xs.length cap) xs.length (nats xs)) :
    Calls Try.prog 110 #[.slice (some ⟨g, 0, none⟩) xs.length cap] w fun e w' => (∃ u, e = .returned u) ∧
      w'.ownsRow base 2 1 (.slice (some ⟨g, 0, none⟩) xs.length cap) xs.length (nats (isrt Nat.blt 0 xs)) ∧ w.grownBy w' (some g) := by
  have hi := fun m => pdqOrd xs g cap base m w hn hv
  have hb := bitsLen xs.length hn w
  have hu : IntKind.u64.wrap (xs.length : Int) = (xs.length : Int) := IntWalk.u64_in _ (by omega)
  generalize xs.length = N at *
  go_enter Try.func110, Try.ntmps110
  go_wp2_with fail
  go_at_call 112
  refine hb.mono ?_
  rintro e w1 ⟨⟨r, rfl⟩, rfl⟩
  go_wp2_with fail
  go_at_call 124
  refine (hi r).mono ?_
  rintro e w2 ⟨⟨u, rfl⟩, h1, h2⟩
  go_wp2
  go_returns
  exact ⟨⟨_, rfl⟩, h1, h2⟩

end Go.Proofs.Ytmloeldgeegddaa
