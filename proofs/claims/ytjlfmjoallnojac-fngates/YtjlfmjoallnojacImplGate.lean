/-
  impl.Gate.
-/
import Derived.Test.YtjlfmjoallnojacGateM
import Derived.Test.YtjlfmjoallnojacSets2
import Derived.Deep.RegionHeld3
namespace Go.Proofs.Ytjlfmjoallnojac
open Go.RowKit
set_option linter.unusedVariables false
set_option linter.unusedSimpArgs false
set_option maxHeartbeats 16000000

theorem reads_row {w : World} {G : Nat} {gs : List (List Bool)} (h : TabAt w G gs) (i : Nat) (hi : i < 12) : Reads w (.slice (some ⟨G, i * 12, none⟩) 12 12) ((gs.getD i []).map .bool) := by
  obtain ⟨h1, h2⟩ := h.rows i hi
  exact ⟨some ⟨G, i * 12, none⟩, 12, by rw [List.length_map, h1], fun j x hx => ⟨G, i * 12, rfl, h2 j x hx⟩⟩

theorem implGate (ss : List Stm) (n : Int) (v : Value) (w : World) (hl : ss.length ≤ maxLen) (hv : Reads3 w v ss) :
    Calls Try.prog 7 #[.agg #[v], .int .i64 n] w fun e w' => e = .returned (.int .i64 (gateAns ss n)) ∧ Below w.heap.size w w' := by
  have hb0 : Below w.heap.size w (w.alloc (.cells #[v] 26)) := by go_grown
  have he := hasStmt ss n v _ hl (reads3_below hv hb0)
  have H0 := heap_alloc_new w (.cells #[v] 26)
  have s0 : (w.alloc (.cells #[v] 26)).heap.size = w.heap.size + 1 := by simp
  have hzt := zeroSets.1
  cases hok : hasS ss n
  · rw [hok] at he
    have HANS : Hid (gateAns ss n = -1) := by
      show gateAns ss n = -1
      unfold gateAns; rw [hok]; rfl
    go_enter Try.func7, Try.ntmps7
    go_wp2_with (go_at_call 16; refine he.mono ?_; rintro e w2 ⟨rfl, b2⟩)
    go_ret
    exact ⟨ret_int HANS.out.symm, hb0.trans (b2.mono hb0.size)⟩
  rw [hok] at he
  have HANS : Hid (gateAns ss n = ((gatesL ss n).find? (goodGate ss n)).getD (-1)) := by
    show gateAns ss n = _
    unfold gateAns; rw [hok]; rfl
  obtain ⟨hp, i, rfl, hi⟩ := hasS_true hok
  have h12 := (procOk_parts hp).2.1
  obtain ⟨R, hR⟩ := isReached_some hp (-1)
  go_enter Try.func7, Try.ntmps7
  go_wp2_with fail
  go_at_call 16
  refine he.mono ?_
  rintro e w2 ⟨rfl, b2⟩
  have L2 := hb0.trans (b2.mono hb0.size)
  have B2 := (b2.block w.heap.size (by omega)).trans H0
  obtain ⟨c2, f2⟩ := one_cell B2
  clear he
  go_wp2_with fail
  go_at_call 17
  refine (gatesOfAll ss R hR hp v w2 hl (reads3_below hv L2)).mono ?_
  rintro e w3 ⟨gs, rfl, g1, g2, g3, b3⟩
  have L3 := L2.trans (b3.mono L2.size)
  have e1 := row_gates g3 i (gatesL_is ss i)
  clear c2 f2 B2
  go_wp2_with (refine wpList_storeTabG rfl rfl (.tmp 5) (.tmp 13) rfl w3.heap.size gs rfl rfl g1 g2 (zero_there (heap_alloc_new w3 _)) ?_; intro w4 T4 gr4; have L4 : Below w.heap.size w w4 := (L3.alloc L3.size _).grown gr4 (by have := L3.size; simp; omega) (fun k e => by cases e; exact L3.size); have i12 : (i : Int) < 12 := (by omega); clear gr4 L3)
  have hr := T4.rows i (by omega)
  have hn := numbersIn (gs.getD i []) _ w4 (by rw [hr.1]; omega) (reads_row T4 i (by omega))
  rw [e1] at hn
  go_at_call 18
  refine hn.mono ?_
  rintro e w5 ⟨u, rfl, own5, b5⟩
  clear hn hr
  have T5 := T4.below b5
  have L5 := L4.trans (b5.mono L4.size)
  have sG : w3.heap.size + 1 ≤ w4.heap.size := T4.lt
  have own5' := own_mono own5 sG
  obtain ⟨ao, cap, rfl, -⟩ := reads_own own5
  rw [ints_length] at own5' ⊢
  obtain ⟨u, hu⟩ : ∃ u, u = Value.slice ao (gatesL ss i).length cap := ⟨_, rfl⟩
  rw [← hu] at own5'
  have sW : w.heap.size ≤ w3.heap.size := by have := L2.size; have := b3.size; omega
  clear own5 b5 T4 L4 b3 b2 L2 sG
  generalize w3.heap.size = G at *
  have hAl : (gatesL ss i).length ≤ 12 := Nat.le_trans (gatesL_length ss i) h12
  have HIN : Hid (∀ x ∈ gatesL ss i, ∃ d : Nat, x = (d : Int) ∧ Dom ss d i) := fun x hx => by
    obtain ⟨d, i', e, e2, hd⟩ := gatesL_in hx
    obtain rfl : i = i' := by omega
    exact ⟨d, e, hd⟩
  generalize hAA : gatesL ss i = A at *
  clear hAA
  go_wp2_with fail
  go_loopw [7, 19] (fun _ iv wr => ∃ k : Nat, k ≤ A.length ∧ iv = .int .i64 k ∧ (∀ x ∈ A.take k, goodGate ss i x = false) ∧ wr.ownsRow (G + 1) 2 1 u A.length (ints A) ∧ TabAt wr G gs ∧ Below w.heap.size w wr) (fun _ iv _ => A.length - (intOf iv).toNat)
  case atStart => exact ⟨0, Nat.zero_le _, rfl, by simp, own5', T5, L5⟩
  case round =>
    obtain ⟨k, hk, rfl, hno, hO, hT, hL⟩ := hrel
    obtain ⟨wa, hwa⟩ : ∃ x, x = wr := ⟨_, rfl⟩
    subst hwa
    clear own5' T5 L5
    have HNO : Hid (∀ x ∈ A.take k, goodGate ss i x = false) := hno
    clear hno
    by_cases hlt : k < A.length
    · have hlt' : (k : Int) < (A.length : Int) := by omega
      obtain ⟨d, hd, hdo⟩ := HIN.out _ (List.getElem_mem hlt)
      have HD : Hid (A[k] = (d : Int)) := hd
      have htk : Hid (A.take (k + 1) = A.take k ++ [(d : Int)]) := by
        show A.take (k + 1) = _
        rw [List.take_succ_eq_append_getElem hlt, hd]
      obtain ⟨ao', cap', e', hc'⟩ := reads_own hO
      rw [hu] at e'
      obtain ⟨rfl, -, rfl⟩ : ao = ao' ∧ A.length = (ints A).length ∧ cap = cap' := by simpa using e'
      obtain ⟨g, off, rfl, c0⟩ := hc' k (.int .i64 (d : Int)) (by simp [ints, hlt, hd])
      have hdl := hdo.2.1
      have d12 : (d : Int) < 12 := by omega
      have HO : Hid (wa.ownsRow (G + 1) 2 1 u A.length (ints A)) := hO
      have HT : Hid (TabAt wa G gs) := hT
      clear hc' e' hd
      by_cases hdi : d = i
      · subst hdi
        have HBAD : Hid (goodGate ss d d = false) := by
          show goodGate ss d d = false
          cases h : goodGate ss d d
          · rfl
          · exact absurd rfl ((goodGate_iff ss d d).1 h).1
        clear hO hT
        go_wp2_with fail
        go_quiet (fail)
        go_wp2
        go_roundw
        case rel =>
          refine ⟨k + 1, by omega, by go_num, fun x hx => ?_, own_kept HO.out (below_drewN (Below.refl _ _) _), HT.out.kept rfl, below_drewN hL _⟩
          rw [htk.out] at hx
          rcases List.mem_append.1 hx with h | h
          · exact HNO.out x h
          · simp at h; rw [h]; exact HBAD.out
        case measure => simp [intOf]; omega
      · have hne : (d : Int) ≠ (i : Int) := by omega
        have hbq : ((d : Int) == (i : Int)) = false := by simpa using hne
        have hgg := goodGate_row hp g1 g2 g3 hdo hdi
        obtain ⟨r1, r2⟩ := hT.rows d (by omega)
        obtain ⟨r3, r4⟩ := hT.rows i (by omega)
        have hwi : ∀ w', _ := fun w' => setWith (gs.getD d []) i w' (by omega) r1
        have hF1 : ((gs.getD d []).set i true).length = 12 := by rw [List.length_set]; exact r1
        unfold setV at hwi
        obtain ⟨Rd, hRd⟩ : ∃ R, gs.getD d [] = R := ⟨_, rfl⟩
        obtain ⟨Ri, hRi⟩ : ∃ R, gs.getD i [] = R := ⟨_, rfl⟩
        have rngd : ∀ w' : World, TabAt w' G gs → w'.rangeAt G (d * 12) (bls (gs.getD d [])) := fun w' h => (h.rows d (by omega)).2
        have rngi : ∀ w' : World, TabAt w' G gs → w'.rangeAt G (i * 12) (bls (gs.getD i [])) := fun w' h => (h.rows i (by omega)).2
        rw [hRd] at r1 r2 hwi hF1 hgg rngd
        rw [hRi] at r3 r4 hgg rngi
        clear hRd hRi
        obtain ⟨F, hF⟩ : ∃ F, Rd.set i true = F := ⟨_, rfl⟩
        rw [hF] at hwi hF1 hgg
        clear hF
        have HGG : Hid (F = Ri ↔ goodGate ss i d = true) := hgg
        have heq : ∀ w, (Op.equalIn 10000 40 (.agg (bls F).toArray) (.agg (bls Ri).toArray)).run Try.prog w = .ok (decide (F = Ri)) w := fun w => run_equalSets w F Ri hF1 r3
        have zd := setSize Rd r1
        have zi := setSize Ri r3
        clear hgg hO
        go_wp2_with fail
        refine wp_region_held_drew (S := fun w' => w'.rangeAt G (d * 12) (bls Rd) ∧ w'.rangeAt G (i * 12) (bls Ri)) (by kernel_rfl) ⟨r2, r4⟩ (fun hHeld => ?_)
        refine wpAnyH_take (i := 0) (oi := ?oi0) (v := .int .i64 (d : Int)) ?hi0 (by kernel_rfl) (by kernel_rfl) (by kernel_rfl) ?hq0 ?hy0 hHeld ?hr0
        case hi0 =>
          simp only [List.getElem?_toArray, List.getElem?_cons_succ, List.getElem?_cons_zero]
          rfl
        case hq0 => exact fun _ _ _ h => h
        case hy0 => exact Or.inl ⟨by kernel_rfl, fun w hSw => by go_simp⟩
        try simp only [Act.put, List.setIfInBounds_toArray, List.set_cons_zero, List.set_cons_succ]
        refine wpAnyH_take (i := 1) (oi := ?oi1) (v := .int .i64 (i : Int)) ?hi1 (by kernel_rfl) (by kernel_rfl) (by kernel_rfl) ?hq1 ?hy1 hHeld ?hr1
        case hi1 =>
          simp only [List.getElem?_toArray, List.getElem?_cons_succ, List.getElem?_cons_zero]
          rfl
        case hq1 => exact fun _ _ _ h => h
        case hy1 => exact Or.inl ⟨by kernel_rfl, fun w hSw => by go_simp⟩
        try simp only [Act.put, List.setIfInBounds_toArray, List.set_cons_zero, List.set_cons_succ]
        refine wpAnyH_take (i := 2) (oi := ?oi2) (v := .bool true) ?hi2 (by kernel_rfl) (by kernel_rfl) (by kernel_rfl) ?hq2 ?hy2 hHeld ?hr2
        case hi2 =>
          simp only [List.getElem?_toArray, List.getElem?_cons_succ, List.getElem?_cons_zero]
          rfl
        case hq2 => exact fun _ _ _ h => h
        case hy2 => exact Or.inl ⟨by kernel_rfl, fun w hSw => by go_simp⟩
        try simp only [Act.put, List.setIfInBounds_toArray, List.set_cons_zero, List.set_cons_succ]
        refine wpAnyH_take (i := 3) (oi := ?oi3) (v := .bool true) ?hi3 (by kernel_rfl) (by kernel_rfl) (by kernel_rfl) ?hq3 ?hy3 hHeld ?hr3
        case hi3 =>
          simp only [List.getElem?_toArray, List.getElem?_cons_succ, List.getElem?_cons_zero]
          rfl
        case hq3 => exact fun _ _ _ h => h
        case hy3 => exact Or.inl ⟨by kernel_rfl, fun w hSw => by go_simp⟩
        try simp only [Act.put, List.setIfInBounds_toArray, List.set_cons_zero, List.set_cons_succ]
        refine wpAnyH_take (i := 4) (oi := ?oi4) (v := .int .i64 (d : Int)) ?hi4 (by kernel_rfl) (by kernel_rfl) (by kernel_rfl) ?hq4 ?hy4 hHeld ?hr4
        case hi4 =>
          simp only [List.getElem?_toArray, List.getElem?_cons_succ, List.getElem?_cons_zero]
          rfl
        case hq4 => exact fun _ _ _ h => h
        case hy4 => exact Or.inl ⟨by kernel_rfl, fun w hSw => by go_simp⟩
        try simp only [Act.put, List.setIfInBounds_toArray, List.set_cons_zero, List.set_cons_succ]
        refine wpAnyH_take (i := 5) (oi := ?oi5) (v := .pointer (some ⟨G, d * 12, none⟩)) ?hi5 (by kernel_rfl) (by kernel_rfl) (by kernel_rfl) ?hq5 ?hy5 hHeld ?hr5
        case hi5 =>
          simp only [List.getElem?_toArray, List.getElem?_cons_succ, List.getElem?_cons_zero]
          rfl
        case hq5 => exact fun _ _ _ h => h
        case hy5 => exact Or.inl ⟨by kernel_rfl, fun w hSw => by go_simp⟩
        try simp only [Act.put, List.setIfInBounds_toArray, List.set_cons_zero, List.set_cons_succ]
        refine wpAnyH_take (i := 6) (oi := ?oi6) (v := .agg (bls Rd).toArray) ?hi6 (by kernel_rfl) (by kernel_rfl) (by kernel_rfl) ?hq6 ?hy6 hHeld ?hr6
        case hi6 =>
          simp only [List.getElem?_toArray, List.getElem?_cons_succ, List.getElem?_cons_zero]
          rfl
        case hq6 => exact fun _ _ _ h => h
        case hy6 => exact yieldsIf_load_mid (by kernel_rfl) 40 (.tmp 28) rfl G (d * 12) rfl (bls Rd) _ (fun w h => h.1) setUnd rfl zd
        try simp only [Act.put, List.setIfInBounds_toArray, List.set_cons_zero, List.set_cons_succ]
        refine wpAnyH_take (i := 7) (oi := ?oi7) (v := .int .i64 (i : Int)) ?hi7 (by kernel_rfl) (by kernel_rfl) (by kernel_rfl) ?hq7 ?hy7 hHeld ?hr7
        case hi7 =>
          simp only [List.getElem?_toArray, List.getElem?_cons_succ, List.getElem?_cons_zero]
          rfl
        case hq7 => exact fun _ _ _ h => h
        case hy7 => exact Or.inl ⟨by kernel_rfl, fun w hSw => by go_simp⟩
        try simp only [Act.put, List.setIfInBounds_toArray, List.set_cons_zero, List.set_cons_succ]
        refine wpAnyH_take (i := 9) (oi := ?oi9) (v := .int .i64 (i : Int)) ?hi9 (by kernel_rfl) (by kernel_rfl) (by kernel_rfl) ?hq9 ?hy9 hHeld ?hr9
        case hi9 =>
          simp only [List.getElem?_toArray, List.getElem?_cons_succ, List.getElem?_cons_zero]
          rfl
        case hq9 => exact fun _ _ _ h => h
        case hy9 => exact Or.inl ⟨by kernel_rfl, fun w hSw => by go_simp⟩
        try simp only [Act.put, List.setIfInBounds_toArray, List.set_cons_zero, List.set_cons_succ]
        refine wpAnyH_take (i := 10) (oi := ?oi10) (v := .pointer (some ⟨G, i * 12, none⟩)) ?hi10 (by kernel_rfl) (by kernel_rfl) (by kernel_rfl) ?hq10 ?hy10 hHeld ?hr10
        case hi10 =>
          simp only [List.getElem?_toArray, List.getElem?_cons_succ, List.getElem?_cons_zero]
          rfl
        case hq10 => exact fun _ _ _ h => h
        case hy10 => exact Or.inl ⟨by kernel_rfl, fun w hSw => by go_simp⟩
        try simp only [Act.put, List.setIfInBounds_toArray, List.set_cons_zero, List.set_cons_succ]
        refine wpAnyH_take (i := 11) (oi := ?oi11) (v := .agg (bls Ri).toArray) ?hi11 (by kernel_rfl) (by kernel_rfl) (by kernel_rfl) ?hq11 ?hy11 hHeld ?hr11
        case hi11 =>
          simp only [List.getElem?_toArray, List.getElem?_cons_succ, List.getElem?_cons_zero]
          rfl
        case hq11 => exact fun _ _ _ h => h
        case hy11 => exact yieldsIf_load_mid (by kernel_rfl) 40 (.tmp 33) rfl G (i * 12) rfl (bls Ri) _ (fun w h => h.2) setUnd rfl zi
        try simp only [Act.put, List.setIfInBounds_toArray, List.set_cons_zero, List.set_cons_succ]
        refine wpAnyH_ready (rs := [8]) (by kernel_rfl) (by simp) ?_
        refine AllReadyH.cons (o := ?oo8) ?ho8 (fun K hK => ?_) AllReadyH.nil
        case ho8 =>
          simp only [List.getElem?_toArray, List.getElem?_cons_succ, List.getElem?_cons_zero]
          rfl
        go_simp
        go_at_call 19
        refine (hwi _).mono ?_
        rintro e w6 ⟨rfl, b6⟩
        have M6 : Below wa.heap.size wa w6 := below_via (by go_grown) b6
        have T6 := hT.below M6
        go_wp2_with fail
        refine hK.out _ _ ⟨rngd w6 T6, rngi w6 T6⟩ (fun hHeld => ?_)
        clear hK K
        try simp only [Act.put, List.setIfInBounds_toArray, List.set_cons_zero, List.set_cons_succ]
        refine wpAnyH_take (i := 12) (oi := ?oi12) (v := .bool (decide (F = Ri))) ?hi12 (by kernel_rfl) (by kernel_rfl) (by kernel_rfl) ?hq12 ?hy12 hHeld ?hr12
        case hi12 =>
          simp only [List.getElem?_toArray, List.getElem?_cons_succ, List.getElem?_cons_zero]
          rfl
        case hq12 => exact fun _ _ _ h => h
        case hy12 => exact Or.inl ⟨by kernel_rfl, fun w hSw => by go_simp⟩
        try simp only [Act.put, List.setIfInBounds_toArray, List.set_cons_zero, List.set_cons_succ]
        refine wpAnyH_take (i := 13) (oi := ?oi13) (v := .bool (decide (F = Ri))) ?hi13 (by kernel_rfl) (by kernel_rfl) (by kernel_rfl) ?hq13 ?hy13 hHeld ?hr13
        case hi13 =>
          simp only [List.getElem?_toArray, List.getElem?_cons_succ, List.getElem?_cons_zero]
          rfl
        case hq13 => exact fun _ _ _ h => h
        case hy13 => exact Or.inl ⟨by kernel_rfl, fun w hSw => by cases decide (F = Ri) <;> go_simp⟩
        try simp only [Act.put, List.setIfInBounds_toArray, List.set_cons_zero, List.set_cons_succ]
        refine wpAnyH_done (by kernel_rfl) ?_ _
        have HO6 : Hid (w6.ownsRow (G + 1) 2 1 u A.length (ints A)) := own_kept HO.out M6
        have HT6 : Hid (TabAt w6 G gs) := T6
        have HL6 := hL.trans (M6.mono hL.size)
        clear heq hHeld hwi T6 M6 b6 r2 r4 hT
        by_cases hFR : F = Ri
        · rw [decide_eq_true hFR]
          have HF : Hid (gateAns ss i = d) := by
            show gateAns ss i = d
            rw [HANS.out, find_take _ _ k hlt HNO.out (by rw [HD.out]; exact HGG.out.1 hFR), HD.out]; rfl
          clear hFR
          go_wp2
          go_ret
          exact ⟨ret_int HF.out.symm, HL6⟩
        · rw [decide_eq_false hFR]
          have HBAD : Hid (goodGate ss i d = false) := by
            show goodGate ss i d = false
            cases h : goodGate ss i d
            · rfl
            · exact absurd (HGG.out.2 h) hFR
          clear hFR
          go_wp2
          go_roundw
          case rel =>
            refine ⟨k + 1, by omega, by go_num, fun x hx => ?_, HO6.out, HT6.out, HL6⟩
            rw [htk.out] at hx
            rcases List.mem_append.1 hx with h | h
            · exact HNO.out x h
            · simp at h; rw [h]; exact HBAD.out
          case measure => simp [intOf]; omega
    · have hkk : k = A.length := by omega
      subst hkk
      rw [List.take_length] at HNO
      have HF : Hid (gateAns ss i = -1) := by
        show gateAns ss i = -1
        rw [HANS.out, find_none _ _ HNO.out]; rfl
      go_wp2
      go_ret
      exact ⟨ret_int HF.out.symm, hL⟩

end Go.Proofs.Ytjlfmjoallnojac
