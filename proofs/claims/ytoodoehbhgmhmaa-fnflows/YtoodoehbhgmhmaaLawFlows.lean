/-
  The law FnFlows: what a statement does goes fact by fact, leaves fact 0 and all variables but its own, and is what the chapter tells of that one.
-/
import Derived.Test.YtoodoehbhgmhmaaFlowsMath
import Derived.Test.YtoodoehbhgmhmaaDrawFlow
import Derived.Test.YtoodoehbhgmhmaaDrawRel
import Derived.Test.YtoodoehbhgmhmaaOpenCode
namespace Go.Proofs.Ytoodoehbhgmhmaa
open Go.ChangeShapes Go.WideShapes Go.ChangeAt Go.RowKit
set_option linter.unusedVariables false
set_option linter.unusedSimpArgs false
set_option maxHeartbeats 8000000
set_option maxRecDepth 20000

theorem stmtOk_y12 {k x y : Int} (h : stmtOk k x y = true) : ∃ j : Nat, y = j ∧ j < 12 := by
  have h1 : inB y 0 11 = true := by
    rcases kinds k with rfl | rfl | rfl | rfl | rfl | rfl | rfl | rfl | rfl | ⟨h1, h2, h3, h4, h5, h6, h7, h8, h9⟩
    all_goals simp [stmtOk, *] at h
    all_goals simp [inB] at h ⊢
    all_goals omega
  obtain ⟨i, rfl, hi⟩ := inB_nat h1
  exact ⟨i, rfl, by omega⟩

theorem flow_others (c k : Int) (x y : Nat) (hx : x < 6) (hs : stmtOk k x y = true) (s : Int) (hsm : Small s) : ∀ i : Nat, i < 6 → ¬ i = x → bit (img (flowL c k x y) s) (i + 1) = bit s (i + 1) := by
  intro i hi hn
  have hm : ∀ m, bit (img (mkL unitL (factN x) m) s) (i + 1) = bit s (i + 1) := fun m => img_other x hx m s (i + 1) (by omega) (by omega)
  unfold flowL
  split
  · exact hm _
  split
  · exact hm _
  split
  · exact hm _
  split
  · exact hm _
  rw [img_unit hsm]

theorem flow_own (c k : Int) (x y : Nat) (hc : c = 1 ∨ c = 2) (hs : stmtOk k x y = true) (s : Int) (hsm : Small s) (h0 : bit s 0 = true) :
    bit (img (flowL c k x y) s) 0 = true ∧ (k = 2 → bit (img (flowL c k x y) s) (x + 1) = bit s (y + 1)) ∧ (k = 3 → bit (img (flowL c k x y) s) (x + 1) = (bit s (x + 1) || bit s (y + 1))) ∧
    (k = 4 → bit (img (flowL c k x y) s) (x + 1) = false) ∧ (k = 5 → bit (img (flowL c k x y) s) (x + 1) = decide (c = 1)) ∧ (k ≠ 2 → k ≠ 3 → k ≠ 4 → k ≠ 5 → img (flowL c k x y) s = s) := by
  obtain ⟨x', hxx, hx⟩ := stmtOk_x6 hs
  obtain rfl : x = x' := by omega
  have hm : ∀ m, bit (img (mkL unitL (factN x) m) s) 0 = true := fun m => (img_other x hx m s 0 (by omega) (by omega)).trans h0
  refine ⟨?_, ?_, ?_, ?_, ?_, ?_⟩
  · unfold flowL
    split
    · exact hm _
    split
    · exact hm _
    split
    · exact hm _
    split
    · exact hm _
    rw [img_unit hsm]
    exact h0
  · rintro rfl
    obtain ⟨_, j, _, hj, _, hy⟩ := stmtOk_xy hs (.inl rfl)
    exact own_copy x y hx (by omega) s
  · rintro rfl
    obtain ⟨_, j, _, hj, _, hy⟩ := stmtOk_xy hs (.inr rfl)
    exact own_both x y hx (by omega) s
  · rintro rfl
    exact own_clear x hx s
  · rintro rfl
    rcases hc with rfl | rfl
    · exact own_mark x hx s h0
    · exact own_clear x hx s
  · intro h2 h3 h4 h5
    rw [show flowL c k x y = unitL from by simp [flowL, h2, h3, h4, h5], img_unit hsm]

theorem walkFlows (bs : List Int) (v : Value) (w : World) (hl : bs.length ≤ maxLen) (hb : ∀ x ∈ bs, 0 ≤ x ∧ x ≤ 255) (hv : Reads w v (bs.map (Value.int .u8))) :
    Calls Try.prog 3 #[v] w fun e w' => e = .returned (.bool true) ∧ Below w.heap.size w w' := by
  by_cases hbig : (4096 : Int) < (bs.length : Int)
  · go_enter Try.func3, Try.ntmps3
    go_wp2_with (go_at_call 4; refine (lawBig bs v w hl hv).mono ?_; rintro e w1 ⟨rfl, rfl⟩; simp only [decide_eq_true hbig])
    go_ret
    exact ⟨rfl, Below.refl _ _⟩
  have hl' : bs.length ≤ 1048576 := by omega
  go_enter Try.func3, Try.ntmps3
  go_wp2_with fail
  go_at_call 4
  refine (lawBig bs v w hl hv).mono ?_
  rintro e w1 ⟨rfl, rfl⟩
  simp only [decide_eq_false (show ¬ (4096 : Int) < (bs.length : Int) by omega)]
  go_wp2_with fail
  go_at_call 5
  refine (drawFlow bs v w hl' hv).mono ?_
  rintro e w1 ⟨c, k, x, y, rfl, b1⟩
  go_wp2_with fail
  go_at_call 6
  refine (implFlow c k x y _).mono ?_
  rintro e w2 ⟨f, rfl, of, b2⟩
  obtain ⟨L2, q2⟩ := flow_pre b2
  have L2 := b1.trans (L2.mono b1.size)
  have hsf := fun W => specFlow c k x y W
  have hA7 : (flowAns c k x y).length ≤ 7 := by
    unfold flowAns
    split
    · rw [flowL_length]; omega
    · simp
  generalize hA : flowAns c k x y = A at *
  have hA' : A.length ≤ maxLen := by unfold maxLen; omega
  have rf := reads_own of
  clear of b2
  go_wp2_with fail
  go_at_call 7
  refine (drawEnter bs v w2 hl' (reads_below hv L2)).mono ?_
  rintro e w3 ⟨n, rfl, b3⟩
  have L3 := L2.trans (b3.mono L2.size)
  have rf := reads_below rf b3
  have q3 := (b3.block _ (Array.getElem?_eq_some_iff.1 q2).1).trans q2
  obtain ⟨g0, g1, g2⟩ := stmt_cells q3
  clear q2 b3
  go_wp2_with fail
  go_at_call 9
  refine (hsf w3).mono ?_
  rintro e w4 ⟨sf, rfl, osf, b4⟩
  have L4 := L3.trans (b4.mono L3.size)
  have rf := reads_below rf b4
  have q4 := (b4.block _ (Array.getElem?_eq_some_iff.1 q3).1).trans q3
  clear q3
  go_wp2_with fail
  go_at_call 8
  refine (lawLike A A _ _ w4 hA' hA' rf (reads_own osf)).mono ?_
  rintro e w5 ⟨rfl, b5⟩
  have L5 := L4.trans (b5.mono L4.size)
  have rf := reads_below rf b5
  have q5 := (b5.block _ (Array.getElem?_eq_some_iff.1 q4).1).trans q4
  clear q4
  simp only [decide_true]
  clear hsf osf
  have hE7 : (enterAns n).length ≤ maxLen := by
    unfold enterAns maxLen
    split
    · simp [leaveL]
    split <;> simp
  have hei := fun W => implEnter n W
  have hes := fun W => specEnter n W
  generalize enterAns n = En at *
  go_wp2_with fail
  go_at_call 10
  refine (hei w5).mono ?_
  rintro e w6 ⟨ie, rfl, oie, b6⟩
  have L6 := L5.trans (b6.mono L5.size)
  have rf := reads_below rf b6
  have q6 := (b6.block _ (Array.getElem?_eq_some_iff.1 q5).1).trans q5
  clear q5
  go_wp2_with fail
  go_at_call 11
  refine (hes w6).mono ?_
  rintro e w7 ⟨se, rfl, ose, b7⟩
  have L7 := L6.trans (b7.mono L6.size)
  have rf := reads_below rf b7
  have q7 := (b7.block _ (Array.getElem?_eq_some_iff.1 q6).1).trans q6
  clear q6
  have oie := own_kept oie b7
  go_wp2_with fail
  go_at_call 8
  refine (lawLike En En _ _ w7 hE7 hE7 (reads_own oie) (reads_own ose)).mono ?_
  rintro e w8 ⟨rfl, b8⟩
  have L8 := L7.trans (b8.mono L7.size)
  have rf := reads_below rf b8
  have q8 := (b8.block _ (Array.getElem?_eq_some_iff.1 q7).1).trans q7
  clear q7
  simp only [decide_true]
  clear hei hes oie ose
  have hsi := fun W => implStart n W
  have hss := fun W => specStart n W
  generalize startAns n = Sn at *
  go_wp2_with fail
  go_at_call 12
  refine (hsi w8).mono ?_
  rintro e w9 ⟨rfl, b9⟩
  have L9 := L8.trans (b9.mono L8.size)
  have rf := reads_below rf b9
  have q9 := (b9.block _ (Array.getElem?_eq_some_iff.1 q8).1).trans q8
  clear q8
  go_wp2_with fail
  go_at_call 13
  refine (hss w9).mono ?_
  rintro e w10 ⟨rfl, b10⟩
  have L10 := L9.trans (b10.mono L9.size)
  have rf := reads_below rf b10
  have q10 := (b10.block _ (Array.getElem?_eq_some_iff.1 q9).1).trans q9
  clear q9
  clear hsi hss
  have hileaveL := fun W => implLeave W
  have hsleaveL := fun W => specLeave W
  have h7leaveL : (leaveL).length ≤ maxLen := by simp [leaveL, maxLen]
  generalize leaveL = LeaveN at *
  go_wp2_with fail
  go_at_call 14
  refine (hileaveL w10).mono ?_
  rintro e w11 ⟨ie, rfl, oie, b11⟩
  have L11 := L10.trans (b11.mono L10.size)
  have rf := reads_below rf b11
  have q11 := (b11.block _ (Array.getElem?_eq_some_iff.1 q10).1).trans q10
  clear q10
  go_wp2_with fail
  go_at_call 15
  refine (hsleaveL w11).mono ?_
  rintro e w12 ⟨se, rfl, ose, b12⟩
  have L12 := L11.trans (b12.mono L11.size)
  have rf := reads_below rf b12
  have q12 := (b12.block _ (Array.getElem?_eq_some_iff.1 q11).1).trans q11
  clear q11
  have oie := own_kept oie b12
  go_wp2_with fail
  go_at_call 8
  refine (lawLike LeaveN LeaveN _ _ w12 h7leaveL h7leaveL (reads_own oie) (reads_own ose)).mono ?_
  rintro e w13 ⟨rfl, b13⟩
  have L13 := L12.trans (b13.mono L12.size)
  have rf := reads_below rf b13
  have q13 := (b13.block _ (Array.getElem?_eq_some_iff.1 q12).1).trans q12
  clear q12
  simp only [decide_true]
  clear hileaveL hsleaveL oie ose
  have hikeepL := fun W => implKeep W
  have hskeepL := fun W => specKeep W
  have h7keepL : (keepL).length ≤ maxLen := by simp [keepL, maxLen]
  generalize keepL = KeepN at *
  go_wp2_with fail
  go_at_call 16
  refine (hikeepL w13).mono ?_
  rintro e w14 ⟨ie, rfl, oie, b14⟩
  have L14 := L13.trans (b14.mono L13.size)
  have rf := reads_below rf b14
  have q14 := (b14.block _ (Array.getElem?_eq_some_iff.1 q13).1).trans q13
  clear q13
  go_wp2_with fail
  go_at_call 17
  refine (hskeepL w14).mono ?_
  rintro e w15 ⟨se, rfl, ose, b15⟩
  have L15 := L14.trans (b15.mono L14.size)
  have rf := reads_below rf b15
  have q15 := (b15.block _ (Array.getElem?_eq_some_iff.1 q14).1).trans q14
  clear q14
  have oie := own_kept oie b15
  go_wp2_with fail
  go_at_call 8
  refine (lawLike KeepN KeepN _ _ w15 h7keepL h7keepL (reads_own oie) (reads_own ose)).mono ?_
  rintro e w16 ⟨rfl, b16⟩
  have L16 := L15.trans (b16.mono L15.size)
  have rf := reads_below rf b16
  have q16 := (b16.block _ (Array.getElem?_eq_some_iff.1 q15).1).trans q15
  clear q15
  simp only [decide_true]
  clear hikeepL hskeepL oie ose
  clear b4 L4 b5 L5 b6 L6 b7 L7 b8 L8 b9 L9 b10 L10 b11 L11 b12 L12 b13 L13 b14 L14 b15 L15 b16 L3
  obtain ⟨fo, fc, rfl, _⟩ := id rf
  rw [ints_length] at *
  clear g0 g1 g2
  obtain ⟨g0, g1, g2⟩ := stmt_cells q16
  have HQ : Hid _ := q16
  clear q16
  by_cases hR : (c = 1 ∨ c = 2) ∧ stmtOk k x y = true
  · obtain ⟨hc, hs⟩ := hR
    have hAf : A = flowL c k x y := by rw [← hA]; simp [flowAns, hc, hs]
    have h7 : A.length = 7 := by rw [hAf]; exact flowL_length _ _ _ _
    have hsA : Smalls A := by rw [hAf]; exact flowL_smalls hs
    have hokA : relOk A = true := relOk_iff.2 hsA
    obtain ⟨xn, hxn, hx6⟩ := stmtOk_x6 hs
    obtain ⟨yn, hyn, hy12⟩ := stmtOk_y12 hs
    subst hxn hyn
    rw [h7]
    go_wp2_with fail
    go_at_call 19
    refine (lawPick bs v 1 64 w16 hl' hb (reads_below hv L16) (by omega) (by omega) (by omega)).mono ?_
    rintro e w17 ⟨t, rfl, ht0, ht1, b17⟩
    have L17 := L16.trans (b17.mono L16.size)
    have rf := reads_below rf b17
    have q17 := (b17.block _ (Array.getElem?_eq_some_iff.1 HQ.out).1).trans HQ.out
    rw [h7] at rf
    clear g0 g1 g2 HQ b17
    have hts : Small (t * 2 + 1) := ⟨by omega, by omega⟩
    have hb0 : bit (t * 2 + 1) 0 = true := by
      have h1 := bit_tmod 0 hts
      have h2 : ((t * 2 + 1) / 2 ^ 0).tmod 2 = 1 := by
        rw [Int.pow_zero, Int.ediv_one, Int.tmod_eq_emod_of_nonneg (by omega)]
        omega
      rw [h2] at h1
      cases h : bit (t * 2 + 1) 0
      · rw [h] at h1; simp at h1
      · rfl
    have him : imageAns A (t * 2 + 1) = img A (t * 2 + 1) := by simp [imageAns, hokA, small_in.2 hts]
    have hii := fun W hW => implImage A (t * 2 + 1) (.slice fo 7 fc) W hA' hW
    rw [him] at hii
    have hos := img_small hsA (t * 2 + 1)
    obtain ⟨o, ho⟩ : ∃ o, img A (t * 2 + 1) = o := ⟨_, rfl⟩
    rw [ho] at hii hos
    obtain ⟨sg, hsg⟩ : ∃ sg, t * 2 + 1 = sg := ⟨_, rfl⟩
    rw [hsg] at hii hts hb0
    have hwr1 : IntKind.i64.wrap (t * 2) = t * 2 := IntWalk.i64_in _ (by omega)
    have hwr2 : IntKind.i64.wrap (t * 2 + 1) = t * 2 + 1 := IntWalk.i64_in _ (by omega)
    have hFO := flow_others c k xn yn hx6 hs sg hts
    have hFK := flow_own c k xn yn hc hs sg hts hb0
    have hsg' : sg = t * 2 + 1 := hsg.symm
    rw [hsg] at ho
    rw [← hAf, ho] at hFO hFK
    have HFO : Hid _ := hFO
    have HFK : Hid _ := hFK
    clear hFO hFK hAf hokA hsA hA7 hA hsg' hb0 him ho
    go_wp2_with fail
    go_at_call 20
    refine (hii w17 rf).mono ?_
    rintro e w18 ⟨rfl, b18⟩
    have L18 := L17.trans (b18.mono L17.size)
    have q18 := (b18.block _ (Array.getElem?_eq_some_iff.1 q17).1).trans q17
    obtain ⟨g0, g1, g2⟩ := stmt_cells q18
    clear hii rf q17 q18 b18 L16 L17
    go_wp2_with fail
    have hlt0 : w1.heap.size < w18.heap.size := World.block_lt_of_cell? w18 _ g0
    go_loopw [9] (fun i wr => ∃ j : Nat, j ≤ 6 ∧ i = .int .i64 j ∧ Below w18.heap.size w18 wr) (fun i _ => 6 - (intOf i).toNat)
    case atStart => exact ⟨0, by omega, rfl, Below.refl _ _⟩
    case round =>
      obtain ⟨j, hj, rfl, hbr⟩ := hrel
      have k0 := (hbr.cell (p := ⟨w1.heap.size, 0, none⟩) hlt0).trans g0
      have k1 := (hbr.cell (p := ⟨w1.heap.size, 1, none⟩) hlt0).trans g1
      have k2 := (hbr.cell (p := ⟨w1.heap.size, 2, none⟩) hlt0).trans g2
      clear g0 g1 g2
      by_cases hlt : j < 6
      · have hlt' : (j : Int) < 6 := by omega
        have hj1 : IntKind.i64.wrap ((j : Int) + 1) = (j : Int) + 1 := IntWalk.i64_in _ (by omega)
        by_cases hjx : (j : Int) = (xn : Int)
        · have hd : decide ((j : Int) = (xn : Int)) = true := decide_eq_true hjx
          go_wp2
          go_roundw
          case rel => exact ⟨j + 1, by omega, by go_num, hbr⟩
          case measure => simp [intOf]; omega
        · have hd : decide ((j : Int) = (xn : Int)) = false := decide_eq_false hjx
          have ee : (o / 2 ^ (j + 1)).tmod 2 = (sg / 2 ^ (j + 1)).tmod 2 := by
            rw [bit_tmod (j + 1) hos, bit_tmod (j + 1) hts, HFO.out j hlt (fun e => hjx (by omega))]
          go_wp2
          go_roundw
          case rel => exact ⟨j + 1, by omega, by go_num, hbr⟩
          case measure => simp [intOf]; omega
      · have hj6 : j = 6 := by omega
        subst hj6
        obtain ⟨z0, z2, z3, z4, z5, z6⟩ := HFK.out
        have e0 : o.tmod 2 = 1 := by
          have h := bit_tmod 0 hos
          rw [z0, Int.pow_zero, Int.ediv_one] at h
          simpa using h
        have eX := bit_tmod (xn + 1) hts
        have eY := bit_tmod (yn + 1) hts
        have eO := bit_tmod (xn + 1) hos
        have LE := L18.trans (hbr.mono L18.size)
        clear HFO HFK z0
        by_cases h2 : k = 2
        · rw [z2 h2] at eO
          subst h2
          clear z2 z3 z4 z5 z6
          cases hbx : bit sg (xn + 1) <;> cases hby : bit sg (yn + 1)
          all_goals
            rw [hbx] at eX
            rw [hby] at eY eO
            simp only [Bool.false_eq_true, if_true, if_false] at eX eY eO
            go_wp2
            go_ret
            exact ⟨rfl, LE⟩
        by_cases h3 : k = 3
        · rw [z3 h3] at eO
          subst h3
          clear z2 z3 z4 z5 z6
          cases hbx : bit sg (xn + 1) <;> cases hby : bit sg (yn + 1)
          all_goals
            rw [hbx] at eX eO
            rw [hby] at eY eO
            simp only [Bool.false_eq_true, Bool.or_true, Bool.true_or, Bool.or_false, if_true, if_false] at eX eY eO
            go_wp2
            go_ret
            exact ⟨rfl, LE⟩
        by_cases h4 : k = 4
        · rw [z4 h4] at eO
          subst h4
          clear z2 z3 z4 z5 z6 eX eY
          simp only [Bool.false_eq_true, if_false] at eO
          go_wp2
          go_ret
          exact ⟨rfl, LE⟩
        by_cases h5 : k = 5
        · rw [z5 h5] at eO
          subst h5
          clear z2 z3 z4 z5 z6 eX eY
          rcases hc with rfl | rfl
          all_goals
            simp only [Int.reduceEq, decide_true, decide_false, Bool.false_eq_true, if_true, if_false] at eO
            go_wp2
            go_ret
            exact ⟨rfl, LE⟩
        have hos2 : o = sg := z6 h2 h3 h4 h5
        clear z2 z3 z4 z5 z6 eX eY eO e0
        subst hos2
        go_wp2
        go_ret
        exact ⟨rfl, LE⟩
  · have hA0 : A = [] := by rw [← hA]; simp [flowAns, hR]
    subst hA0
    simp only [List.length_nil]
    have hso := fun W => specStmtOk k x y W
    cases hs : stmtOk k x y
    · rw [hs] at hso
      go_wp2_with fail
      go_at_call 18
      refine (hso _).mono ?_
      rintro e w17 ⟨rfl, b17⟩
      clear hso hR hA HQ
      go_wp2
      go_ret
      exact ⟨rfl, L16.trans (b17.mono L16.size)⟩
    · have hc : ¬ (c = 1 ∨ c = 2) := fun h => hR ⟨h, hs⟩
      rw [hs] at hso
      clear hR hA HQ
      by_cases hc1 : c < 1
      · go_wp2_with fail
        go_at_call 18
        refine (hso _).mono ?_
        rintro e w17 ⟨rfl, b17⟩
        clear hso hc
        go_wp2
        go_ret
        exact ⟨rfl, L16.trans (b17.mono L16.size)⟩
      · have hc2 : 2 < c := by omega
        go_wp2_with fail
        go_at_call 18
        refine (hso _).mono ?_
        rintro e w17 ⟨rfl, b17⟩
        clear hso hc
        go_wp2
        go_ret
        exact ⟨rfl, L16.trans (b17.mono L16.size)⟩

set_option maxRecDepth 100000 in
theorem liftedFnFlows (os : Os) (started : os.Started) (H : Type) (enc : TypeId × Value → H) :
    ReturnsInHanded {} Try.checked os 3 .any (Rows.fnFlowsSpec.pre6 enc Try.prog Try.f3 Rows.fnFlowsRow.domain false) (Rows.fnFlowsSpec.post enc Try.prog Try.f3 false true false false) := by
  refine returnsInHanded_of_change (C := Try.checked) own started (by kernel_rfl) Try.func3
    (ChangeSpec.witness6 (enc := enc) (C := Try.checked) false ⟨#[], #[.slice none 0 0], []⟩ 8 (by kernel_rfl) (by kernel_rfl) (by kernel_rfl) (by kernel_rfl)) ?_
  intro W base args ds gs before hval0 hW hcnd _
  have hval : ∀ (j : Nat) t v, Try.f3.params[j]? = some t → args[j]? = some v → Value.okWide Try.prog W .any base t v := hval0
  have hW' := hW
  obtain ⟨p, q, hA0, hV, rfl, hfz, hnd⟩ := hW
  have hA : DataW.TrodAll enc Try.prog W 0 (fun _ => true) true Try.f3.params.toList args.toList ds p := hA0
  rw [Try.params3] at hA hval
  obtain ⟨v0, vs0, d0, ds0, p0, q0, hargs, rfl, rfl, h0, r0⟩ := trodAll_cons hA
  obtain ⟨rfl, rfl, rfl⟩ := trodAll_nil r0
  obtain rfl : args = #[v0] := by cases args; simp_all
  obtain ⟨rfl, rfl⟩ := trodVars_none hV
  obtain ⟨bs, hr, hl, hs⟩ := open_code Try.underlying22 Try.underlying5 cellsByte (hval 0 22 v0 rfl rfl) h0
  refine (walkFlows bs v0 W hl hs hr).mono fun e W' ⟨he, hb⟩ => ?_
  subst he
  refine ⟨_, rfl, law_post (tb := 4) laidOut ?_ hW' rfl Try.underlying4 rfl rfl hb⟩
  exact all_readable (P := Try.prog) (by kernel_rfl)

theorem overFnFlows : Rows.fnFlowsRow.holds Try.pinned (OpenSpec.ofChange Rows.fnFlowsSpec) :=
  OpenClaim.holds_of_wide 3 Try.f3 rfl rfl rfl rfl rfl rfl rfl ⟨rfl, rfl, rfl, rfl, rfl⟩ rfl rfl rfl rfl rfl (by kernel_rfl) Try.func3 (by kernel_rfl)
    (of_decide_eq_true (by kernel_rfl)) (by unfold Func.isWrapper; first | (rw [if_pos (by decide +kernel)]; kernel_rfl) | (rw [if_neg (by decide +kernel)]; exact ⟨rfl, rfl⟩))
    (fun os started H enc _ => liftedFnFlows os started H enc)

/-- ████ THE STATEMENT ████ -/
theorem flowsHold : Rows.FnFlowsSaid :=
  overFnFlows
#print axioms flowsHold

end Go.Proofs.Ytoodoehbhgmhmaa
