/-
  The law FnKildall.
-/
import Derived.Test.YtebadimjpbhagaaG29KildM
import Derived.Test.YtebadimjpbhagaaDrawAlong
import Derived.Test.YtebadimjpbhagaaImplSolved
import Derived.Test.YtebadimjpbhagaaSpecSolved
import Derived.Test.YtebadimjpbhagaaG49ImplAlong
import Derived.Test.YtebadimjpbhagaaSpecAlong
import Derived.Test.YtebadimjpbhagaaImplCovers
import Derived.Test.YtebadimjpbhagaaSpecWays
import Derived.Test.YtebadimjpbhagaaIntLaws
import Derived.Test.YtebadimjpbhagaaG51OpenCode
import Derived.Test.YtebadimjpbhagaaG52FnKit
namespace Go.Proofs.Ytebadimjpbhagaa
open Go.ChangeShapes Go.WideShapes Go.ChangeAt Go.RowKit
set_option linter.unusedVariables false
set_option linter.unusedSimpArgs false
set_option maxHeartbeats 8000000
set_option maxRecDepth 20000
theorem own_capK {w : World} {base : Nat} {e : TypeId} {s : Nat} {u : Value} {n : Nat} {xs : List Value} (h : w.ownsRow base e s u n xs) : ∀ a m c, u = .slice a m c → m ≤ c := by
  intro a m c hu
  subst hu
  rcases h.2 with ⟨e0, _⟩ | ⟨g, cap, cur, e0, _, _, h3, _⟩
  · injection e0 with _ e1 e2
    omega
  · injection e0 with _ e1 e2
    subst e1
    subst e2
    exact h3

theorem walkFnKildall (bs : List Int) (v : Value) (w : World) (hl : bs.length ≤ maxLen) (hv : Reads w v (bs.map (Value.int .u8))) :
    Calls Try.prog 3 #[v] w fun e w' => e = .returned (.bool true) ∧ Below w.heap.size w w' := by
  have hbig := lawBig bs v w hl hv
  by_cases hb : (4096 : Int) < (bs.length : Int)
  · rw [decide_eq_true hb] at hbig
    go_enter Try.func3, Try.ntmps3
    go_wp2_with (go_at_call 5; refine hbig.mono ?_; rintro e w1 ⟨rfl, rfl⟩)
    go_ret
    exact ⟨rfl, Below.refl _ _⟩
  rw [decide_eq_false hb] at hbig
  go_enter Try.func3, Try.ntmps3
  go_wp2_with fail
  go_at_call 5
  refine hbig.mono ?_
  rintro e w1 ⟨rfl, rfl⟩
  clear hbig
  go_wp2_with fail
  go_at_call 6
  refine (drawSolved bs v w (by omega) hv).mono ?_
  rintro r w1 ⟨up, ss, c, s, rfl, hss1, hss7, op1, b1⟩
  have rp := reads3_own op1
  obtain ⟨pa, pc, rfl⟩ := reads3_form rp
  have hsm : ss.length ≤ maxLen := by unfold maxLen; omega
  obtain ⟨A, hA⟩ := solvedAns_some c ss s
  have HA : Hid (SolvedAns c ss s A) := hA
  have hAl := solvedAns_length hA
  have hAm : A.length ≤ maxLen := by unfold maxLen; omega
  clear hA
  have RV : Hid (Reads w1 v (bs.map (Value.int .u8))) := reads_below hv b1
  have LW : Hid (Below w.heap.size w w1) := b1
  have RP : Hid (Reads3 w1 (.slice pa ss.length pc) ss) := rp
  clear op1 rp b1
  obtain ⟨w2, hAw2⟩ : ∃ W, w1.alloc (.cells #[.slice pa ss.length pc] 26) = W := ⟨_, rfl⟩
  have bb : Below w1.heap.size w1 w2 := by rw [← hAw2]; go_grown
  obtain ⟨bP, hBw2⟩ : ∃ n, w1.heap.size = n := ⟨_, rfl⟩
  have Pn : Hid (w2.heap[bP]? = some (.cells #[.slice pa ss.length pc] 26 (0, 0))) := by
    show w2.heap[bP]? = _
    rw [← hAw2, ← hBw2]; exact heap_alloc_new w1 _
  have RVx : Hid (Reads w2 v (bs.map (Value.int .u8))) := reads_below RV.out bb
  have LWx : Hid (Below w.heap.size w w2) := low_step LW.out bb
  have RPx : Hid (Reads3 w2 (.slice pa ss.length pc) ss) := reads3_below RP.out bb
  clear RV LW RP
  have RV : Hid (Reads w2 v (bs.map (Value.int .u8))) := RVx.out
  have LW : Hid (Below w.heap.size w w2) := LWx.out
  have RP : Hid (Reads3 w2 (.slice pa ss.length pc) ss) := RPx.out
  clear RVx LWx RPx
  clear bb
  have P : Hid (w2.heap[bP]? = some (.cells #[.slice pa ss.length pc] 26 (0, 0))) := Pn.out
  clear Pn
  obtain ⟨cP, -⟩ := one_cell P.out
  have hcall := implSolved ss c s A HA.out (.slice pa ss.length pc) w2 hsm RP.out
  go_wp2_with fail
  go_at_call 7
  clear hAw2 hBw2
  refine hcall.mono ?_
  rintro r w3 ⟨lv, rfl, ol, bc⟩
  clear hcall cP
  have RVx : Hid (Reads w3 v (bs.map (Value.int .u8))) := reads_below RV.out bc
  have LWx : Hid (Below w.heap.size w w3) := low_step LW.out bc
  have RPx : Hid (Reads3 w3 (.slice pa ss.length pc) ss) := reads3_below RP.out bc
  have Px : Hid (w3.heap[bP]? = some (.cells #[.slice pa ss.length pc] 26 (0, 0))) := box_step P.out bc
  clear RV LW RP P
  have RV : Hid (Reads w3 v (bs.map (Value.int .u8))) := RVx.out
  have LW : Hid (Below w.heap.size w w3) := LWx.out
  have RP : Hid (Reads3 w3 (.slice pa ss.length pc) ss) := RPx.out
  have P : Hid (w3.heap[bP]? = some (.cells #[.slice pa ss.length pc] 26 (0, 0))) := Px.out
  clear RVx LWx RPx Px
  obtain ⟨la, lc, rfl⟩ := reads_form (reads_own ol)
  have RL : Hid (Reads w3 (.slice la A.length lc) (ints A)) := reads_own ol
  clear ol bc
  have hcall := drawAlong bs v w3 (by omega) RV.out
  go_wp2_with fail
  go_at_call 8
  refine hcall.mono ?_
  rintro r w4 ⟨uq, wa, qs, ys, n, set, rfl, hqs1, hqs7, hy10, oq, ow, bc⟩
  clear hcall
  have RVx : Hid (Reads w4 v (bs.map (Value.int .u8))) := reads_below RV.out bc
  have LWx : Hid (Below w.heap.size w w4) := low_step LW.out bc
  have RPx : Hid (Reads3 w4 (.slice pa ss.length pc) ss) := reads3_below RP.out bc
  have Px : Hid (w4.heap[bP]? = some (.cells #[.slice pa ss.length pc] 26 (0, 0))) := box_step P.out bc
  have RLx : Hid (Reads w4 (.slice la A.length lc) (ints A)) := reads_below RL.out bc
  clear RV LW RP P RL
  have RV : Hid (Reads w4 v (bs.map (Value.int .u8))) := RVx.out
  have LW : Hid (Below w.heap.size w w4) := LWx.out
  have RP : Hid (Reads3 w4 (.slice pa ss.length pc) ss) := RPx.out
  have P : Hid (w4.heap[bP]? = some (.cells #[.slice pa ss.length pc] 26 (0, 0))) := Px.out
  have RL : Hid (Reads w4 (.slice la A.length lc) (ints A)) := RLx.out
  clear RVx LWx RPx Px RLx
  have rq := reads3_own oq
  obtain ⟨qa, qc, rfl⟩ := reads3_form rq
  have hqm : qs.length ≤ maxLen := by unfold maxLen; omega
  have hym : ys.length ≤ maxLen := by unfold maxLen; omega
  have HCW := own_capK ow
  obtain ⟨ya, yc, rfl⟩ := reads_form (reads_own ow)
  obtain ⟨xx, hxx⟩ : ∃ x, alongAns qs n ys set = x := ⟨_, rfl⟩
  have HXX : Hid (alongAns qs n ys set = xx) := hxx
  clear RV
  have RQ : Hid (Reads3 w4 (.slice qa qs.length qc) qs) := rq
  have RY : Hid (Reads w4 (.slice ya ys.length yc) (ints ys)) := reads_own ow
  clear oq ow rq bc
  obtain ⟨w5, hAw5⟩ : ∃ W, w4.alloc (.cells #[.slice qa qs.length qc] 26) = W := ⟨_, rfl⟩
  have bb : Below w4.heap.size w4 w5 := by rw [← hAw5]; go_grown
  obtain ⟨bQ, hBw5⟩ : ∃ n, w4.heap.size = n := ⟨_, rfl⟩
  have Qn : Hid (w5.heap[bQ]? = some (.cells #[.slice qa qs.length qc] 26 (0, 0))) := by
    show w5.heap[bQ]? = _
    rw [← hAw5, ← hBw5]; exact heap_alloc_new w4 _
  have LWx : Hid (Below w.heap.size w w5) := low_step LW.out bb
  have RPx : Hid (Reads3 w5 (.slice pa ss.length pc) ss) := reads3_below RP.out bb
  have Px : Hid (w5.heap[bP]? = some (.cells #[.slice pa ss.length pc] 26 (0, 0))) := box_step P.out bb
  have RLx : Hid (Reads w5 (.slice la A.length lc) (ints A)) := reads_below RL.out bb
  have RQx : Hid (Reads3 w5 (.slice qa qs.length qc) qs) := reads3_below RQ.out bb
  have RYx : Hid (Reads w5 (.slice ya ys.length yc) (ints ys)) := reads_below RY.out bb
  clear LW RP P RL RQ RY
  have LW : Hid (Below w.heap.size w w5) := LWx.out
  have RP : Hid (Reads3 w5 (.slice pa ss.length pc) ss) := RPx.out
  have P : Hid (w5.heap[bP]? = some (.cells #[.slice pa ss.length pc] 26 (0, 0))) := Px.out
  have RL : Hid (Reads w5 (.slice la A.length lc) (ints A)) := RLx.out
  have RQ : Hid (Reads3 w5 (.slice qa qs.length qc) qs) := RQx.out
  have RY : Hid (Reads w5 (.slice ya ys.length yc) (ints ys)) := RYx.out
  clear LWx RPx Px RLx RQx RYx
  clear bb
  have Q : Hid (w5.heap[bQ]? = some (.cells #[.slice qa qs.length qc] 26 (0, 0))) := Qn.out
  clear Qn
  have HS : Hid (∀ X, Below w5.heap.size w5 X → X.cell? ⟨bP, 0, none⟩ = some (.slice pa ss.length pc) ∧ X.cell? ⟨bQ, 0, none⟩ = some (.slice qa qs.length qc)) := fun X hX => ⟨(one_cell (box_step P.out hX)).1, (one_cell (box_step Q.out hX)).1⟩
  have hS0 := HS.out w5 (Below.refl _ _)
  have hs1 := fun X (hX : Below w5.heap.size w5 X) => specSolved ss c s A HA.out (.slice pa ss.length pc) X hsm (reads3_below RP.out hX)
  have hs2 := fun X (hX : Below w5.heap.size w5 X) => implAlong qs n set ys (.slice qa qs.length qc) (.slice ya ys.length yc) X hqm hym (reads3_below RQ.out hX) (reads_below RY.out hX) HCW
  have hs3 := fun X (hX : Below w5.heap.size w5 X) => specAlong qs n set ys (.slice qa qs.length qc) (.slice ya ys.length yc) X hqm hym (reads3_below RQ.out hX) (reads_below RY.out hX)
  rw [hxx] at hs2 hs3
  clear hxx
  obtain ⟨c1, c2⟩ := id hS0
  go_wp2_with fail
  clear hAw5 hBw5
  refine wp_region_held_drew (S := fun X => X.cell? ⟨bP, 0, none⟩ = some (.slice pa ss.length pc) ∧ X.cell? ⟨bQ, 0, none⟩ = some (.slice qa qs.length qc)) (by kernel_rfl) hS0 (fun hHeld => ?_)
  refine wpAnyH_take (i := 0) (oi := ?oia0) (v := .slice la A.length lc) ?hia0 (by kernel_rfl) (by kernel_rfl) (by kernel_rfl) ?hqa0 ?hya0 hHeld ?hra0
  case hia0 =>
    simp only [List.getElem?_toArray, List.getElem?_cons_succ, List.getElem?_cons_zero]
    rfl
  case hqa0 => exact fun _ _ _ h => h
  case hya0 => exact Or.inl ⟨by kernel_rfl, fun w hSw => by go_simp⟩
  try simp only [Act.put, List.setIfInBounds_toArray, List.set_cons_zero, List.set_cons_succ]
  refine wpAnyH_take (i := 1) (oi := ?oia1) (v := .agg #[.slice pa ss.length pc]) ?hia1 (by kernel_rfl) (by kernel_rfl) (by kernel_rfl) ?hqa1 ?hya1 hHeld ?hra1
  case hia1 =>
    simp only [List.getElem?_toArray, List.getElem?_cons_succ, List.getElem?_cons_zero]
    rfl
  case hqa1 => exact fun _ _ _ h => h
  case hya1 => exact Or.inl ⟨by kernel_rfl, fun w hSw => by obtain ⟨s0, s1⟩ := hSw; go_simp⟩
  try simp only [Act.put, List.setIfInBounds_toArray, List.set_cons_zero, List.set_cons_succ]
  refine wpAnyH_take (i := 2) (oi := ?oia2) (v := .int .i64 c) ?hia2 (by kernel_rfl) (by kernel_rfl) (by kernel_rfl) ?hqa2 ?hya2 hHeld ?hra2
  case hia2 =>
    simp only [List.getElem?_toArray, List.getElem?_cons_succ, List.getElem?_cons_zero]
    rfl
  case hqa2 => exact fun _ _ _ h => h
  case hya2 => exact Or.inl ⟨by kernel_rfl, fun w hSw => by go_simp⟩
  try simp only [Act.put, List.setIfInBounds_toArray, List.set_cons_zero, List.set_cons_succ]
  refine wpAnyH_take (i := 3) (oi := ?oia3) (v := .int .i64 s) ?hia3 (by kernel_rfl) (by kernel_rfl) (by kernel_rfl) ?hqa3 ?hya3 hHeld ?hra3
  case hia3 =>
    simp only [List.getElem?_toArray, List.getElem?_cons_succ, List.getElem?_cons_zero]
    rfl
  case hqa3 => exact fun _ _ _ h => h
  case hya3 => exact Or.inl ⟨by kernel_rfl, fun w hSw => by go_simp⟩
  try simp only [Act.put, List.setIfInBounds_toArray, List.set_cons_zero, List.set_cons_succ]
  refine wpAnyH_ready (rs := [4]) (by kernel_rfl) (by simp) ?_
  refine (AllReadyH.cons (o := ?ooa4) ?hoa4 (fun K hK => ?hka4) AllReadyH.nil)
  case hoa4 =>
    simp only [List.getElem?_toArray, List.getElem?_cons_succ, List.getElem?_cons_zero]
    rfl
  case hka4 =>
    go_simp
    go_at_call 10
    refine (hs1 w5.drew (Below.drew (Below.refl _ _))).mono ?_
    rintro e x1 ⟨sv, rfl, os1, bq⟩
    have X1 : Hid (Below w5.heap.size w5 x1) := Below.trans (Below.drew (Below.refl _ _)) bq
    have RS : Hid (Reads x1 sv (ints A)) := reads_own os1
    clear bq os1
    try go_wp2_with fail
    refine hK.out _ _ (HS.out _ X1.out) (fun hHeld => ?_)
    clear hK K
    try simp only [Act.put, List.setIfInBounds_toArray, List.set_cons_zero, List.set_cons_succ]
    refine wpAnyH_ready (rs := [5]) (by kernel_rfl) (by simp) ?_
    refine (AllReadyH.cons (o := ?ooa5) ?hoa5 (fun K hK => ?hka5) AllReadyH.nil)
    case hoa5 =>
      simp only [List.getElem?_toArray, List.getElem?_cons_succ, List.getElem?_cons_zero]
      rfl
    case hka5 =>
      go_simp
      go_at_call 9
      refine (likeInts A _ sv x1 hAm (reads_below RL.out X1.out) RS.out).mono ?_
      rintro e x2 ⟨rfl, bq⟩
      have X2 : Hid (Below w5.heap.size w5 x2) := low_step X1.out bq
      clear bq RS
      try go_wp2_with fail
      refine hK.out _ _ (HS.out _ X2.out) (fun hHeld => ?_)
      clear hK K
      try simp only [Act.put, List.setIfInBounds_toArray, List.set_cons_zero, List.set_cons_succ]
      refine wpAnyH_take (i := 6) (oi := ?oia6) (v := .bool false) ?hia6 (by kernel_rfl) (by kernel_rfl) (by kernel_rfl) ?hqa6 ?hya6 hHeld ?hra6
      case hia6 =>
        simp only [List.getElem?_toArray, List.getElem?_cons_succ, List.getElem?_cons_zero]
        rfl
      case hqa6 => exact fun _ _ _ h => h
      case hya6 => exact Or.inl ⟨by kernel_rfl, fun w hSw => by go_simp⟩
      try simp only [Act.put, List.setIfInBounds_toArray, List.set_cons_zero, List.set_cons_succ]
      refine wpAnyH_take (i := 7) (oi := ?oia7) (v := .bool false) ?hia7 (by kernel_rfl) (by kernel_rfl) (by kernel_rfl) ?hqa7 ?hya7 hHeld ?hra7
      case hia7 =>
        simp only [List.getElem?_toArray, List.getElem?_cons_succ, List.getElem?_cons_zero]
        rfl
      case hqa7 => exact fun _ _ _ h => h
      case hya7 => exact Or.inl ⟨by kernel_rfl, fun w hSw => by go_simp⟩
      try simp only [Act.put, List.setIfInBounds_toArray, List.set_cons_zero, List.set_cons_succ]
      refine wpAnyH_take (i := 8) (oi := ?oia8) (v := .agg #[.slice qa qs.length qc]) ?hia8 (by kernel_rfl) (by kernel_rfl) (by kernel_rfl) ?hqa8 ?hya8 hHeld ?hra8
      case hia8 =>
        simp only [List.getElem?_toArray, List.getElem?_cons_succ, List.getElem?_cons_zero]
        rfl
      case hqa8 => exact fun _ _ _ h => h
      case hya8 => exact Or.inl ⟨by kernel_rfl, fun w hSw => by obtain ⟨s0, s1⟩ := hSw; go_simp⟩
      try simp only [Act.put, List.setIfInBounds_toArray, List.set_cons_zero, List.set_cons_succ]
      refine wpAnyH_take (i := 9) (oi := ?oia9) (v := .int .i64 n) ?hia9 (by kernel_rfl) (by kernel_rfl) (by kernel_rfl) ?hqa9 ?hya9 hHeld ?hra9
      case hia9 =>
        simp only [List.getElem?_toArray, List.getElem?_cons_succ, List.getElem?_cons_zero]
        rfl
      case hqa9 => exact fun _ _ _ h => h
      case hya9 => exact Or.inl ⟨by kernel_rfl, fun w hSw => by go_simp⟩
      try simp only [Act.put, List.setIfInBounds_toArray, List.set_cons_zero, List.set_cons_succ]
      refine wpAnyH_take (i := 10) (oi := ?oia10) (v := .slice ya ys.length yc) ?hia10 (by kernel_rfl) (by kernel_rfl) (by kernel_rfl) ?hqa10 ?hya10 hHeld ?hra10
      case hia10 =>
        simp only [List.getElem?_toArray, List.getElem?_cons_succ, List.getElem?_cons_zero]
        rfl
      case hqa10 => exact fun _ _ _ h => h
      case hya10 => exact Or.inl ⟨by kernel_rfl, fun w hSw => by go_simp⟩
      try simp only [Act.put, List.setIfInBounds_toArray, List.set_cons_zero, List.set_cons_succ]
      refine wpAnyH_take (i := 11) (oi := ?oia11) (v := .int .i64 set) ?hia11 (by kernel_rfl) (by kernel_rfl) (by kernel_rfl) ?hqa11 ?hya11 hHeld ?hra11
      case hia11 =>
        simp only [List.getElem?_toArray, List.getElem?_cons_succ, List.getElem?_cons_zero]
        rfl
      case hqa11 => exact fun _ _ _ h => h
      case hya11 => exact Or.inl ⟨by kernel_rfl, fun w hSw => by go_simp⟩
      try simp only [Act.put, List.setIfInBounds_toArray, List.set_cons_zero, List.set_cons_succ]
      refine wpAnyH_take (i := 13) (oi := ?oia13) (v := .agg #[.slice qa qs.length qc]) ?hia13 (by kernel_rfl) (by kernel_rfl) (by kernel_rfl) ?hqa13 ?hya13 hHeld ?hra13
      case hia13 =>
        simp only [List.getElem?_toArray, List.getElem?_cons_succ, List.getElem?_cons_zero]
        rfl
      case hqa13 => exact fun _ _ _ h => h
      case hya13 => exact Or.inl ⟨by kernel_rfl, fun w hSw => by obtain ⟨s0, s1⟩ := hSw; go_simp⟩
      try simp only [Act.put, List.setIfInBounds_toArray, List.set_cons_zero, List.set_cons_succ]
      refine wpAnyH_take (i := 14) (oi := ?oia14) (v := .int .i64 n) ?hia14 (by kernel_rfl) (by kernel_rfl) (by kernel_rfl) ?hqa14 ?hya14 hHeld ?hra14
      case hia14 =>
        simp only [List.getElem?_toArray, List.getElem?_cons_succ, List.getElem?_cons_zero]
        rfl
      case hqa14 => exact fun _ _ _ h => h
      case hya14 => exact Or.inl ⟨by kernel_rfl, fun w hSw => by go_simp⟩
      try simp only [Act.put, List.setIfInBounds_toArray, List.set_cons_zero, List.set_cons_succ]
      refine wpAnyH_take (i := 15) (oi := ?oia15) (v := .slice ya ys.length yc) ?hia15 (by kernel_rfl) (by kernel_rfl) (by kernel_rfl) ?hqa15 ?hya15 hHeld ?hra15
      case hia15 =>
        simp only [List.getElem?_toArray, List.getElem?_cons_succ, List.getElem?_cons_zero]
        rfl
      case hqa15 => exact fun _ _ _ h => h
      case hya15 => exact Or.inl ⟨by kernel_rfl, fun w hSw => by go_simp⟩
      try simp only [Act.put, List.setIfInBounds_toArray, List.set_cons_zero, List.set_cons_succ]
      refine wpAnyH_take (i := 16) (oi := ?oia16) (v := .int .i64 set) ?hia16 (by kernel_rfl) (by kernel_rfl) (by kernel_rfl) ?hqa16 ?hya16 hHeld ?hra16
      case hia16 =>
        simp only [List.getElem?_toArray, List.getElem?_cons_succ, List.getElem?_cons_zero]
        rfl
      case hqa16 => exact fun _ _ _ h => h
      case hya16 => exact Or.inl ⟨by kernel_rfl, fun w hSw => by go_simp⟩
      try simp only [Act.put, List.setIfInBounds_toArray, List.set_cons_zero, List.set_cons_succ]
      refine wpAnyH_ready (rs := [12]) (by kernel_rfl) (by simp) ?_
      refine (AllReadyH.cons (o := ?ooa12) ?hoa12 (fun K hK => ?hka12) AllReadyH.nil)
      case hoa12 =>
        simp only [List.getElem?_toArray, List.getElem?_cons_succ, List.getElem?_cons_zero]
        rfl
      case hka12 =>
        go_simp
        go_at_call 11
        refine (hs2 x2 X2.out).mono ?_
        rintro e x3 ⟨rfl, bq⟩
        have X3 : Hid (Below w5.heap.size w5 x3) := low_step X2.out bq
        clear bq 
        try go_wp2_with fail
        refine hK.out _ _ (HS.out _ X3.out) (fun hHeld => ?_)
        clear hK K
        try simp only [Act.put, List.setIfInBounds_toArray, List.set_cons_zero, List.set_cons_succ]
        refine wpAnyH_ready (rs := [17]) (by kernel_rfl) (by simp) ?_
        refine (AllReadyH.cons (o := ?ooa17) ?hoa17 (fun K hK => ?hka17) AllReadyH.nil)
        case hoa17 =>
          simp only [List.getElem?_toArray, List.getElem?_cons_succ, List.getElem?_cons_zero]
          rfl
        case hka17 =>
          go_simp
          go_at_call 12
          refine (hs3 x3 X3.out).mono ?_
          rintro e x4 ⟨rfl, bq⟩
          have X4 : Hid (Below w5.heap.size w5 x4) := low_step X3.out bq
          clear bq 
          try go_wp2_with fail
          refine hK.out _ _ (HS.out _ X4.out) (fun hHeld => ?_)
          clear hK K
          try simp only [Act.put, List.setIfInBounds_toArray, List.set_cons_zero, List.set_cons_succ]
          refine wpAnyH_take (i := 18) (oi := ?oia18) (v := .bool false) ?hia18 (by kernel_rfl) (by kernel_rfl) (by kernel_rfl) ?hqa18 ?hya18 hHeld ?hra18
          case hia18 =>
            simp only [List.getElem?_toArray, List.getElem?_cons_succ, List.getElem?_cons_zero]
            rfl
          case hqa18 => exact fun _ _ _ h => h
          case hya18 => exact Or.inl ⟨by kernel_rfl, fun w hSw => by go_simp⟩
          try simp only [Act.put, List.setIfInBounds_toArray, List.set_cons_zero, List.set_cons_succ]
          refine wpAnyH_take (i := 19) (oi := ?oia19) (v := .bool false) ?hia19 (by kernel_rfl) (by kernel_rfl) (by kernel_rfl) ?hqa19 ?hya19 hHeld ?hra19
          case hia19 =>
            simp only [List.getElem?_toArray, List.getElem?_cons_succ, List.getElem?_cons_zero]
            rfl
          case hqa19 => exact fun _ _ _ h => h
          case hya19 => exact Or.inl ⟨by kernel_rfl, fun w hSw => by go_simp⟩
          try simp only [Act.put, List.setIfInBounds_toArray, List.set_cons_zero, List.set_cons_succ]
          refine wpAnyH_done (by kernel_rfl) ?_ _
          have hs4 := hs2 x4 X4.out
          have HB8 : Hid (Below w5.heap.size w5 x4) := X4.out
          obtain ⟨d1, d2⟩ := HS.out x4 X4.out
          clear hS0 c1 c2 hs1 hs3 X1 X2 X3 X4
          go_wp2_with fail
          go_at_call 11
          refine hs4.mono ?_
          rintro r z1 ⟨rfl, bz⟩
          have HZ : Hid (Below w5.heap.size w5 z1) := low_step HB8.out bz
          have RQz : Hid (Reads3 z1 (.slice qa qs.length qc) qs) := reads3_below RQ.out HZ.out
          have RYz : Hid (Reads z1 (.slice ya ys.length yc) (ints ys)) := reads_below RY.out HZ.out
          have RPz : Hid (Reads3 z1 (.slice pa ss.length pc) ss) := reads3_below RP.out HZ.out
          have RLz : Hid (Reads z1 (.slice la A.length lc) (ints A)) := reads_below RL.out HZ.out
          have Pz : Hid (z1.heap[bP]? = some (.cells #[.slice pa ss.length pc] 26 (0, 0))) := box_step P.out HZ.out
          have Qz : Hid (z1.heap[bQ]? = some (.cells #[.slice qa qs.length qc] 26 (0, 0))) := box_step Q.out HZ.out
          have LWz : Hid (Below w.heap.size w z1) := low_step LW.out HZ.out
          clear bz hs4 hs2 d1 d2 RQ RY RP RL P Q LW HS HB8 HZ
          by_cases hx0 : 0 ≤ xx
          · obtain ⟨B, hB⟩ := solvedAns_some n qs set
            have hBl := solvedAns_length hB
            obtain ⟨j, hjl, hjB, hyp, hbit⟩ := along_solved hB HXX.out hx0
            have hsq := fun X (hX : Below z1.heap.size z1 X) => implSolved qs n set B hB (.slice qa qs.length qc) X hqm (reads3_below RQz.out hX)
            obtain ⟨gy, oy, hya⟩ := reads_some RYz.out hyp
            subst hya
            have hyl : ys.length - 1 < ys.length := by omega
            have cY := reads_cell RYz.out hyl
            have hlast : ys[ys.length - 1]'hyl = (j : Int) := by
              rw [← hjl]
              unfold lastI
              simp [List.getD, hyl]
            rw [hlast] at cY
            obtain ⟨cQ, -⟩ := one_cell Qz.out
            have hbit9 : bits .or .i64 xx (B[j]'hjB) = B[j]'hjB := by
              have e : B.getD j 0 = B[j]'hjB := by simp [List.getD, hjB]
              rw [← e]
              exact hbit
            have hi1 : ((ys.length : Int) - 1).toNat = ys.length - 1 := by omega
            have hi2 : (0 : Int) ≤ (ys.length : Int) - 1 := by omega
            have hi3 : (ys.length : Int) - 1 < (ys.length : Int) := by omega
            have hiw : IntKind.i64.wrap ((ys.length : Int) - 1) = (ys.length : Int) - 1 := IntWalk.i64_in _ (by omega)
            have hi4 : ¬ (ys.length : Int) < 1 := by omega
            have hi5 : (1 : Int) ≤ (ys.length : Int) := by omega
            have hj0 : (0 : Int) ≤ (j : Int) := by omega
            have hjB' : (j : Int) < (B.length : Int) := by omega
            have HS9 : Hid (∀ X, Below z1.heap.size z1 X → X.cell? ⟨bQ, 0, none⟩ = some (.slice qa qs.length qc) ∧ X.cell? ⟨gy, oy + (ys.length - 1), none⟩ = some (.int .i64 (j : Int))) := fun X hX => ⟨cell_step cQ hX, cell_step cY hX⟩
            have hS9 := HS9.out z1 (Below.refl _ _)
            clear hB hbit hlast hjl
            go_wp2_with fail
            refine wp_region_held_drew (S := fun X => X.cell? ⟨bQ, 0, none⟩ = some (.slice qa qs.length qc) ∧ X.cell? ⟨gy, oy + (ys.length - 1), none⟩ = some (.int .i64 (j : Int))) (by kernel_rfl) hS9 (fun hHeld => ?_)
            refine wpAnyH_take (i := 0) (oi := ?oib0) (v := .agg #[.slice qa qs.length qc]) ?hib0 (by kernel_rfl) (by kernel_rfl) (by kernel_rfl) ?hqb0 ?hyb0 hHeld ?hrb0
            case hib0 =>
              simp only [List.getElem?_toArray, List.getElem?_cons_succ, List.getElem?_cons_zero]
              rfl
            case hqb0 => exact fun _ _ _ h => h
            case hyb0 => exact Or.inl ⟨by kernel_rfl, fun w hSw => by obtain ⟨s0, s1⟩ := hSw; go_simp⟩
            try simp only [Act.put, List.setIfInBounds_toArray, List.set_cons_zero, List.set_cons_succ]
            refine wpAnyH_take (i := 1) (oi := ?oib1) (v := .int .i64 n) ?hib1 (by kernel_rfl) (by kernel_rfl) (by kernel_rfl) ?hqb1 ?hyb1 hHeld ?hrb1
            case hib1 =>
              simp only [List.getElem?_toArray, List.getElem?_cons_succ, List.getElem?_cons_zero]
              rfl
            case hqb1 => exact fun _ _ _ h => h
            case hyb1 => exact Or.inl ⟨by kernel_rfl, fun w hSw => by go_simp⟩
            try simp only [Act.put, List.setIfInBounds_toArray, List.set_cons_zero, List.set_cons_succ]
            refine wpAnyH_take (i := 2) (oi := ?oib2) (v := .int .i64 set) ?hib2 (by kernel_rfl) (by kernel_rfl) (by kernel_rfl) ?hqb2 ?hyb2 hHeld ?hrb2
            case hib2 =>
              simp only [List.getElem?_toArray, List.getElem?_cons_succ, List.getElem?_cons_zero]
              rfl
            case hqb2 => exact fun _ _ _ h => h
            case hyb2 => exact Or.inl ⟨by kernel_rfl, fun w hSw => by go_simp⟩
            try simp only [Act.put, List.setIfInBounds_toArray, List.set_cons_zero, List.set_cons_succ]
            refine wpAnyH_take (i := 4) (oi := ?oib4) (v := .slice (some ⟨gy, oy, none⟩) ys.length yc) ?hib4 (by kernel_rfl) (by kernel_rfl) (by kernel_rfl) ?hqb4 ?hyb4 hHeld ?hrb4
            case hib4 =>
              simp only [List.getElem?_toArray, List.getElem?_cons_succ, List.getElem?_cons_zero]
              rfl
            case hqb4 => exact fun _ _ _ h => h
            case hyb4 => exact Or.inl ⟨by kernel_rfl, fun w hSw => by go_simp⟩
            try simp only [Act.put, List.setIfInBounds_toArray, List.set_cons_zero, List.set_cons_succ]
            refine wpAnyH_take (i := 5) (oi := ?oib5) (v := .slice (some ⟨gy, oy, none⟩) ys.length yc) ?hib5 (by kernel_rfl) (by kernel_rfl) (by kernel_rfl) ?hqb5 ?hyb5 hHeld ?hrb5
            case hib5 =>
              simp only [List.getElem?_toArray, List.getElem?_cons_succ, List.getElem?_cons_zero]
              rfl
            case hqb5 => exact fun _ _ _ h => h
            case hyb5 => exact Or.inl ⟨by kernel_rfl, fun w hSw => by go_simp⟩
            try simp only [Act.put, List.setIfInBounds_toArray, List.set_cons_zero, List.set_cons_succ]
            refine wpAnyH_take (i := 6) (oi := ?oib6) (v := .int .i64 (ys.length : Int)) ?hib6 (by kernel_rfl) (by kernel_rfl) (by kernel_rfl) ?hqb6 ?hyb6 hHeld ?hrb6
            case hib6 =>
              simp only [List.getElem?_toArray, List.getElem?_cons_succ, List.getElem?_cons_zero]
              rfl
            case hqb6 => exact fun _ _ _ h => h
            case hyb6 => exact Or.inl ⟨by kernel_rfl, fun w hSw => by go_simp⟩
            try simp only [Act.put, List.setIfInBounds_toArray, List.set_cons_zero, List.set_cons_succ]
            refine wpAnyH_take (i := 7) (oi := ?oib7) (v := .int .i64 ((ys.length : Int) - 1)) ?hib7 (by kernel_rfl) (by kernel_rfl) (by kernel_rfl) ?hqb7 ?hyb7 hHeld ?hrb7
            case hib7 =>
              simp only [List.getElem?_toArray, List.getElem?_cons_succ, List.getElem?_cons_zero]
              rfl
            case hqb7 => exact fun _ _ _ h => h
            case hyb7 => exact Or.inl ⟨by kernel_rfl, fun w hSw => by go_simp⟩
            try simp only [Act.put, List.setIfInBounds_toArray, List.set_cons_zero, List.set_cons_succ]
            refine wpAnyH_take (i := 8) (oi := ?oib8) (v := .pointer (some ⟨gy, oy + (ys.length - 1), none⟩)) ?hib8 (by kernel_rfl) (by kernel_rfl) (by kernel_rfl) ?hqb8 ?hyb8 hHeld ?hrb8
            case hib8 =>
              simp only [List.getElem?_toArray, List.getElem?_cons_succ, List.getElem?_cons_zero]
              rfl
            case hqb8 => exact fun _ _ _ h => h
            case hyb8 => exact Or.inl ⟨by kernel_rfl, fun w hSw => by go_simp⟩
            try simp only [Act.put, List.setIfInBounds_toArray, List.set_cons_zero, List.set_cons_succ]
            refine wpAnyH_take (i := 9) (oi := ?oib9) (v := .int .i64 (j : Int)) ?hib9 (by kernel_rfl) (by kernel_rfl) (by kernel_rfl) ?hqb9 ?hyb9 hHeld ?hrb9
            case hib9 =>
              simp only [List.getElem?_toArray, List.getElem?_cons_succ, List.getElem?_cons_zero]
              rfl
            case hqb9 => exact fun _ _ _ h => h
            case hyb9 => exact Or.inl ⟨by kernel_rfl, fun w hSw => by obtain ⟨s0, s1⟩ := hSw; go_simp⟩
            try simp only [Act.put, List.setIfInBounds_toArray, List.set_cons_zero, List.set_cons_succ]
            refine wpAnyH_ready (rs := [3]) (by kernel_rfl) (by simp) ?_
            refine (AllReadyH.cons (o := ?oob3) ?hob3 (fun K hK => ?hkb3) AllReadyH.nil)
            case hob3 =>
              simp only [List.getElem?_toArray, List.getElem?_cons_succ, List.getElem?_cons_zero]
              rfl
            case hkb3 =>
              go_simp
              go_at_call 7
              refine (hsq z1.drew (Below.drew (Below.refl _ _))).mono ?_
              rintro e y1 ⟨bv, rfl, ob, bq⟩
              have Y1 : Hid (Below z1.heap.size z1 y1) := Below.trans (Below.drew (Below.refl _ _)) bq
              have RB := reads_own ob
              obtain ⟨ba, bcp, rfl⟩ := reads_form RB
              obtain ⟨gb, ob9, hba⟩ := reads_some RB (by omega)
              subst hba
              have cB := reads_cell RB hjB
              clear bq ob RB
              try go_wp2_with fail
              refine hK.out _ _ (HS9.out _ Y1.out) (fun hHeld => ?_)
              clear hK K
              try simp only [Act.put, List.setIfInBounds_toArray, List.set_cons_zero, List.set_cons_succ]
              refine wpAnyH_take (i := 10) (oi := ?oib10) (v := .pointer (some ⟨gb, ob9 + j, none⟩)) ?hib10 (by kernel_rfl) (by kernel_rfl) (by kernel_rfl) ?hqb10 ?hyb10 hHeld ?hrb10
              case hib10 =>
                simp only [List.getElem?_toArray, List.getElem?_cons_succ, List.getElem?_cons_zero]
                rfl
              case hqb10 => exact fun _ _ _ h => h
              case hyb10 => exact Or.inl ⟨by kernel_rfl, fun w hSw => by go_simp⟩
              try simp only [Act.put, List.setIfInBounds_toArray, List.set_cons_zero, List.set_cons_succ]
              refine wpAnyH_ready (rs := [11]) (by kernel_rfl) (by simp) ?_
              refine (AllReadyH.cons (o := ?oob11) ?hob11 (fun K hK => ?hkb11) AllReadyH.nil)
              case hob11 =>
                simp only [List.getElem?_toArray, List.getElem?_cons_succ, List.getElem?_cons_zero]
                rfl
              case hkb11 =>
                go_simp
                try go_wp2_with fail
                refine hK.out _ _ (HS9.out _ Y1.out) (fun hHeld => ?_)
                clear hK K
                try simp only [Act.put, List.setIfInBounds_toArray, List.set_cons_zero, List.set_cons_succ]
                refine wpAnyH_take (i := 12) (oi := ?oib12) (v := .int .i64 (B[j]'hjB)) ?hib12 (by kernel_rfl) (by kernel_rfl) (by kernel_rfl) ?hqb12 ?hyb12 hHeld ?hrb12
                case hib12 =>
                  simp only [List.getElem?_toArray, List.getElem?_cons_succ, List.getElem?_cons_zero]
                  rfl
                case hqb12 => exact fun _ _ _ h => h
                case hyb12 => exact Or.inl ⟨by kernel_rfl, fun w hSw => by go_simp⟩
                try simp only [Act.put, List.setIfInBounds_toArray, List.set_cons_zero, List.set_cons_succ]
                refine wpAnyH_done (by kernel_rfl) ?_ _
                have HBz : Hid (Below z1.heap.size z1 y1) := Y1.out
                clear cB hS9
                have RPs : Hid (Reads3 y1 (.slice pa ss.length pc) ss) := reads3_below RPz.out HBz.out
                have RLs : Hid (Reads y1 (.slice la A.length lc) (ints A)) := reads_below RLz.out HBz.out
                have Ps : Hid (y1.heap[bP]? = some (.cells #[.slice pa ss.length pc] 26 (0, 0))) := box_step Pz.out HBz.out
                have LWs : Hid (Below w.heap.size w y1) := low_step LWz.out HBz.out
                by_cases h0 : A.length = 0
                · have h0' : (A.length : Int) = 0 := by omega
                  go_wp2
                  go_ret
                  exact ⟨rfl, LWs.out⟩
                have h0' : ¬ (A.length : Int) = 0 := by omega
                have h0b : ((A.length : Int) == 0) = false := beq_eq_false_iff_ne.2 h0'
                obtain ⟨gl, ol, hla⟩ := reads_some RLs.out (by omega)
                subst hla
                clear RPz RLz Pz Qz LWz RQz RYz HBz
                go_wp2_with fail
                obtain ⟨zs, hzs⟩ : ∃ x, x = y1 := ⟨_, rfl⟩
                subst hzs
                go_loopw [13] (fun q wr => ∃ i : Nat, i ≤ A.length ∧ q = .int .i64 i ∧ Below zs.heap.size zs wr) (fun q _ => A.length - (intOf q).toNat)
                case atStart => exact ⟨0, Nat.zero_le _, rfl, Below.refl _ _⟩
                case round =>
                  obtain ⟨i, hil, rfl, hbr⟩ := hrel
                  have HBI : Hid (Below zs.heap.size zs wr) := hbr
                  obtain ⟨cP, -⟩ := one_cell (box_step Ps.out hbr)
                  by_cases hi : i < A.length
                  · have hi' : (i : Int) < (A.length : Int) := by omega
                    have hi0 : (0 : Int) ≤ (i : Int) := by omega
                    have hwy := specWays ss (i : Int) 8 (.slice pa ss.length pc) wr hsm (reads3_below RPs.out hbr)
                    have hWl := waysAns_length ss (i : Int) 8
                    have HWE : Hid (∀ ys ∈ waysAns ss (i : Int) 8, ys.length ≤ 10 ∧ 0 ≤ alongAns ss c ys s ∧ bits .or .i64 (alongAns ss c ys s) (A.getD i 0) = A.getD i 0) := fun ys hy => ⟨waysAns_each hy, along_ok HA.out (by omega) hy⟩
                    obtain ⟨WS, hWS⟩ : ∃ x, waysAns ss (i : Int) 8 = x := ⟨_, rfl⟩
                    rw [hWS] at hwy hWl HWE
                    clear hbr hWS
                    go_wp2_with fail
                    go_at_call 13
                    refine hwy.mono ?_
                    rintro r z2 ⟨wv, wus, rfl, ow9, bz⟩
                    obtain ⟨wa9, wn, wc, rfl⟩ := own_slice ow9.row
                    obtain rfl := ownSS_len ow9
                    have OW : Hid (OwnSS z2 wr.heap.size (.slice wa9 WS.length wc) wus WS) := ow9
                    have HB2 : Hid (Below zs.heap.size zs z2) := low_step HBI.out bz
                    clear ow9 bz hwy cP
                    go_wp2_with fail
                    obtain ⟨wi, hwi⟩ : ∃ x, x = wr := ⟨_, rfl⟩
                    subst hwi
                    go_loopw [15] (fun q wr => ∃ k : Nat, k ≤ WS.length ∧ q = .int .i64 k ∧ Below z2.heap.size z2 wr) (fun q _ => WS.length - (intOf q).toNat)
                    case atStart => exact ⟨0, Nat.zero_le _, rfl, Below.refl _ _⟩
                    case round =>
                      obtain ⟨k, hkl, rfl, hbr⟩ := hrel
                      have HBK : Hid (Below z2.heap.size z2 wr) := hbr
                      have HBX : Hid (Below zs.heap.size zs wr) := low_step HB2.out hbr
                      by_cases hk : k < WS.length
                      · have hk' : (k : Int) < (WS.length : Int) := by omega
                        have hk0 : (0 : Int) ≤ (k : Int) := by omega
                        obtain ⟨gw, hgw⟩ := ownSS_some OW.out (by omega)
                        subst hgw
                        obtain ⟨uk, _, cu, ou⟩ := (OW.out.below hbr).at (j := k) hk
                        obtain ⟨hy10', hpos, hor'⟩ := HWE.out (WS[k]'hk) (List.getElem_mem hk)
                        have eA : A.getD i 0 = A[i]'hi := by simp [List.getD, hi]
                        rw [eA] at hor'
                        have hal := fun X (hX : Below wr.heap.size wr X) => implAlong ss c s (WS[k]'hk) (.slice pa ss.length pc) uk X hsm (by unfold maxLen; omega) (reads3_below RPs.out (low_step HBX.out hX)) (reads_below (reads_own ou) hX) (own_capK ou)
                        obtain ⟨x2, hx2⟩ : ∃ x, alongAns ss c (WS[k]'hk) s = x := ⟨_, rfl⟩
                        rw [hx2] at hal hpos hor'
                        have hor : bits .or .i64 x2 (A[i]'hi) = A[i]'hi := hor'
                        have hxn2 : ¬ x2 < 0 := by omega
                        have hnd : decide (x2 < 0) = false := decide_eq_false hxn2
                        obtain ⟨cPr, -⟩ := one_cell (box_step Ps.out HBX.out)
                        have HS9 : Hid (∀ X, Below wr.heap.size wr X → X.cell? ⟨bP, 0, none⟩ = some (.slice pa ss.length pc) ∧ X.cell? ⟨gw, k, none⟩ = some uk) := fun X hX => ⟨cell_step cPr hX, cell_step cu hX⟩
                        have hS9 := HS9.out wr (Below.refl _ _)
                        clear hbr ou eA hx2 hor' hpos
                        go_wp2_with fail
                        refine wp_region_held_drew (S := fun X => X.cell? ⟨bP, 0, none⟩ = some (.slice pa ss.length pc) ∧ X.cell? ⟨gw, k, none⟩ = some (uk)) (by kernel_rfl) hS9 (fun hHeld => ?_)
                        refine wpAnyH_take (i := 0) (oi := ?oic0) (v := .agg #[.slice pa ss.length pc]) ?hic0 (by kernel_rfl) (by kernel_rfl) (by kernel_rfl) ?hqc0 ?hyc0 hHeld ?hrc0
                        case hic0 =>
                          simp only [List.getElem?_toArray, List.getElem?_cons_succ, List.getElem?_cons_zero]
                          rfl
                        case hqc0 => exact fun _ _ _ h => h
                        case hyc0 => exact Or.inl ⟨by kernel_rfl, fun w hSw => by obtain ⟨s0, s1⟩ := hSw; go_simp⟩
                        try simp only [Act.put, List.setIfInBounds_toArray, List.set_cons_zero, List.set_cons_succ]
                        refine wpAnyH_take (i := 1) (oi := ?oic1) (v := .int .i64 c) ?hic1 (by kernel_rfl) (by kernel_rfl) (by kernel_rfl) ?hqc1 ?hyc1 hHeld ?hrc1
                        case hic1 =>
                          simp only [List.getElem?_toArray, List.getElem?_cons_succ, List.getElem?_cons_zero]
                          rfl
                        case hqc1 => exact fun _ _ _ h => h
                        case hyc1 => exact Or.inl ⟨by kernel_rfl, fun w hSw => by go_simp⟩
                        try simp only [Act.put, List.setIfInBounds_toArray, List.set_cons_zero, List.set_cons_succ]
                        refine wpAnyH_take (i := 2) (oi := ?oic2) (v := .slice (some ⟨gw, 0, none⟩) WS.length wc) ?hic2 (by kernel_rfl) (by kernel_rfl) (by kernel_rfl) ?hqc2 ?hyc2 hHeld ?hrc2
                        case hic2 =>
                          simp only [List.getElem?_toArray, List.getElem?_cons_succ, List.getElem?_cons_zero]
                          rfl
                        case hqc2 => exact fun _ _ _ h => h
                        case hyc2 => exact Or.inl ⟨by kernel_rfl, fun w hSw => by go_simp⟩
                        try simp only [Act.put, List.setIfInBounds_toArray, List.set_cons_zero, List.set_cons_succ]
                        refine wpAnyH_take (i := 3) (oi := ?oic3) (v := .int .i64 (k : Int)) ?hic3 (by kernel_rfl) (by kernel_rfl) (by kernel_rfl) ?hqc3 ?hyc3 hHeld ?hrc3
                        case hic3 =>
                          simp only [List.getElem?_toArray, List.getElem?_cons_succ, List.getElem?_cons_zero]
                          rfl
                        case hqc3 => exact fun _ _ _ h => h
                        case hyc3 => exact Or.inl ⟨by kernel_rfl, fun w hSw => by go_simp⟩
                        try simp only [Act.put, List.setIfInBounds_toArray, List.set_cons_zero, List.set_cons_succ]
                        refine wpAnyH_take (i := 4) (oi := ?oic4) (v := .pointer (some ⟨gw, k, none⟩)) ?hic4 (by kernel_rfl) (by kernel_rfl) (by kernel_rfl) ?hqc4 ?hyc4 hHeld ?hrc4
                        case hic4 =>
                          simp only [List.getElem?_toArray, List.getElem?_cons_succ, List.getElem?_cons_zero]
                          rfl
                        case hqc4 => exact fun _ _ _ h => h
                        case hyc4 => exact Or.inl ⟨by kernel_rfl, fun w hSw => by go_simp⟩
                        try simp only [Act.put, List.setIfInBounds_toArray, List.set_cons_zero, List.set_cons_succ]
                        refine wpAnyH_take (i := 5) (oi := ?oic5) (v := uk) ?hic5 (by kernel_rfl) (by kernel_rfl) (by kernel_rfl) ?hqc5 ?hyc5 hHeld ?hrc5
                        case hic5 =>
                          simp only [List.getElem?_toArray, List.getElem?_cons_succ, List.getElem?_cons_zero]
                          rfl
                        case hqc5 => exact fun _ _ _ h => h
                        case hyc5 => exact Or.inl ⟨by kernel_rfl, fun w hSw => by obtain ⟨s0, s1⟩ := hSw; go_simp⟩
                        try simp only [Act.put, List.setIfInBounds_toArray, List.set_cons_zero, List.set_cons_succ]
                        refine wpAnyH_take (i := 6) (oi := ?oic6) (v := .int .i64 s) ?hic6 (by kernel_rfl) (by kernel_rfl) (by kernel_rfl) ?hqc6 ?hyc6 hHeld ?hrc6
                        case hic6 =>
                          simp only [List.getElem?_toArray, List.getElem?_cons_succ, List.getElem?_cons_zero]
                          rfl
                        case hqc6 => exact fun _ _ _ h => h
                        case hyc6 => exact Or.inl ⟨by kernel_rfl, fun w hSw => by go_simp⟩
                        try simp only [Act.put, List.setIfInBounds_toArray, List.set_cons_zero, List.set_cons_succ]
                        refine wpAnyH_ready (rs := [7]) (by kernel_rfl) (by simp) ?_
                        refine (AllReadyH.cons (o := ?ooc7) ?hoc7 (fun K hK => ?hkc7) AllReadyH.nil)
                        case hoc7 =>
                          simp only [List.getElem?_toArray, List.getElem?_cons_succ, List.getElem?_cons_zero]
                          rfl
                        case hkc7 =>
                          go_simp
                          go_at_call 11
                          refine (hal wr.drew (Below.drew (Below.refl _ _))).mono ?_
                          rintro e y1 ⟨rfl, bq⟩
                          have Y1 : Hid (Below wr.heap.size wr y1) := Below.trans (Below.drew (Below.refl _ _)) bq
                          clear bq 
                          try go_wp2_with fail
                          refine hK.out _ _ (HS9.out _ Y1.out) (fun hHeld => ?_)
                          clear hK K
                          try simp only [Act.put, List.setIfInBounds_toArray, List.set_cons_zero, List.set_cons_succ]
                          refine wpAnyH_take (i := 8) (oi := ?oic8) (v := .int .i64 x2) ?hic8 (by kernel_rfl) (by kernel_rfl) (by kernel_rfl) ?hqc8 ?hyc8 hHeld ?hrc8
                          case hic8 =>
                            simp only [List.getElem?_toArray, List.getElem?_cons_succ, List.getElem?_cons_zero]
                            rfl
                          case hqc8 => exact fun _ _ _ h => h
                          case hyc8 => exact Or.inl ⟨by kernel_rfl, fun w hSw => by go_simp⟩
                          try simp only [Act.put, List.setIfInBounds_toArray, List.set_cons_zero, List.set_cons_succ]
                          refine wpAnyH_done (by kernel_rfl) ?_ _
                          have HBE : Hid (Below z2.heap.size z2 y1) := low_step HBK.out Y1.out
                          have cA := cell_step (reads_cell RLs.out hi) (low_step HBX.out Y1.out)
                          clear hS9 hal
                          go_wp2_with fail
                          refine wp_region_held_drew (S := fun X => X.cell? ⟨gl, ol + i, none⟩ = some (.int .i64 (A[i]'hi))) (by kernel_rfl) cA (fun hHeld => ?_)
                          refine wpAnyH_take (i := 0) (oi := ?oid0) (v := .int .i64 x2) ?hid0 (by kernel_rfl) (by kernel_rfl) (by kernel_rfl) ?hqd0 ?hyd0 hHeld ?hrd0
                          case hid0 =>
                            simp only [List.getElem?_toArray, List.getElem?_cons_succ, List.getElem?_cons_zero]
                            rfl
                          case hqd0 => exact fun _ _ _ h => h
                          case hyd0 => exact Or.inl ⟨by kernel_rfl, fun w hSw => by go_simp⟩
                          try simp only [Act.put, List.setIfInBounds_toArray, List.set_cons_zero, List.set_cons_succ]
                          refine wpAnyH_take (i := 1) (oi := ?oid1) (v := .bool false) ?hid1 (by kernel_rfl) (by kernel_rfl) (by kernel_rfl) ?hqd1 ?hyd1 hHeld ?hrd1
                          case hid1 =>
                            simp only [List.getElem?_toArray, List.getElem?_cons_succ, List.getElem?_cons_zero]
                            rfl
                          case hqd1 => exact fun _ _ _ h => h
                          case hyd1 => exact Or.inl ⟨by kernel_rfl, fun w hSw => by go_simp⟩
                          try simp only [Act.put, List.setIfInBounds_toArray, List.set_cons_zero, List.set_cons_succ]
                          refine wpAnyH_take (i := 2) (oi := ?oid2) (v := .bool false) ?hid2 (by kernel_rfl) (by kernel_rfl) (by kernel_rfl) ?hqd2 ?hyd2 hHeld ?hrd2
                          case hid2 =>
                            simp only [List.getElem?_toArray, List.getElem?_cons_succ, List.getElem?_cons_zero]
                            rfl
                          case hqd2 => exact fun _ _ _ h => h
                          case hyd2 => exact Or.inl ⟨by kernel_rfl, fun w hSw => by go_simp⟩
                          try simp only [Act.put, List.setIfInBounds_toArray, List.set_cons_zero, List.set_cons_succ]
                          refine wpAnyH_take (i := 3) (oi := ?oid3) (v := .int .i64 x2) ?hid3 (by kernel_rfl) (by kernel_rfl) (by kernel_rfl) ?hqd3 ?hyd3 hHeld ?hrd3
                          case hid3 =>
                            simp only [List.getElem?_toArray, List.getElem?_cons_succ, List.getElem?_cons_zero]
                            rfl
                          case hqd3 => exact fun _ _ _ h => h
                          case hyd3 => exact Or.inl ⟨by kernel_rfl, fun w hSw => by go_simp⟩
                          try simp only [Act.put, List.setIfInBounds_toArray, List.set_cons_zero, List.set_cons_succ]
                          refine wpAnyH_take (i := 4) (oi := ?oid4) (v := .slice (some ⟨gl, ol, none⟩) A.length lc) ?hid4 (by kernel_rfl) (by kernel_rfl) (by kernel_rfl) ?hqd4 ?hyd4 hHeld ?hrd4
                          case hid4 =>
                            simp only [List.getElem?_toArray, List.getElem?_cons_succ, List.getElem?_cons_zero]
                            rfl
                          case hqd4 => exact fun _ _ _ h => h
                          case hyd4 => exact Or.inl ⟨by kernel_rfl, fun w hSw => by go_simp⟩
                          try simp only [Act.put, List.setIfInBounds_toArray, List.set_cons_zero, List.set_cons_succ]
                          refine wpAnyH_take (i := 5) (oi := ?oid5) (v := .int .i64 (i : Int)) ?hid5 (by kernel_rfl) (by kernel_rfl) (by kernel_rfl) ?hqd5 ?hyd5 hHeld ?hrd5
                          case hid5 =>
                            simp only [List.getElem?_toArray, List.getElem?_cons_succ, List.getElem?_cons_zero]
                            rfl
                          case hqd5 => exact fun _ _ _ h => h
                          case hyd5 => exact Or.inl ⟨by kernel_rfl, fun w hSw => by go_simp⟩
                          try simp only [Act.put, List.setIfInBounds_toArray, List.set_cons_zero, List.set_cons_succ]
                          refine wpAnyH_take (i := 6) (oi := ?oid6) (v := .pointer (some ⟨gl, ol + i, none⟩)) ?hid6 (by kernel_rfl) (by kernel_rfl) (by kernel_rfl) ?hqd6 ?hyd6 hHeld ?hrd6
                          case hid6 =>
                            simp only [List.getElem?_toArray, List.getElem?_cons_succ, List.getElem?_cons_zero]
                            rfl
                          case hqd6 => exact fun _ _ _ h => h
                          case hyd6 => exact Or.inl ⟨by kernel_rfl, fun w hSw => by go_simp⟩
                          try simp only [Act.put, List.setIfInBounds_toArray, List.set_cons_zero, List.set_cons_succ]
                          refine wpAnyH_take (i := 7) (oi := ?oid7) (v := .int .i64 (A[i]'hi)) ?hid7 (by kernel_rfl) (by kernel_rfl) (by kernel_rfl) ?hqd7 ?hyd7 hHeld ?hrd7
                          case hid7 =>
                            simp only [List.getElem?_toArray, List.getElem?_cons_succ, List.getElem?_cons_zero]
                            rfl
                          case hqd7 => exact fun _ _ _ h => h
                          case hyd7 => exact Or.inl ⟨by kernel_rfl, fun w hSw => by go_simp⟩
                          try simp only [Act.put, List.setIfInBounds_toArray, List.set_cons_zero, List.set_cons_succ]
                          refine wpAnyH_take (i := 8) (oi := ?oid8) (v := .int .i64 (A[i]'hi)) ?hid8 (by kernel_rfl) (by kernel_rfl) (by kernel_rfl) ?hqd8 ?hyd8 hHeld ?hrd8
                          case hid8 =>
                            simp only [List.getElem?_toArray, List.getElem?_cons_succ, List.getElem?_cons_zero]
                            rfl
                          case hqd8 => exact fun _ _ _ h => h
                          case hyd8 => exact Or.inl ⟨by kernel_rfl, fun w hSw => by go_simp; (try rw [hor])⟩
                          try simp only [Act.put, List.setIfInBounds_toArray, List.set_cons_zero, List.set_cons_succ]
                          refine wpAnyH_take (i := 9) (oi := ?oid9) (v := .slice (some ⟨gl, ol, none⟩) A.length lc) ?hid9 (by kernel_rfl) (by kernel_rfl) (by kernel_rfl) ?hqd9 ?hyd9 hHeld ?hrd9
                          case hid9 =>
                            simp only [List.getElem?_toArray, List.getElem?_cons_succ, List.getElem?_cons_zero]
                            rfl
                          case hqd9 => exact fun _ _ _ h => h
                          case hyd9 => exact Or.inl ⟨by kernel_rfl, fun w hSw => by go_simp⟩
                          try simp only [Act.put, List.setIfInBounds_toArray, List.set_cons_zero, List.set_cons_succ]
                          refine wpAnyH_take (i := 10) (oi := ?oid10) (v := .int .i64 (i : Int)) ?hid10 (by kernel_rfl) (by kernel_rfl) (by kernel_rfl) ?hqd10 ?hyd10 hHeld ?hrd10
                          case hid10 =>
                            simp only [List.getElem?_toArray, List.getElem?_cons_succ, List.getElem?_cons_zero]
                            rfl
                          case hqd10 => exact fun _ _ _ h => h
                          case hyd10 => exact Or.inl ⟨by kernel_rfl, fun w hSw => by go_simp⟩
                          try simp only [Act.put, List.setIfInBounds_toArray, List.set_cons_zero, List.set_cons_succ]
                          refine wpAnyH_take (i := 11) (oi := ?oid11) (v := .pointer (some ⟨gl, ol + i, none⟩)) ?hid11 (by kernel_rfl) (by kernel_rfl) (by kernel_rfl) ?hqd11 ?hyd11 hHeld ?hrd11
                          case hid11 =>
                            simp only [List.getElem?_toArray, List.getElem?_cons_succ, List.getElem?_cons_zero]
                            rfl
                          case hqd11 => exact fun _ _ _ h => h
                          case hyd11 => exact Or.inl ⟨by kernel_rfl, fun w hSw => by go_simp⟩
                          try simp only [Act.put, List.setIfInBounds_toArray, List.set_cons_zero, List.set_cons_succ]
                          refine wpAnyH_take (i := 12) (oi := ?oid12) (v := .int .i64 (A[i]'hi)) ?hid12 (by kernel_rfl) (by kernel_rfl) (by kernel_rfl) ?hqd12 ?hyd12 hHeld ?hrd12
                          case hid12 =>
                            simp only [List.getElem?_toArray, List.getElem?_cons_succ, List.getElem?_cons_zero]
                            rfl
                          case hqd12 => exact fun _ _ _ h => h
                          case hyd12 => exact Or.inl ⟨by kernel_rfl, fun w hSw => by go_simp⟩
                          try simp only [Act.put, List.setIfInBounds_toArray, List.set_cons_zero, List.set_cons_succ]
                          refine wpAnyH_take (i := 13) (oi := ?oid13) (v := .bool false) ?hid13 (by kernel_rfl) (by kernel_rfl) (by kernel_rfl) ?hqd13 ?hyd13 hHeld ?hrd13
                          case hid13 =>
                            simp only [List.getElem?_toArray, List.getElem?_cons_succ, List.getElem?_cons_zero]
                            rfl
                          case hqd13 => exact fun _ _ _ h => h
                          case hyd13 => exact Or.inl ⟨by kernel_rfl, fun w hSw => by go_simp⟩
                          try simp only [Act.put, List.setIfInBounds_toArray, List.set_cons_zero, List.set_cons_succ]
                          refine wpAnyH_take (i := 14) (oi := ?oid14) (v := .bool false) ?hid14 (by kernel_rfl) (by kernel_rfl) (by kernel_rfl) ?hqd14 ?hyd14 hHeld ?hrd14
                          case hid14 =>
                            simp only [List.getElem?_toArray, List.getElem?_cons_succ, List.getElem?_cons_zero]
                            rfl
                          case hqd14 => exact fun _ _ _ h => h
                          case hyd14 => exact Or.inl ⟨by kernel_rfl, fun w hSw => by go_simp⟩
                          try simp only [Act.put, List.setIfInBounds_toArray, List.set_cons_zero, List.set_cons_succ]
                          refine wpAnyH_done (by kernel_rfl) ?_ _
                          go_wp2
                          go_roundw
                          case rel => exact ⟨k + 1, by omega, by go_num, HBE.out.drew⟩
                          case measure => simp [intOf]; omega
                      · obtain rfl : k = WS.length := by omega
                        have hnk : ¬ (WS.length : Int) < (WS.length : Int) := by omega
                        clear hbr
                        go_wp2
                        go_roundw
                        case rel => exact ⟨i + 1, by omega, by go_num, HBX.out⟩
                        case measure => simp [intOf]; omega
                  · obtain rfl : i = A.length := by omega
                    have hni : ¬ (A.length : Int) < (A.length : Int) := by omega
                    have hcv := implCovers ss c s A (.slice pa ss.length pc) (.slice (some ⟨gl, ol, none⟩) A.length lc) wr hsm hAm (reads3_below RPs.out hbr) (reads_below RLs.out hbr)
                    rw [covers_ok HA.out (by omega)] at hcv
                    have HLE : Hid (Below w.heap.size w wr) := low_step LWs.out hbr
                    clear hbr
                    go_wp2_with fail
                    go_at_call 14
                    refine hcv.mono ?_
                    rintro r z9 ⟨rfl, bz⟩
                    have HE : Hid (Below w.heap.size w z9) := low_step HLE.out bz
                    clear bz hcv
                    go_wp2
                    go_ret
                    exact ⟨rfl, HE.out⟩
          · have hxn : ¬ 0 ≤ xx := hx0
            have HBz : Hid (Below z1.heap.size z1 z1) := Below.refl _ _
            have RPs : Hid (Reads3 z1 (.slice pa ss.length pc) ss) := reads3_below RPz.out HBz.out
            have RLs : Hid (Reads z1 (.slice la A.length lc) (ints A)) := reads_below RLz.out HBz.out
            have Ps : Hid (z1.heap[bP]? = some (.cells #[.slice pa ss.length pc] 26 (0, 0))) := box_step Pz.out HBz.out
            have LWs : Hid (Below w.heap.size w z1) := low_step LWz.out HBz.out
            by_cases h0 : A.length = 0
            · have h0' : (A.length : Int) = 0 := by omega
              go_wp2
              go_ret
              exact ⟨rfl, LWs.out⟩
            have h0' : ¬ (A.length : Int) = 0 := by omega
            have h0b : ((A.length : Int) == 0) = false := beq_eq_false_iff_ne.2 h0'
            obtain ⟨gl, ol, hla⟩ := reads_some RLs.out (by omega)
            subst hla
            clear RPz RLz Pz Qz LWz RQz RYz HBz
            go_wp2_with fail
            obtain ⟨zs, hzs⟩ : ∃ x, x = z1 := ⟨_, rfl⟩
            subst hzs
            go_loopw [13] (fun q wr => ∃ i : Nat, i ≤ A.length ∧ q = .int .i64 i ∧ Below zs.heap.size zs wr) (fun q _ => A.length - (intOf q).toNat)
            case atStart => exact ⟨0, Nat.zero_le _, rfl, Below.refl _ _⟩
            case round =>
              obtain ⟨i, hil, rfl, hbr⟩ := hrel
              have HBI : Hid (Below zs.heap.size zs wr) := hbr
              obtain ⟨cP, -⟩ := one_cell (box_step Ps.out hbr)
              by_cases hi : i < A.length
              · have hi' : (i : Int) < (A.length : Int) := by omega
                have hi0 : (0 : Int) ≤ (i : Int) := by omega
                have hwy := specWays ss (i : Int) 8 (.slice pa ss.length pc) wr hsm (reads3_below RPs.out hbr)
                have hWl := waysAns_length ss (i : Int) 8
                have HWE : Hid (∀ ys ∈ waysAns ss (i : Int) 8, ys.length ≤ 10 ∧ 0 ≤ alongAns ss c ys s ∧ bits .or .i64 (alongAns ss c ys s) (A.getD i 0) = A.getD i 0) := fun ys hy => ⟨waysAns_each hy, along_ok HA.out (by omega) hy⟩
                obtain ⟨WS, hWS⟩ : ∃ x, waysAns ss (i : Int) 8 = x := ⟨_, rfl⟩
                rw [hWS] at hwy hWl HWE
                clear hbr hWS
                go_wp2_with fail
                go_at_call 13
                refine hwy.mono ?_
                rintro r z2 ⟨wv, wus, rfl, ow9, bz⟩
                obtain ⟨wa9, wn, wc, rfl⟩ := own_slice ow9.row
                obtain rfl := ownSS_len ow9
                have OW : Hid (OwnSS z2 wr.heap.size (.slice wa9 WS.length wc) wus WS) := ow9
                have HB2 : Hid (Below zs.heap.size zs z2) := low_step HBI.out bz
                clear ow9 bz hwy cP
                go_wp2_with fail
                obtain ⟨wi, hwi⟩ : ∃ x, x = wr := ⟨_, rfl⟩
                subst hwi
                go_loopw [15] (fun q wr => ∃ k : Nat, k ≤ WS.length ∧ q = .int .i64 k ∧ Below z2.heap.size z2 wr) (fun q _ => WS.length - (intOf q).toNat)
                case atStart => exact ⟨0, Nat.zero_le _, rfl, Below.refl _ _⟩
                case round =>
                  obtain ⟨k, hkl, rfl, hbr⟩ := hrel
                  have HBK : Hid (Below z2.heap.size z2 wr) := hbr
                  have HBX : Hid (Below zs.heap.size zs wr) := low_step HB2.out hbr
                  by_cases hk : k < WS.length
                  · have hk' : (k : Int) < (WS.length : Int) := by omega
                    have hk0 : (0 : Int) ≤ (k : Int) := by omega
                    obtain ⟨gw, hgw⟩ := ownSS_some OW.out (by omega)
                    subst hgw
                    obtain ⟨uk, _, cu, ou⟩ := (OW.out.below hbr).at (j := k) hk
                    obtain ⟨hy10', hpos, hor'⟩ := HWE.out (WS[k]'hk) (List.getElem_mem hk)
                    have eA : A.getD i 0 = A[i]'hi := by simp [List.getD, hi]
                    rw [eA] at hor'
                    have hal := fun X (hX : Below wr.heap.size wr X) => implAlong ss c s (WS[k]'hk) (.slice pa ss.length pc) uk X hsm (by unfold maxLen; omega) (reads3_below RPs.out (low_step HBX.out hX)) (reads_below (reads_own ou) hX) (own_capK ou)
                    obtain ⟨x2, hx2⟩ : ∃ x, alongAns ss c (WS[k]'hk) s = x := ⟨_, rfl⟩
                    rw [hx2] at hal hpos hor'
                    have hor : bits .or .i64 x2 (A[i]'hi) = A[i]'hi := hor'
                    have hxn2 : ¬ x2 < 0 := by omega
                    have hnd : decide (x2 < 0) = false := decide_eq_false hxn2
                    obtain ⟨cPr, -⟩ := one_cell (box_step Ps.out HBX.out)
                    have HS9 : Hid (∀ X, Below wr.heap.size wr X → X.cell? ⟨bP, 0, none⟩ = some (.slice pa ss.length pc) ∧ X.cell? ⟨gw, k, none⟩ = some uk) := fun X hX => ⟨cell_step cPr hX, cell_step cu hX⟩
                    have hS9 := HS9.out wr (Below.refl _ _)
                    clear hbr ou eA hx2 hor' hpos
                    go_wp2_with fail
                    refine wp_region_held_drew (S := fun X => X.cell? ⟨bP, 0, none⟩ = some (.slice pa ss.length pc) ∧ X.cell? ⟨gw, k, none⟩ = some (uk)) (by kernel_rfl) hS9 (fun hHeld => ?_)
                    refine wpAnyH_take (i := 0) (oi := ?oie0) (v := .agg #[.slice pa ss.length pc]) ?hie0 (by kernel_rfl) (by kernel_rfl) (by kernel_rfl) ?hqe0 ?hye0 hHeld ?hre0
                    case hie0 =>
                      simp only [List.getElem?_toArray, List.getElem?_cons_succ, List.getElem?_cons_zero]
                      rfl
                    case hqe0 => exact fun _ _ _ h => h
                    case hye0 => exact Or.inl ⟨by kernel_rfl, fun w hSw => by obtain ⟨s0, s1⟩ := hSw; go_simp⟩
                    try simp only [Act.put, List.setIfInBounds_toArray, List.set_cons_zero, List.set_cons_succ]
                    refine wpAnyH_take (i := 1) (oi := ?oie1) (v := .int .i64 c) ?hie1 (by kernel_rfl) (by kernel_rfl) (by kernel_rfl) ?hqe1 ?hye1 hHeld ?hre1
                    case hie1 =>
                      simp only [List.getElem?_toArray, List.getElem?_cons_succ, List.getElem?_cons_zero]
                      rfl
                    case hqe1 => exact fun _ _ _ h => h
                    case hye1 => exact Or.inl ⟨by kernel_rfl, fun w hSw => by go_simp⟩
                    try simp only [Act.put, List.setIfInBounds_toArray, List.set_cons_zero, List.set_cons_succ]
                    refine wpAnyH_take (i := 2) (oi := ?oie2) (v := .slice (some ⟨gw, 0, none⟩) WS.length wc) ?hie2 (by kernel_rfl) (by kernel_rfl) (by kernel_rfl) ?hqe2 ?hye2 hHeld ?hre2
                    case hie2 =>
                      simp only [List.getElem?_toArray, List.getElem?_cons_succ, List.getElem?_cons_zero]
                      rfl
                    case hqe2 => exact fun _ _ _ h => h
                    case hye2 => exact Or.inl ⟨by kernel_rfl, fun w hSw => by go_simp⟩
                    try simp only [Act.put, List.setIfInBounds_toArray, List.set_cons_zero, List.set_cons_succ]
                    refine wpAnyH_take (i := 3) (oi := ?oie3) (v := .int .i64 (k : Int)) ?hie3 (by kernel_rfl) (by kernel_rfl) (by kernel_rfl) ?hqe3 ?hye3 hHeld ?hre3
                    case hie3 =>
                      simp only [List.getElem?_toArray, List.getElem?_cons_succ, List.getElem?_cons_zero]
                      rfl
                    case hqe3 => exact fun _ _ _ h => h
                    case hye3 => exact Or.inl ⟨by kernel_rfl, fun w hSw => by go_simp⟩
                    try simp only [Act.put, List.setIfInBounds_toArray, List.set_cons_zero, List.set_cons_succ]
                    refine wpAnyH_take (i := 4) (oi := ?oie4) (v := .pointer (some ⟨gw, k, none⟩)) ?hie4 (by kernel_rfl) (by kernel_rfl) (by kernel_rfl) ?hqe4 ?hye4 hHeld ?hre4
                    case hie4 =>
                      simp only [List.getElem?_toArray, List.getElem?_cons_succ, List.getElem?_cons_zero]
                      rfl
                    case hqe4 => exact fun _ _ _ h => h
                    case hye4 => exact Or.inl ⟨by kernel_rfl, fun w hSw => by go_simp⟩
                    try simp only [Act.put, List.setIfInBounds_toArray, List.set_cons_zero, List.set_cons_succ]
                    refine wpAnyH_take (i := 5) (oi := ?oie5) (v := uk) ?hie5 (by kernel_rfl) (by kernel_rfl) (by kernel_rfl) ?hqe5 ?hye5 hHeld ?hre5
                    case hie5 =>
                      simp only [List.getElem?_toArray, List.getElem?_cons_succ, List.getElem?_cons_zero]
                      rfl
                    case hqe5 => exact fun _ _ _ h => h
                    case hye5 => exact Or.inl ⟨by kernel_rfl, fun w hSw => by obtain ⟨s0, s1⟩ := hSw; go_simp⟩
                    try simp only [Act.put, List.setIfInBounds_toArray, List.set_cons_zero, List.set_cons_succ]
                    refine wpAnyH_take (i := 6) (oi := ?oie6) (v := .int .i64 s) ?hie6 (by kernel_rfl) (by kernel_rfl) (by kernel_rfl) ?hqe6 ?hye6 hHeld ?hre6
                    case hie6 =>
                      simp only [List.getElem?_toArray, List.getElem?_cons_succ, List.getElem?_cons_zero]
                      rfl
                    case hqe6 => exact fun _ _ _ h => h
                    case hye6 => exact Or.inl ⟨by kernel_rfl, fun w hSw => by go_simp⟩
                    try simp only [Act.put, List.setIfInBounds_toArray, List.set_cons_zero, List.set_cons_succ]
                    refine wpAnyH_ready (rs := [7]) (by kernel_rfl) (by simp) ?_
                    refine (AllReadyH.cons (o := ?ooe7) ?hoe7 (fun K hK => ?hke7) AllReadyH.nil)
                    case hoe7 =>
                      simp only [List.getElem?_toArray, List.getElem?_cons_succ, List.getElem?_cons_zero]
                      rfl
                    case hke7 =>
                      go_simp
                      go_at_call 11
                      refine (hal wr.drew (Below.drew (Below.refl _ _))).mono ?_
                      rintro e y1 ⟨rfl, bq⟩
                      have Y1 : Hid (Below wr.heap.size wr y1) := Below.trans (Below.drew (Below.refl _ _)) bq
                      clear bq 
                      try go_wp2_with fail
                      refine hK.out _ _ (HS9.out _ Y1.out) (fun hHeld => ?_)
                      clear hK K
                      try simp only [Act.put, List.setIfInBounds_toArray, List.set_cons_zero, List.set_cons_succ]
                      refine wpAnyH_take (i := 8) (oi := ?oie8) (v := .int .i64 x2) ?hie8 (by kernel_rfl) (by kernel_rfl) (by kernel_rfl) ?hqe8 ?hye8 hHeld ?hre8
                      case hie8 =>
                        simp only [List.getElem?_toArray, List.getElem?_cons_succ, List.getElem?_cons_zero]
                        rfl
                      case hqe8 => exact fun _ _ _ h => h
                      case hye8 => exact Or.inl ⟨by kernel_rfl, fun w hSw => by go_simp⟩
                      try simp only [Act.put, List.setIfInBounds_toArray, List.set_cons_zero, List.set_cons_succ]
                      refine wpAnyH_done (by kernel_rfl) ?_ _
                      have HBE : Hid (Below z2.heap.size z2 y1) := low_step HBK.out Y1.out
                      have cA := cell_step (reads_cell RLs.out hi) (low_step HBX.out Y1.out)
                      clear hS9 hal
                      go_wp2_with fail
                      refine wp_region_held_drew (S := fun X => X.cell? ⟨gl, ol + i, none⟩ = some (.int .i64 (A[i]'hi))) (by kernel_rfl) cA (fun hHeld => ?_)
                      refine wpAnyH_take (i := 0) (oi := ?oif0) (v := .int .i64 x2) ?hif0 (by kernel_rfl) (by kernel_rfl) (by kernel_rfl) ?hqf0 ?hyf0 hHeld ?hrf0
                      case hif0 =>
                        simp only [List.getElem?_toArray, List.getElem?_cons_succ, List.getElem?_cons_zero]
                        rfl
                      case hqf0 => exact fun _ _ _ h => h
                      case hyf0 => exact Or.inl ⟨by kernel_rfl, fun w hSw => by go_simp⟩
                      try simp only [Act.put, List.setIfInBounds_toArray, List.set_cons_zero, List.set_cons_succ]
                      refine wpAnyH_take (i := 1) (oi := ?oif1) (v := .bool false) ?hif1 (by kernel_rfl) (by kernel_rfl) (by kernel_rfl) ?hqf1 ?hyf1 hHeld ?hrf1
                      case hif1 =>
                        simp only [List.getElem?_toArray, List.getElem?_cons_succ, List.getElem?_cons_zero]
                        rfl
                      case hqf1 => exact fun _ _ _ h => h
                      case hyf1 => exact Or.inl ⟨by kernel_rfl, fun w hSw => by go_simp⟩
                      try simp only [Act.put, List.setIfInBounds_toArray, List.set_cons_zero, List.set_cons_succ]
                      refine wpAnyH_take (i := 2) (oi := ?oif2) (v := .bool false) ?hif2 (by kernel_rfl) (by kernel_rfl) (by kernel_rfl) ?hqf2 ?hyf2 hHeld ?hrf2
                      case hif2 =>
                        simp only [List.getElem?_toArray, List.getElem?_cons_succ, List.getElem?_cons_zero]
                        rfl
                      case hqf2 => exact fun _ _ _ h => h
                      case hyf2 => exact Or.inl ⟨by kernel_rfl, fun w hSw => by go_simp⟩
                      try simp only [Act.put, List.setIfInBounds_toArray, List.set_cons_zero, List.set_cons_succ]
                      refine wpAnyH_take (i := 3) (oi := ?oif3) (v := .int .i64 x2) ?hif3 (by kernel_rfl) (by kernel_rfl) (by kernel_rfl) ?hqf3 ?hyf3 hHeld ?hrf3
                      case hif3 =>
                        simp only [List.getElem?_toArray, List.getElem?_cons_succ, List.getElem?_cons_zero]
                        rfl
                      case hqf3 => exact fun _ _ _ h => h
                      case hyf3 => exact Or.inl ⟨by kernel_rfl, fun w hSw => by go_simp⟩
                      try simp only [Act.put, List.setIfInBounds_toArray, List.set_cons_zero, List.set_cons_succ]
                      refine wpAnyH_take (i := 4) (oi := ?oif4) (v := .slice (some ⟨gl, ol, none⟩) A.length lc) ?hif4 (by kernel_rfl) (by kernel_rfl) (by kernel_rfl) ?hqf4 ?hyf4 hHeld ?hrf4
                      case hif4 =>
                        simp only [List.getElem?_toArray, List.getElem?_cons_succ, List.getElem?_cons_zero]
                        rfl
                      case hqf4 => exact fun _ _ _ h => h
                      case hyf4 => exact Or.inl ⟨by kernel_rfl, fun w hSw => by go_simp⟩
                      try simp only [Act.put, List.setIfInBounds_toArray, List.set_cons_zero, List.set_cons_succ]
                      refine wpAnyH_take (i := 5) (oi := ?oif5) (v := .int .i64 (i : Int)) ?hif5 (by kernel_rfl) (by kernel_rfl) (by kernel_rfl) ?hqf5 ?hyf5 hHeld ?hrf5
                      case hif5 =>
                        simp only [List.getElem?_toArray, List.getElem?_cons_succ, List.getElem?_cons_zero]
                        rfl
                      case hqf5 => exact fun _ _ _ h => h
                      case hyf5 => exact Or.inl ⟨by kernel_rfl, fun w hSw => by go_simp⟩
                      try simp only [Act.put, List.setIfInBounds_toArray, List.set_cons_zero, List.set_cons_succ]
                      refine wpAnyH_take (i := 6) (oi := ?oif6) (v := .pointer (some ⟨gl, ol + i, none⟩)) ?hif6 (by kernel_rfl) (by kernel_rfl) (by kernel_rfl) ?hqf6 ?hyf6 hHeld ?hrf6
                      case hif6 =>
                        simp only [List.getElem?_toArray, List.getElem?_cons_succ, List.getElem?_cons_zero]
                        rfl
                      case hqf6 => exact fun _ _ _ h => h
                      case hyf6 => exact Or.inl ⟨by kernel_rfl, fun w hSw => by go_simp⟩
                      try simp only [Act.put, List.setIfInBounds_toArray, List.set_cons_zero, List.set_cons_succ]
                      refine wpAnyH_take (i := 7) (oi := ?oif7) (v := .int .i64 (A[i]'hi)) ?hif7 (by kernel_rfl) (by kernel_rfl) (by kernel_rfl) ?hqf7 ?hyf7 hHeld ?hrf7
                      case hif7 =>
                        simp only [List.getElem?_toArray, List.getElem?_cons_succ, List.getElem?_cons_zero]
                        rfl
                      case hqf7 => exact fun _ _ _ h => h
                      case hyf7 => exact Or.inl ⟨by kernel_rfl, fun w hSw => by go_simp⟩
                      try simp only [Act.put, List.setIfInBounds_toArray, List.set_cons_zero, List.set_cons_succ]
                      refine wpAnyH_take (i := 8) (oi := ?oif8) (v := .int .i64 (A[i]'hi)) ?hif8 (by kernel_rfl) (by kernel_rfl) (by kernel_rfl) ?hqf8 ?hyf8 hHeld ?hrf8
                      case hif8 =>
                        simp only [List.getElem?_toArray, List.getElem?_cons_succ, List.getElem?_cons_zero]
                        rfl
                      case hqf8 => exact fun _ _ _ h => h
                      case hyf8 => exact Or.inl ⟨by kernel_rfl, fun w hSw => by go_simp; (try rw [hor])⟩
                      try simp only [Act.put, List.setIfInBounds_toArray, List.set_cons_zero, List.set_cons_succ]
                      refine wpAnyH_take (i := 9) (oi := ?oif9) (v := .slice (some ⟨gl, ol, none⟩) A.length lc) ?hif9 (by kernel_rfl) (by kernel_rfl) (by kernel_rfl) ?hqf9 ?hyf9 hHeld ?hrf9
                      case hif9 =>
                        simp only [List.getElem?_toArray, List.getElem?_cons_succ, List.getElem?_cons_zero]
                        rfl
                      case hqf9 => exact fun _ _ _ h => h
                      case hyf9 => exact Or.inl ⟨by kernel_rfl, fun w hSw => by go_simp⟩
                      try simp only [Act.put, List.setIfInBounds_toArray, List.set_cons_zero, List.set_cons_succ]
                      refine wpAnyH_take (i := 10) (oi := ?oif10) (v := .int .i64 (i : Int)) ?hif10 (by kernel_rfl) (by kernel_rfl) (by kernel_rfl) ?hqf10 ?hyf10 hHeld ?hrf10
                      case hif10 =>
                        simp only [List.getElem?_toArray, List.getElem?_cons_succ, List.getElem?_cons_zero]
                        rfl
                      case hqf10 => exact fun _ _ _ h => h
                      case hyf10 => exact Or.inl ⟨by kernel_rfl, fun w hSw => by go_simp⟩
                      try simp only [Act.put, List.setIfInBounds_toArray, List.set_cons_zero, List.set_cons_succ]
                      refine wpAnyH_take (i := 11) (oi := ?oif11) (v := .pointer (some ⟨gl, ol + i, none⟩)) ?hif11 (by kernel_rfl) (by kernel_rfl) (by kernel_rfl) ?hqf11 ?hyf11 hHeld ?hrf11
                      case hif11 =>
                        simp only [List.getElem?_toArray, List.getElem?_cons_succ, List.getElem?_cons_zero]
                        rfl
                      case hqf11 => exact fun _ _ _ h => h
                      case hyf11 => exact Or.inl ⟨by kernel_rfl, fun w hSw => by go_simp⟩
                      try simp only [Act.put, List.setIfInBounds_toArray, List.set_cons_zero, List.set_cons_succ]
                      refine wpAnyH_take (i := 12) (oi := ?oif12) (v := .int .i64 (A[i]'hi)) ?hif12 (by kernel_rfl) (by kernel_rfl) (by kernel_rfl) ?hqf12 ?hyf12 hHeld ?hrf12
                      case hif12 =>
                        simp only [List.getElem?_toArray, List.getElem?_cons_succ, List.getElem?_cons_zero]
                        rfl
                      case hqf12 => exact fun _ _ _ h => h
                      case hyf12 => exact Or.inl ⟨by kernel_rfl, fun w hSw => by go_simp⟩
                      try simp only [Act.put, List.setIfInBounds_toArray, List.set_cons_zero, List.set_cons_succ]
                      refine wpAnyH_take (i := 13) (oi := ?oif13) (v := .bool false) ?hif13 (by kernel_rfl) (by kernel_rfl) (by kernel_rfl) ?hqf13 ?hyf13 hHeld ?hrf13
                      case hif13 =>
                        simp only [List.getElem?_toArray, List.getElem?_cons_succ, List.getElem?_cons_zero]
                        rfl
                      case hqf13 => exact fun _ _ _ h => h
                      case hyf13 => exact Or.inl ⟨by kernel_rfl, fun w hSw => by go_simp⟩
                      try simp only [Act.put, List.setIfInBounds_toArray, List.set_cons_zero, List.set_cons_succ]
                      refine wpAnyH_take (i := 14) (oi := ?oif14) (v := .bool false) ?hif14 (by kernel_rfl) (by kernel_rfl) (by kernel_rfl) ?hqf14 ?hyf14 hHeld ?hrf14
                      case hif14 =>
                        simp only [List.getElem?_toArray, List.getElem?_cons_succ, List.getElem?_cons_zero]
                        rfl
                      case hqf14 => exact fun _ _ _ h => h
                      case hyf14 => exact Or.inl ⟨by kernel_rfl, fun w hSw => by go_simp⟩
                      try simp only [Act.put, List.setIfInBounds_toArray, List.set_cons_zero, List.set_cons_succ]
                      refine wpAnyH_done (by kernel_rfl) ?_ _
                      go_wp2
                      go_roundw
                      case rel => exact ⟨k + 1, by omega, by go_num, HBE.out.drew⟩
                      case measure => simp [intOf]; omega
                  · obtain rfl : k = WS.length := by omega
                    have hnk : ¬ (WS.length : Int) < (WS.length : Int) := by omega
                    clear hbr
                    go_wp2
                    go_roundw
                    case rel => exact ⟨i + 1, by omega, by go_num, HBX.out⟩
                    case measure => simp [intOf]; omega
              · obtain rfl : i = A.length := by omega
                have hni : ¬ (A.length : Int) < (A.length : Int) := by omega
                have hcv := implCovers ss c s A (.slice pa ss.length pc) (.slice (some ⟨gl, ol, none⟩) A.length lc) wr hsm hAm (reads3_below RPs.out hbr) (reads_below RLs.out hbr)
                rw [covers_ok HA.out (by omega)] at hcv
                have HLE : Hid (Below w.heap.size w wr) := low_step LWs.out hbr
                clear hbr
                go_wp2_with fail
                go_at_call 14
                refine hcv.mono ?_
                rintro r z9 ⟨rfl, bz⟩
                have HE : Hid (Below w.heap.size w z9) := low_step HLE.out bz
                clear bz hcv
                go_wp2
                go_ret
                exact ⟨rfl, HE.out⟩

set_option maxRecDepth 100000 in
theorem liftedFnKildall (os : Os) (started : os.Started) (H : Type) (enc : TypeId × Value → H) :
    ReturnsInHanded {} Try.checked os 3 .any (Rows.fnKildallSpec.pre6 enc Try.prog Try.f3 Rows.fnKildallRow.domain false) (Rows.fnKildallSpec.post enc Try.prog Try.f3 false true false false) := by
  refine returnsInHanded_of_change (C := Try.checked) own started (by kernel_rfl) Try.func3
    (ChangeSpec.witness6 (enc := enc) (C := Try.checked) false ⟨#[], #[.slice none 0 0], []⟩ 8 (by kernel_rfl) (by kernel_rfl) (by kernel_rfl) (by kernel_rfl)) ?_
  intro W base args ds gs before hval0 hW hcnd _
  have hval : ∀ (j : Nat) t v, Try.f3.params[j]? = some t → args[j]? = some v → Value.okWide Try.prog W .any base t v := hval0
  have hW' := hW
  obtain ⟨p, q, hA0, hV, rfl, hfz, hnd⟩ := hW
  have hA : DataW.TrodAll enc Try.prog W 0 (fun _ => true) true Try.f3.params.toList args.toList ds p := hA0
  rw [Try.params3] at hA hval
  obtain ⟨v0, vs0, d0, ds0, p0, q0, hargs, rfl, rfl, h0, r0⟩ := trodAll_cons hA
  obtain ⟨rfl, rfl, rfl⟩ := trodAll_nil r0
  obtain rfl : args = #[v0] := by cases args; simp_all
  obtain ⟨rfl, rfl⟩ := trodVars_none hV
  obtain ⟨bs, hr, hl, hs⟩ := open_code Try.underlying22 Try.underlying5 cellsByte (hval 0 22 v0 rfl rfl) h0
  refine (walkFnKildall bs v0 W hl hr).mono fun e W' ⟨he, hb⟩ => ?_
  subst he
  refine ⟨_, rfl, law_post (tb := 4) laidOut ?_ hW' rfl Try.underlying4 rfl rfl hb⟩
  exact all_readable (P := Try.prog) (by kernel_rfl)

theorem overFnKildall : Rows.fnKildallRow.holds Try.pinned (OpenSpec.ofChange Rows.fnKildallSpec) :=
  OpenClaim.holds_of_wide 3 Try.f3 rfl rfl rfl rfl rfl rfl rfl ⟨rfl, rfl, rfl, rfl, rfl⟩ rfl rfl rfl rfl rfl (by kernel_rfl) Try.func3 (by kernel_rfl)
    (of_decide_eq_true (by kernel_rfl)) (by unfold Func.isWrapper; first | (rw [if_pos (by decide +kernel)]; kernel_rfl) | (rw [if_neg (by decide +kernel)]; exact ⟨rfl, rfl⟩))
    (fun os started H enc _ => liftedFnKildall os started H enc)

/-- ████ THE STATEMENT ████ -/
theorem fnKildallHolds : Rows.FnKildallSaid :=
  overFnKildall
#print axioms fnKildallHolds

end Go.Proofs.Ytebadimjpbhagaa
