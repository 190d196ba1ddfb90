/-
  The law FnInner.
-/
import Derived.Test.YtgandekciocalaaDrawProgs2
import Derived.Test.YtgandekciocalaaImplInner
import Derived.Test.YtgandekciocalaaSpecTop
import Derived.Test.YtgandekciocalaaG51NextBoth
import Derived.Test.YtgandekciocalaaG09RelOk
import Derived.Test.YtgandekciocalaaImplTables
import Derived.Test.YtgandekciocalaaG52FnKit
import Derived.Test.YtgandekciocalaaRelTop
import Derived.Test.YtgandekciocalaaG22Progs
namespace Go.Proofs.Ytgandekciocalaa
open Go.ChangeShapes Go.WideShapes Go.ChangeAt Go.RowKit
set_option linter.unusedVariables false
set_option linter.unusedSimpArgs false
set_option maxHeartbeats 8000000
set_option maxRecDepth 20000
theorem cell_ltI {W : World} {b o : Nat} {x : Value} (h : W.cell? ⟨b, o, none⟩ = some x) : b < W.heap.size := by
  unfold World.cell? at h
  cases e : W.heap[b]? with
  | none => simp [e] at h
  | some _ => exact (Array.getElem?_eq_some_iff.1 e).1
theorem drawn_lensI {ps : List (List Stm)} {L : List Nat} (h : ps.map List.length = L) (h5 : L.length ≤ 5) (h14 : ∀ n ∈ L, n ≤ 14) : ps.length ≤ maxLen ∧ ∀ p ∈ ps, p.length ≤ maxLen := by
  subst h
  refine ⟨by simp at h5; unfold maxLen; omega, fun p hp => ?_⟩
  have := h14 p.length (List.mem_map_of_mem hp)
  unfold maxLen
  omega
theorem three_inI {w : World} {b : Nat} {x0 x1 x2 : Value} {T : TypeId} (h : w.heap[b]? = some (.cells #[x0, x1, x2] T (0, 0))) :
    w.cell? ⟨b, 0, none⟩ = some x0 ∧ w.cell? ⟨b, 1, none⟩ = some x1 ∧ w.cell? ⟨b, 2, none⟩ = some x2 := by
  refine ⟨?_, ?_, ?_⟩ <;> simp [World.cell?, h]

theorem walkFnInner (bs : List Int) (v : Value) (w : World) (hl : bs.length ≤ maxLen) (hv : Reads w v (bs.map (Value.int .u8))) :
    Calls Try.prog 4 #[v] w fun e w' => e = .returned (.bool true) ∧ Below w.heap.size w w' := by
  have hbig := lawBig bs v w hl hv
  by_cases hb : (4096 : Int) < (bs.length : Int)
  · rw [decide_eq_true hb] at hbig
    go_enter Try.func4, Try.ntmps4
    go_wp2_with (go_at_call 5; refine hbig.mono ?_; rintro e w1 ⟨rfl, rfl⟩)
    go_ret
    exact ⟨rfl, Below.refl _ _⟩
  rw [decide_eq_false hb] at hbig
  go_enter Try.func4, Try.ntmps4
  go_wp2_with fail
  go_at_call 5
  refine hbig.mono ?_
  rintro e w1 ⟨rfl, rfl⟩
  clear hbig
  go_wp2_with fail
  go_at_call 16
  refine (drawInner bs v w (by omega) hv).mono ?_
  rintro r w1 ⟨u, LL, c, j0, rfl, h5, h14, pr, b1⟩
  obtain ⟨ps, rp, hpL⟩ := pr.reads
  obtain ⟨hps, hpe⟩ := drawn_lensI hpL h5 h14
  obtain ⟨ua, un, uc, rfl⟩ := pr.slice
  obtain ⟨A, hA⟩ := innA_some ps c j0
  have HA : Hid (InnA ps c j0 A) := hA
  obtain ⟨hAl, hAx⟩ := innA_len hA
  have hAm : A.length ≤ maxLen := by unfold maxLen; omega
  have hAxm : ∀ xs ∈ A, xs.length ≤ maxLen := fun xs hx => by have := hAx xs hx; unfold maxLen; omega
  clear hA
  have RV : Hid (Reads w1 v (bs.map (Value.int .u8))) := reads_below hv b1
  have LW : Hid (Below w.heap.size w w1) := b1
  have RP : Hid (ReadsP w1 (.slice ua un uc) ps) := rp
  clear pr rp b1 hpL h5 h14
  obtain ⟨w2, hAw2⟩ : ∃ W, w1.alloc (.cells #[.slice ua un uc] 26) = W := ⟨_, rfl⟩
  have bb : Below w1.heap.size w1 w2 := by rw [← hAw2]; go_grown
  obtain ⟨bP, hBw2⟩ : ∃ n, w1.heap.size = n := ⟨_, rfl⟩
  have Pn : Hid (w2.heap[bP]? = some (.cells #[.slice ua un uc] 26 (0, 0))) := by
    show w2.heap[bP]? = _
    rw [← hAw2, ← hBw2]; exact heap_alloc_new w1 _
  have RVx : Hid (Reads w2 v (bs.map (Value.int .u8))) := reads_below RV.out bb
  have LWx : Hid (Below w.heap.size w w2) := low_step LW.out bb
  have RPx : Hid (ReadsP w2 (.slice ua un uc) ps) := readsP_below RP.out bb
  clear RV LW RP
  have RV : Hid (Reads w2 v (bs.map (Value.int .u8))) := RVx.out
  have LW : Hid (Below w.heap.size w w2) := LWx.out
  have RP : Hid (ReadsP w2 (.slice ua un uc) ps) := RPx.out
  clear RVx LWx RPx
  clear bb
  have P : Hid (w2.heap[bP]? = some (.cells #[.slice ua un uc] 26 (0, 0))) := Pn.out
  clear Pn
  obtain ⟨cP, -⟩ := one_cell P.out
  have hcall := implInner ps c j0 A HA.out (.slice ua un uc) w2 hps hpe RP.out
  go_wp2_with fail
  go_at_call 17
  clear hAw2 hBw2
  refine hcall.mono ?_
  rintro r w3 ⟨lv, lus, rfl, ol, _, bc⟩
  clear hcall cP
  have RVx : Hid (Reads w3 v (bs.map (Value.int .u8))) := reads_below RV.out bc
  have LWx : Hid (Below w.heap.size w w3) := low_step LW.out bc
  have RPx : Hid (ReadsP w3 (.slice ua un uc) ps) := readsP_below RP.out bc
  have Px : Hid (w3.heap[bP]? = some (.cells #[.slice ua un uc] 26 (0, 0))) := box_step P.out bc
  clear RV LW RP P
  have RV : Hid (Reads w3 v (bs.map (Value.int .u8))) := RVx.out
  have LW : Hid (Below w.heap.size w w3) := LWx.out
  have RP : Hid (ReadsP w3 (.slice ua un uc) ps) := RPx.out
  have P : Hid (w3.heap[bP]? = some (.cells #[.slice ua un uc] 26 (0, 0))) := Px.out
  clear RVx LWx RPx Px
  obtain ⟨la, ln, lc, rfl⟩ := own_slice ol.row
  have hln : ln = A.length := by obtain ⟨_, _, e, _⟩ := ol.reads; injection e
  subst hln
  have OL : Hid (OwnSS w3 (w2.heap.size) (.slice la A.length lc) lus A) := ol
  clear ol bc
  have hcall := drawEffect bs v w3 (by omega) RV.out
  go_wp2_with fail
  go_at_call 18
  refine hcall.mono ?_
  rintro r w4 ⟨uq, LQ, n, sk, sx, sy, rfl, hq5, hq14, prq, bc⟩
  clear hcall
  have RVx : Hid (Reads w4 v (bs.map (Value.int .u8))) := reads_below RV.out bc
  have LWx : Hid (Below w.heap.size w w4) := low_step LW.out bc
  have RPx : Hid (ReadsP w4 (.slice ua un uc) ps) := readsP_below RP.out bc
  have Px : Hid (w4.heap[bP]? = some (.cells #[.slice ua un uc] 26 (0, 0))) := box_step P.out bc
  have OLx : Hid (OwnSS w4 (w2.heap.size) (.slice la A.length lc) lus A) := OwnSS.below OL.out bc
  clear RV LW RP P OL
  have RV : Hid (Reads w4 v (bs.map (Value.int .u8))) := RVx.out
  have LW : Hid (Below w.heap.size w w4) := LWx.out
  have RP : Hid (ReadsP w4 (.slice ua un uc) ps) := RPx.out
  have P : Hid (w4.heap[bP]? = some (.cells #[.slice ua un uc] 26 (0, 0))) := Px.out
  have OL : Hid (OwnSS w4 (w2.heap.size) (.slice la A.length lc) lus A) := OLx.out
  clear RVx LWx RPx Px OLx
  obtain ⟨qs, rq, hqL⟩ := prq.reads
  obtain ⟨hqs, hqe⟩ := drawn_lensI hqL hq5 hq14
  obtain ⟨qa, qn, qc, rfl⟩ := prq.slice
  obtain ⟨EA, hEA, hE7⟩ := effA_some qs n ⟨sk, sx, sy⟩
  have hEm : EA.length ≤ maxLen := by unfold maxLen; omega
  clear RV
  have RQ : Hid (ReadsP w4 (.slice qa qn qc) qs) := rq
  clear prq rq bc hqL hq5 hq14
  obtain ⟨w5, hAw5⟩ : ∃ W, (w4.alloc (.cells #[.slice qa qn qc] 26)).alloc (.cells #[.int .i64 sk, .int .i64 sx, .int .i64 sy] 43) = W := ⟨_, rfl⟩
  have bb : Below w4.heap.size w4 w5 := by rw [← hAw5]; go_grown
  obtain ⟨bQ, hBw5⟩ : ∃ n, w4.heap.size = n := ⟨_, rfl⟩
  have Qn : Hid (w5.heap[bQ]? = some (.cells #[.slice qa qn qc] 26 (0, 0))) := by
    show w5.heap[bQ]? = _
    rw [← hAw5, ← hBw5, old_block (by simp)]; exact heap_alloc_new w4 _
  have Sn : Hid (w5.heap[bQ + 1]? = some (.cells #[.int .i64 sk, .int .i64 sx, .int .i64 sy] 43 (0, 0))) := by
    show w5.heap[bQ + 1]? = _
    rw [← hAw5, ← hBw5]
    have h9 := heap_alloc_new (w4.alloc (.cells #[.slice qa qn qc] 26)) (.cells #[.int .i64 sk, .int .i64 sx, .int .i64 sy] 43)
    simpa using h9
  have LWx : Hid (Below w.heap.size w w5) := low_step LW.out bb
  have RPx : Hid (ReadsP w5 (.slice ua un uc) ps) := readsP_below RP.out bb
  have Px : Hid (w5.heap[bP]? = some (.cells #[.slice ua un uc] 26 (0, 0))) := box_step P.out bb
  have OLx : Hid (OwnSS w5 (w2.heap.size) (.slice la A.length lc) lus A) := OwnSS.below OL.out bb
  have RQx : Hid (ReadsP w5 (.slice qa qn qc) qs) := readsP_below RQ.out bb
  clear LW RP P OL RQ
  have LW : Hid (Below w.heap.size w w5) := LWx.out
  have RP : Hid (ReadsP w5 (.slice ua un uc) ps) := RPx.out
  have P : Hid (w5.heap[bP]? = some (.cells #[.slice ua un uc] 26 (0, 0))) := Px.out
  have OL : Hid (OwnSS w5 (w2.heap.size) (.slice la A.length lc) lus A) := OLx.out
  have RQ : Hid (ReadsP w5 (.slice qa qn qc) qs) := RQx.out
  clear LWx RPx Px OLx RQx
  clear bb
  have Q : Hid (w5.heap[bQ]? = some (.cells #[.slice qa qn qc] 26 (0, 0))) := Qn.out
  clear Qn
  have S : Hid (w5.heap[bQ + 1]? = some (.cells #[.int .i64 sk, .int .i64 sx, .int .i64 sy] 43 (0, 0))) := Sn.out
  clear Sn
  have HS : Hid (∀ X, Below w5.heap.size w5 X → X.cell? ⟨bP, 0, none⟩ = some (.slice ua un uc) ∧ X.cell? ⟨bQ, 0, none⟩ = some (.slice qa qn qc) ∧ X.cell? ⟨bQ + 1, 0, none⟩ = some (.int .i64 sk) ∧ X.cell? ⟨bQ + 1, 1, none⟩ = some (.int .i64 sx) ∧ X.cell? ⟨bQ + 1, 2, none⟩ = some (.int .i64 sy)) := fun X hX => by
    obtain ⟨a1, _⟩ := one_cell (box_step P.out hX)
    obtain ⟨a2, _⟩ := one_cell (box_step Q.out hX)
    obtain ⟨a3, a4, a5⟩ := three_inI (box_step S.out hX)
    exact ⟨a1, a2, a3, a4, a5⟩
  have hS0 := HS.out w5 (Below.refl _ _)
  have hsi := fun X (hX : Below w5.heap.size w5 X) => specInner ps c j0 A HA.out (.slice ua un uc) X hps hpe (readsP_below RP.out hX)
  have hie := fun X (hX : Below w5.heap.size w5 X) => implEffect qs n ⟨sk, sx, sy⟩ EA hEA (.slice qa qn qc) X hqs hqe (readsP_below RQ.out hX)
  have hse := fun X (hX : Below w5.heap.size w5 X) => specEffect qs n ⟨sk, sx, sy⟩ EA hEA (.slice qa qn qc) X hqs hqe (readsP_below RQ.out hX)
  clear hEA
  obtain ⟨c1, c2, c3, c4, c5⟩ := id hS0
  go_wp2_with fail
  clear hAw5 hBw5
  refine wp_region_held_drew (S := fun X => X.cell? ⟨bP, 0, none⟩ = some (.slice ua un uc) ∧ X.cell? ⟨bQ, 0, none⟩ = some (.slice qa qn qc) ∧ X.cell? ⟨bQ + 1, 0, none⟩ = some (.int .i64 sk) ∧ X.cell? ⟨bQ + 1, 1, none⟩ = some (.int .i64 sx) ∧ X.cell? ⟨bQ + 1, 2, none⟩ = some (.int .i64 sy)) (by kernel_rfl) hS0 (fun hHeld => ?_)
  refine wpAnyH_take (i := 0) (oi := ?oia0) (v := .slice la A.length lc) ?hia0 (by kernel_rfl) (by kernel_rfl) (by kernel_rfl) ?hqa0 ?hya0 hHeld ?hra0
  case hia0 =>
    simp only [List.getElem?_toArray, List.getElem?_cons_succ, List.getElem?_cons_zero]
    rfl
  case hqa0 => exact fun _ _ _ h => h
  case hya0 => exact Or.inl ⟨by kernel_rfl, fun w hSw => by go_simp⟩
  try simp only [Act.put, List.setIfInBounds_toArray, List.set_cons_zero, List.set_cons_succ]
  refine wpAnyH_take (i := 1) (oi := ?oia1) (v := .agg #[.slice ua un uc]) ?hia1 (by kernel_rfl) (by kernel_rfl) (by kernel_rfl) ?hqa1 ?hya1 hHeld ?hra1
  case hia1 =>
    simp only [List.getElem?_toArray, List.getElem?_cons_succ, List.getElem?_cons_zero]
    rfl
  case hqa1 => exact fun _ _ _ h => h
  case hya1 => exact Or.inl ⟨by kernel_rfl, fun w hSw => by obtain ⟨s0, s1, s2, s3, s4⟩ := hSw; go_simp⟩
  try simp only [Act.put, List.setIfInBounds_toArray, List.set_cons_zero, List.set_cons_succ]
  refine wpAnyH_take (i := 2) (oi := ?oia2) (v := .int .i64 c) ?hia2 (by kernel_rfl) (by kernel_rfl) (by kernel_rfl) ?hqa2 ?hya2 hHeld ?hra2
  case hia2 =>
    simp only [List.getElem?_toArray, List.getElem?_cons_succ, List.getElem?_cons_zero]
    rfl
  case hqa2 => exact fun _ _ _ h => h
  case hya2 => exact Or.inl ⟨by kernel_rfl, fun w hSw => by go_simp⟩
  try simp only [Act.put, List.setIfInBounds_toArray, List.set_cons_zero, List.set_cons_succ]
  refine wpAnyH_take (i := 3) (oi := ?oia3) (v := .int .i64 j0) ?hia3 (by kernel_rfl) (by kernel_rfl) (by kernel_rfl) ?hqa3 ?hya3 hHeld ?hra3
  case hia3 =>
    simp only [List.getElem?_toArray, List.getElem?_cons_succ, List.getElem?_cons_zero]
    rfl
  case hqa3 => exact fun _ _ _ h => h
  case hya3 => exact Or.inl ⟨by kernel_rfl, fun w hSw => by go_simp⟩
  try simp only [Act.put, List.setIfInBounds_toArray, List.set_cons_zero, List.set_cons_succ]
  refine wpAnyH_ready (rs := [4]) (by kernel_rfl) (by simp) ?_
  refine (AllReadyH.cons (o := ?ooa4) ?hoa4 (fun K hK => ?hka4) AllReadyH.nil)
  case hoa4 =>
    simp only [List.getElem?_toArray, List.getElem?_cons_succ, List.getElem?_cons_zero]
    rfl
  case hka4 =>
    go_simp
    go_at_call 19
    refine (hsi w5.drew (Below.drew (Below.refl _ _))).mono ?_
    rintro e x1 ⟨sv, sus, rfl, os1, b1⟩
    have X1 : Hid (Below w5.heap.size w5 x1) := Below.trans (Below.drew (Below.refl _ _)) b1
    have OS : Hid (ReadsSS x1 sv A) := os1.reads
    clear os1 b1
    try go_wp2_with fail
    refine hK.out _ _ (HS.out _ X1.out) (fun hHeld => ?_)
    clear hK K
    try simp only [Act.put, List.setIfInBounds_toArray, List.set_cons_zero, List.set_cons_succ]
    refine wpAnyH_ready (rs := [5]) (by kernel_rfl) (by simp) ?_
    refine (AllReadyH.cons (o := ?ooa5) ?hoa5 (fun K hK => ?hka5) AllReadyH.nil)
    case hoa5 =>
      simp only [List.getElem?_toArray, List.getElem?_cons_succ, List.getElem?_cons_zero]
      rfl
    case hka5 =>
      go_simp
      go_at_call 10
      refine (likeLists A _ _ x1 hAm hAxm (OL.out.below X1.out).reads OS.out).mono ?_
      rintro e x2 ⟨rfl, b2⟩
      have X2 : Hid (Below w5.heap.size w5 x2) := low_step X1.out b2
      clear b2 OS
      try go_wp2_with fail
      refine hK.out _ _ (HS.out _ X2.out) (fun hHeld => ?_)
      clear hK K
      try simp only [Act.put, List.setIfInBounds_toArray, List.set_cons_zero, List.set_cons_succ]
      refine wpAnyH_take (i := 6) (oi := ?oia6) (v := .bool false) ?hia6 (by kernel_rfl) (by kernel_rfl) (by kernel_rfl) ?hqa6 ?hya6 hHeld ?hra6
      case hia6 =>
        simp only [List.getElem?_toArray, List.getElem?_cons_succ, List.getElem?_cons_zero]
        rfl
      case hqa6 => exact fun _ _ _ h => h
      case hya6 => exact Or.inl ⟨by kernel_rfl, fun w hSw => by go_simp⟩
      try simp only [Act.put, List.setIfInBounds_toArray, List.set_cons_zero, List.set_cons_succ]
      refine wpAnyH_take (i := 7) (oi := ?oia7) (v := .bool false) ?hia7 (by kernel_rfl) (by kernel_rfl) (by kernel_rfl) ?hqa7 ?hya7 hHeld ?hra7
      case hia7 =>
        simp only [List.getElem?_toArray, List.getElem?_cons_succ, List.getElem?_cons_zero]
        rfl
      case hqa7 => exact fun _ _ _ h => h
      case hya7 => exact Or.inl ⟨by kernel_rfl, fun w hSw => by go_simp⟩
      try simp only [Act.put, List.setIfInBounds_toArray, List.set_cons_zero, List.set_cons_succ]
      refine wpAnyH_take (i := 8) (oi := ?oia8) (v := .agg #[.slice qa qn qc]) ?hia8 (by kernel_rfl) (by kernel_rfl) (by kernel_rfl) ?hqa8 ?hya8 hHeld ?hra8
      case hia8 =>
        simp only [List.getElem?_toArray, List.getElem?_cons_succ, List.getElem?_cons_zero]
        rfl
      case hqa8 => exact fun _ _ _ h => h
      case hya8 => exact Or.inl ⟨by kernel_rfl, fun w hSw => by obtain ⟨s0, s1, s2, s3, s4⟩ := hSw; go_simp⟩
      try simp only [Act.put, List.setIfInBounds_toArray, List.set_cons_zero, List.set_cons_succ]
      refine wpAnyH_take (i := 9) (oi := ?oia9) (v := .int .i64 n) ?hia9 (by kernel_rfl) (by kernel_rfl) (by kernel_rfl) ?hqa9 ?hya9 hHeld ?hra9
      case hia9 =>
        simp only [List.getElem?_toArray, List.getElem?_cons_succ, List.getElem?_cons_zero]
        rfl
      case hqa9 => exact fun _ _ _ h => h
      case hya9 => exact Or.inl ⟨by kernel_rfl, fun w hSw => by go_simp⟩
      try simp only [Act.put, List.setIfInBounds_toArray, List.set_cons_zero, List.set_cons_succ]
      refine wpAnyH_take (i := 10) (oi := ?oia10) (v := .agg #[.int .i64 sk, .int .i64 sx, .int .i64 sy]) ?hia10 (by kernel_rfl) (by kernel_rfl) (by kernel_rfl) ?hqa10 ?hya10 hHeld ?hra10
      case hia10 =>
        simp only [List.getElem?_toArray, List.getElem?_cons_succ, List.getElem?_cons_zero]
        rfl
      case hqa10 => exact fun _ _ _ h => h
      case hya10 => exact Or.inl ⟨by kernel_rfl, fun w hSw => by obtain ⟨s0, s1, s2, s3, s4⟩ := hSw; go_simp⟩
      try simp only [Act.put, List.setIfInBounds_toArray, List.set_cons_zero, List.set_cons_succ]
      refine wpAnyH_take (i := 12) (oi := ?oia12) (v := .agg #[.slice qa qn qc]) ?hia12 (by kernel_rfl) (by kernel_rfl) (by kernel_rfl) ?hqa12 ?hya12 hHeld ?hra12
      case hia12 =>
        simp only [List.getElem?_toArray, List.getElem?_cons_succ, List.getElem?_cons_zero]
        rfl
      case hqa12 => exact fun _ _ _ h => h
      case hya12 => exact Or.inl ⟨by kernel_rfl, fun w hSw => by obtain ⟨s0, s1, s2, s3, s4⟩ := hSw; go_simp⟩
      try simp only [Act.put, List.setIfInBounds_toArray, List.set_cons_zero, List.set_cons_succ]
      refine wpAnyH_take (i := 13) (oi := ?oia13) (v := .int .i64 n) ?hia13 (by kernel_rfl) (by kernel_rfl) (by kernel_rfl) ?hqa13 ?hya13 hHeld ?hra13
      case hia13 =>
        simp only [List.getElem?_toArray, List.getElem?_cons_succ, List.getElem?_cons_zero]
        rfl
      case hqa13 => exact fun _ _ _ h => h
      case hya13 => exact Or.inl ⟨by kernel_rfl, fun w hSw => by go_simp⟩
      try simp only [Act.put, List.setIfInBounds_toArray, List.set_cons_zero, List.set_cons_succ]
      refine wpAnyH_take (i := 14) (oi := ?oia14) (v := .agg #[.int .i64 sk, .int .i64 sx, .int .i64 sy]) ?hia14 (by kernel_rfl) (by kernel_rfl) (by kernel_rfl) ?hqa14 ?hya14 hHeld ?hra14
      case hia14 =>
        simp only [List.getElem?_toArray, List.getElem?_cons_succ, List.getElem?_cons_zero]
        rfl
      case hqa14 => exact fun _ _ _ h => h
      case hya14 => exact Or.inl ⟨by kernel_rfl, fun w hSw => by obtain ⟨s0, s1, s2, s3, s4⟩ := hSw; go_simp⟩
      try simp only [Act.put, List.setIfInBounds_toArray, List.set_cons_zero, List.set_cons_succ]
      refine wpAnyH_ready (rs := [11]) (by kernel_rfl) (by simp) ?_
      refine (AllReadyH.cons (o := ?ooa11) ?hoa11 (fun K hK => ?hka11) AllReadyH.nil)
      case hoa11 =>
        simp only [List.getElem?_toArray, List.getElem?_cons_succ, List.getElem?_cons_zero]
        rfl
      case hka11 =>
        go_simp
        go_at_call 21
        refine (hie x2 X2.out).mono ?_
        rintro e x3 ⟨ev, rfl, oe, b3⟩
        have X3 : Hid (Below w5.heap.size w5 x3) := low_step X2.out b3
        have OE : Hid (Reads x3 ev (ints EA)) := reads_own oe
        clear b3 oe
        try go_wp2_with fail
        refine hK.out _ _ (HS.out _ X3.out) (fun hHeld => ?_)
        clear hK K
        try simp only [Act.put, List.setIfInBounds_toArray, List.set_cons_zero, List.set_cons_succ]
        refine wpAnyH_ready (rs := [15]) (by kernel_rfl) (by simp) ?_
        refine (AllReadyH.cons (o := ?ooa15) ?hoa15 (fun K hK => ?hka15) AllReadyH.nil)
        case hoa15 =>
          simp only [List.getElem?_toArray, List.getElem?_cons_succ, List.getElem?_cons_zero]
          rfl
        case hka15 =>
          go_simp
          go_at_call 22
          refine (hse x3 X3.out).mono ?_
          rintro e x4 ⟨fv, rfl, of4, b4⟩
          have X4 : Hid (Below w5.heap.size w5 x4) := low_step X3.out b4
          have OE4 : Hid (Reads x4 ev (ints EA)) := reads_below OE.out b4
          have OF : Hid (Reads x4 fv (ints EA)) := reads_own of4
          clear b4 of4 OE
          try go_wp2_with fail
          refine hK.out _ _ (HS.out _ X4.out) (fun hHeld => ?_)
          clear hK K
          try simp only [Act.put, List.setIfInBounds_toArray, List.set_cons_zero, List.set_cons_succ]
          refine wpAnyH_ready (rs := [16]) (by kernel_rfl) (by simp) ?_
          refine (AllReadyH.cons (o := ?ooa16) ?hoa16 (fun K hK => ?hka16) AllReadyH.nil)
          case hoa16 =>
            simp only [List.getElem?_toArray, List.getElem?_cons_succ, List.getElem?_cons_zero]
            rfl
          case hka16 =>
            go_simp
            go_at_call 20
            refine (likeInts EA ev fv x4 hEm OE4.out OF.out).mono ?_
            rintro e x5 ⟨rfl, b5⟩
            have X5 : Hid (Below w5.heap.size w5 x5) := low_step X4.out b5
            clear b5 OE4 OF
            try go_wp2_with fail
            refine hK.out _ _ (HS.out _ X5.out) (fun hHeld => ?_)
            clear hK K
            try simp only [Act.put, List.setIfInBounds_toArray, List.set_cons_zero, List.set_cons_succ]
            refine wpAnyH_take (i := 17) (oi := ?oia17) (v := .bool false) ?hia17 (by kernel_rfl) (by kernel_rfl) (by kernel_rfl) ?hqa17 ?hya17 hHeld ?hra17
            case hia17 =>
              simp only [List.getElem?_toArray, List.getElem?_cons_succ, List.getElem?_cons_zero]
              rfl
            case hqa17 => exact fun _ _ _ h => h
            case hya17 => exact Or.inl ⟨by kernel_rfl, fun w hSw => by go_simp⟩
            try simp only [Act.put, List.setIfInBounds_toArray, List.set_cons_zero, List.set_cons_succ]
            refine wpAnyH_take (i := 18) (oi := ?oia18) (v := .bool false) ?hia18 (by kernel_rfl) (by kernel_rfl) (by kernel_rfl) ?hqa18 ?hya18 hHeld ?hra18
            case hia18 =>
              simp only [List.getElem?_toArray, List.getElem?_cons_succ, List.getElem?_cons_zero]
              rfl
            case hqa18 => exact fun _ _ _ h => h
            case hya18 => exact Or.inl ⟨by kernel_rfl, fun w hSw => by go_simp⟩
            try simp only [Act.put, List.setIfInBounds_toArray, List.set_cons_zero, List.set_cons_succ]
            refine wpAnyH_done (by kernel_rfl) ?_ _
            have RP5 : Hid (ReadsP x5 (.slice ua un uc) ps) := readsP_below RP.out X5.out
            have OL5 : Hid (OwnSS x5 (w2.heap.size) (.slice la A.length lc) lus A) := OL.out.below X5.out
            have P5 : Hid (x5.heap[bP]? = some (.cells #[.slice ua un uc] 26 (0, 0))) := box_step P.out X5.out
            have LW5 : Hid (Below w.heap.size w x5) := low_step LW.out X5.out
            clear RP OL P LW RQ Q S X1 X2 X3 X4 X5 HS hsi hie hse hS0 c1 c2 c3 c4 c5
            by_cases h0 : A.length = 0
            · have h0' : (A.length : Int) = 0 := by omega
              go_wp2_with fail
              go_ret
              exact ⟨rfl, LW5.out⟩
            have hpos : 0 < A.length := by omega
            have h0' : ¬ (A.length : Int) = 0 := by omega
            obtain ⟨j, ss, hI⟩ := inner_asked HA.out hpos
            obtain rfl := hI.num
            have HI : Hid (InnL ps c (j : Int) A j ss) := hI
            have hIl := hI.len
            obtain ⟨gl, hgl⟩ : ∃ gl, la = some ⟨gl, 0, none⟩ := by
              rcases OL5.out.row.2 with ⟨e, h9⟩ | ⟨g, cap, cur, e, _⟩
              · omega
              · injection e with e1; exact ⟨g, e1⟩
            subst hgl
            obtain ⟨ao, pc, e1, hpc⟩ := id RP5.out
            injection e1 with e1a e1b e1c
            subst e1a
            subst e1b
            subst e1c
            obtain ⟨gp, po, xv, hao, hpcell, hx3⟩ := hpc j ss hI.at'
            subst hao
            have hx3' := hx3
            obtain ⟨xo, xc, hxv, hxc⟩ := hx3'
            obtain ⟨gx, ox, hxo, -⟩ := hxc 0 (ss[0]'(by omega)) (by simp)
            subst hxo
            subst hxv
            have H3 : Hid (Reads3 x5 (.slice (some ⟨gx, ox, none⟩) ss.length xc) ss) := hx3
            have hjp : j < ps.length := (List.getElem?_eq_some_iff.1 hI.at').1
            have hj0 : (0 : Int) ≤ (j : Int) := by omega
            have hjl : (j : Int) < (ps.length : Int) := by omega
            rw [← hIl] at hpcell
            have HPC : Hid (x5.cell? ⟨gp, po + j, none⟩ = some (.slice (some ⟨gx, ox, none⟩) A.length xc)) := hpcell
            have hgpl : gp < x5.heap.size := cell_ltI hpcell
            have h12 := hI.small
            have hmA : A.length ≤ 12 := by omega
            obtain ⟨cP, -⟩ := one_cell P5.out
            obtain ⟨i0, hi0, hz0, hz1, hz2⟩ := info_parts infoInt
            have hb8 : i0.bytes * 7 ≤ 281474976710656 := by rw [hz2]; omega
            have hmx : (7 : Nat) ≤ maxLen := by unfold maxLen; omega
            clear hI hpc hx3 hxc hIl h0
            go_wp2_with (at_make; refine wpList_make_full _ rfl _ _ 36 rfl x5.heap.size 2 i0 (.int .i64 0) 1 Try.underlying36 hi0 hz0 hz1 .i64 .i64 7 7 7 rfl rfl rfl rfl hb8 hmx (Nat.le_refl _) ?_; intro w6 own6 grow6; rw [made7] at own6; refine stop_of ?_)
            unfold Stop
            have B6 : Below x5.heap.size x5 w6 := Below.grown (Below.refl _ _) grow6 (Nat.le_refl _) (by simp)
            have cP6 := (B6.cell (cell_ltI cP)).trans cP
            have pc6 := (B6.cell hgpl).trans HPC.out
            have HO6 : Hid (Reads w6 (.slice (some ⟨x5.heap.size, 0, none⟩) 7 7) (ints (backsK ss A 0))) := reads_own own6
            have B66 : Hid (Below x5.heap.size x5 w6) := B6
            clear own6 grow6 cP hpcell B6
            go_wp2_with fail
            go_loopw [10, 12] (fun t i wr => ∃ k : Nat, k ≤ A.length ∧ i = .int .i64 k ∧ Reads wr t (ints (backsK ss A k)) ∧ Below x5.heap.size x5 wr) (fun _ i _ => A.length - (intOf i).toNat)
            case atStart => exact ⟨0, Nat.zero_le _, rfl, HO6.out, B66.out⟩
            case round =>
              obtain ⟨k, hk, rfl, ht, hbr⟩ := hrel
              obtain ⟨tv, htv⟩ : ∃ t, t = u10 := ⟨_, rfl⟩
              subst htv
              have HTV : Hid (Reads wr tv (ints (backsK ss A k))) := ht
              have HBR : Hid (Below x5.heap.size x5 wr) := hbr
              have HLW : Hid (Below w.heap.size w wr) := low_step LW5.out hbr
              have hPr := box_step P5.out hbr
              obtain ⟨cP, -⟩ := one_cell hPr
              have HPr : Hid (wr.heap[bP]? = some (.cells #[.slice (some ⟨gp, po, none⟩) ps.length uc] 26 (0, 0))) := hPr
              clear cP6 pc6 HO6 B66 ht hPr
              by_cases hlt : k < A.length
              · have hlt' : (k : Int) < (A.length : Int) := by omega
                have hk0 : (0 : Int) ≤ (k : Int) := by omega
                obtain ⟨uk, _, ck, ouk⟩ := (OL5.out.below hbr).at (j := k) hlt
                have hgetk : A.getD k [] = A[k]'hlt := by simp [List.getD, hlt]
                have HUK : Hid (Reads wr uk (ints (A.getD k []))) := by
                  show Reads wr uk (ints (A.getD k []))
                  rw [hgetk]
                  exact reads_own ouk
                obtain ⟨xo2, xc2, hx2e, hx2⟩ := reads3_below H3.out hbr
                have hks : k < ss.length := by have := HI.out.len; omega
                obtain ⟨s, hs⟩ : ∃ s, ss[k]? = some s := ⟨ss[k], by simp [hks]⟩
                obtain ⟨g2, o2, hxo2, d0, d1, d2⟩ := hx2 k s hs
                injection hx2e with q1 q2 q3
                rw [← q1] at hxo2
                injection hxo2 with q4
                injection q4 with q5 q6 q7
                subst q5
                subst q6
                clear q1 q2 q3 hx2
                obtain ⟨E, hE, _⟩ := effA_some ps c s
                obtain ⟨hE7', hC7', hk7', hnx⟩ := HI.out.eff k hks s hs E hE
                have hE7 : E.length ≤ maxLen := by unfold maxLen; omega
                have hk7 : (A.getD k []).length ≤ maxLen := by unfold maxLen; omega
                have hC7 : (compAns (A.getD k []) E).length ≤ maxLen := by unfold maxLen; omega
                have HNX : Hid (∀ x ∈ nextAns ss (k : Nat), ∃ m : Nat, x = m ∧ m < A.length ∧ withinAns (compAns (A.getD k []) E) (A.getD m []) = true) := hnx
                have HBK : Hid ((s.k = 9 → joinAns (backsK ss A k) (A.getD k []) = backsK ss A (k + 1)) ∧ (s.k ≠ 9 → backsK ss A k = backsK ss A (k + 1)) ∧ (backsK ss A k).length = 7) := HI.out.back k hks s hs
                have HS9 : Hid (∀ X, Below wr.heap.size wr X → X.cell? ⟨gl, k, none⟩ = some uk ∧ X.cell? ⟨bP, 0, none⟩ = some (.slice (some ⟨gp, po, none⟩) ps.length uc) ∧ X.cell? ⟨gx, ox + k * 3, none⟩ = some (.int .i64 s.k) ∧ X.cell? ⟨gx, ox + k * 3 + 1, none⟩ = some (.int .i64 s.x) ∧ X.cell? ⟨gx, ox + k * 3 + 2, none⟩ = some (.int .i64 s.y)) :=
                  fun X hX => ⟨(hX.cell (cell_ltI ck)).trans ck, (hX.cell (cell_ltI cP)).trans cP, (hX.cell (cell_ltI d0)).trans d0, (hX.cell (cell_ltI d1)).trans d1, (hX.cell (cell_ltI d2)).trans d2⟩
                have hS9 := HS9.out wr (Below.refl _ _)
                have hef := fun X (hX : Below wr.heap.size wr X) => implEffect ps c s E hE (.slice (some ⟨gp, po, none⟩) ps.length uc) X hps hpe (readsP_below RP5.out (low_step HBR.out hX))
                have HSK : Hid (ss[k]? = some s) := hs
                clear hE hE7' hC7' hk7' hnx hgetk ouk hbr hs
                go_wp2_with fail
                refine wp_region_held_drew (S := fun X => X.cell? ⟨gl, k, none⟩ = some uk ∧ X.cell? ⟨bP, 0, none⟩ = some (.slice (some ⟨gp, po, none⟩) ps.length uc) ∧ X.cell? ⟨gx, ox + k * 3, none⟩ = some (.int .i64 s.k) ∧ X.cell? ⟨gx, ox + k * 3 + 1, none⟩ = some (.int .i64 s.x) ∧ X.cell? ⟨gx, ox + k * 3 + 2, none⟩ = some (.int .i64 s.y)) (by kernel_rfl) hS9 (fun hHeld => ?_)
                refine wpAnyH_take (i := 0) (oi := ?oib0) (v := .slice (some ⟨gl, 0, none⟩) A.length lc) ?hib0 (by kernel_rfl) (by kernel_rfl) (by kernel_rfl) ?hqb0 ?hyb0 hHeld ?hrb0
                case hib0 =>
                  simp only [List.getElem?_toArray, List.getElem?_cons_succ, List.getElem?_cons_zero]
                  rfl
                case hqb0 => exact fun _ _ _ h => h
                case hyb0 => exact Or.inl ⟨by kernel_rfl, fun w hSw => by go_simp⟩
                try simp only [Act.put, List.setIfInBounds_toArray, List.set_cons_zero, List.set_cons_succ]
                refine wpAnyH_take (i := 1) (oi := ?oib1) (v := .int .i64 (k : Int)) ?hib1 (by kernel_rfl) (by kernel_rfl) (by kernel_rfl) ?hqb1 ?hyb1 hHeld ?hrb1
                case hib1 =>
                  simp only [List.getElem?_toArray, List.getElem?_cons_succ, List.getElem?_cons_zero]
                  rfl
                case hqb1 => exact fun _ _ _ h => h
                case hyb1 => exact Or.inl ⟨by kernel_rfl, fun w hSw => by go_simp⟩
                try simp only [Act.put, List.setIfInBounds_toArray, List.set_cons_zero, List.set_cons_succ]
                refine wpAnyH_take (i := 2) (oi := ?oib2) (v := .pointer (some ⟨gl, k, none⟩)) ?hib2 (by kernel_rfl) (by kernel_rfl) (by kernel_rfl) ?hqb2 ?hyb2 hHeld ?hrb2
                case hib2 =>
                  simp only [List.getElem?_toArray, List.getElem?_cons_succ, List.getElem?_cons_zero]
                  rfl
                case hqb2 => exact fun _ _ _ h => h
                case hyb2 => exact Or.inl ⟨by kernel_rfl, fun w hSw => by go_simp⟩
                try simp only [Act.put, List.setIfInBounds_toArray, List.set_cons_zero, List.set_cons_succ]
                refine wpAnyH_take (i := 3) (oi := ?oib3) (v := uk) ?hib3 (by kernel_rfl) (by kernel_rfl) (by kernel_rfl) ?hqb3 ?hyb3 hHeld ?hrb3
                case hib3 =>
                  simp only [List.getElem?_toArray, List.getElem?_cons_succ, List.getElem?_cons_zero]
                  rfl
                case hqb3 => exact fun _ _ _ h => h
                case hyb3 => exact Or.inl ⟨by kernel_rfl, fun w hSw => by obtain ⟨s0, s1, s2, s3, s4⟩ := hSw; go_simp⟩
                try simp only [Act.put, List.setIfInBounds_toArray, List.set_cons_zero, List.set_cons_succ]
                refine wpAnyH_take (i := 4) (oi := ?oib4) (v := .agg #[.slice (some ⟨gp, po, none⟩) ps.length uc]) ?hib4 (by kernel_rfl) (by kernel_rfl) (by kernel_rfl) ?hqb4 ?hyb4 hHeld ?hrb4
                case hib4 =>
                  simp only [List.getElem?_toArray, List.getElem?_cons_succ, List.getElem?_cons_zero]
                  rfl
                case hqb4 => exact fun _ _ _ h => h
                case hyb4 => exact Or.inl ⟨by kernel_rfl, fun w hSw => by obtain ⟨s0, s1, s2, s3, s4⟩ := hSw; go_simp⟩
                try simp only [Act.put, List.setIfInBounds_toArray, List.set_cons_zero, List.set_cons_succ]
                refine wpAnyH_take (i := 5) (oi := ?oib5) (v := .int .i64 c) ?hib5 (by kernel_rfl) (by kernel_rfl) (by kernel_rfl) ?hqb5 ?hyb5 hHeld ?hrb5
                case hib5 =>
                  simp only [List.getElem?_toArray, List.getElem?_cons_succ, List.getElem?_cons_zero]
                  rfl
                case hqb5 => exact fun _ _ _ h => h
                case hyb5 => exact Or.inl ⟨by kernel_rfl, fun w hSw => by go_simp⟩
                try simp only [Act.put, List.setIfInBounds_toArray, List.set_cons_zero, List.set_cons_succ]
                refine wpAnyH_take (i := 6) (oi := ?oib6) (v := .slice (some ⟨gx, ox, none⟩) A.length xc) ?hib6 (by kernel_rfl) (by kernel_rfl) (by kernel_rfl) ?hqb6 ?hyb6 hHeld ?hrb6
                case hib6 =>
                  simp only [List.getElem?_toArray, List.getElem?_cons_succ, List.getElem?_cons_zero]
                  rfl
                case hqb6 => exact fun _ _ _ h => h
                case hyb6 => exact Or.inl ⟨by kernel_rfl, fun w hSw => by go_simp⟩
                try simp only [Act.put, List.setIfInBounds_toArray, List.set_cons_zero, List.set_cons_succ]
                refine wpAnyH_take (i := 7) (oi := ?oib7) (v := .int .i64 (k : Int)) ?hib7 (by kernel_rfl) (by kernel_rfl) (by kernel_rfl) ?hqb7 ?hyb7 hHeld ?hrb7
                case hib7 =>
                  simp only [List.getElem?_toArray, List.getElem?_cons_succ, List.getElem?_cons_zero]
                  rfl
                case hqb7 => exact fun _ _ _ h => h
                case hyb7 => exact Or.inl ⟨by kernel_rfl, fun w hSw => by go_simp⟩
                try simp only [Act.put, List.setIfInBounds_toArray, List.set_cons_zero, List.set_cons_succ]
                refine wpAnyH_take (i := 8) (oi := ?oib8) (v := .pointer (some ⟨gx, ox + k * 3, none⟩)) ?hib8 (by kernel_rfl) (by kernel_rfl) (by kernel_rfl) ?hqb8 ?hyb8 hHeld ?hrb8
                case hib8 =>
                  simp only [List.getElem?_toArray, List.getElem?_cons_succ, List.getElem?_cons_zero]
                  rfl
                case hqb8 => exact fun _ _ _ h => h
                case hyb8 => exact Or.inl ⟨by kernel_rfl, fun w hSw => by go_simp⟩
                try simp only [Act.put, List.setIfInBounds_toArray, List.set_cons_zero, List.set_cons_succ]
                refine wpAnyH_take (i := 9) (oi := ?oib9) (v := .agg #[.int .i64 s.k, .int .i64 s.x, .int .i64 s.y]) ?hib9 (by kernel_rfl) (by kernel_rfl) (by kernel_rfl) ?hqb9 ?hyb9 hHeld ?hrb9
                case hib9 =>
                  simp only [List.getElem?_toArray, List.getElem?_cons_succ, List.getElem?_cons_zero]
                  rfl
                case hqb9 => exact fun _ _ _ h => h
                case hyb9 => exact Or.inl ⟨by kernel_rfl, fun w hSw => by obtain ⟨s0, s1, s2, s3, s4⟩ := hSw; go_simp⟩
                try simp only [Act.put, List.setIfInBounds_toArray, List.set_cons_zero, List.set_cons_succ]
                refine wpAnyH_ready (rs := [10]) (by kernel_rfl) (by simp) ?_
                refine (AllReadyH.cons (o := ?oob10) ?hob10 (fun K hK => ?hkb10) AllReadyH.nil)
                case hob10 =>
                  simp only [List.getElem?_toArray, List.getElem?_cons_succ, List.getElem?_cons_zero]
                  rfl
                case hkb10 =>
                  go_simp
                  go_at_call 21
                  refine (hef wr.drew (Below.drew (Below.refl _ _))).mono ?_
                  rintro e y1 ⟨ev, rfl, oe, b1⟩
                  have Y1 : Hid (Below wr.heap.size wr y1) := Below.trans (Below.drew (Below.refl _ _)) b1
                  have OE : Hid (Reads y1 ev (ints E)) := reads_own oe
                  clear oe b1
                  try go_wp2_with fail
                  refine hK.out _ _ (HS9.out _ Y1.out) (fun hHeld => ?_)
                  clear hK K
                  try simp only [Act.put, List.setIfInBounds_toArray, List.set_cons_zero, List.set_cons_succ]
                  refine wpAnyH_ready (rs := [11]) (by kernel_rfl) (by simp) ?_
                  refine (AllReadyH.cons (o := ?oob11) ?hob11 (fun K hK => ?hkb11) AllReadyH.nil)
                  case hob11 =>
                    simp only [List.getElem?_toArray, List.getElem?_cons_succ, List.getElem?_cons_zero]
                    rfl
                  case hkb11 =>
                    go_simp
                    go_at_call 23
                    refine (implCompose (A.getD k []) E uk ev y1 hk7 hE7 (reads_below HUK.out Y1.out) OE.out).mono ?_
                    rintro e y2 ⟨cv, rfl, oc, b2⟩
                    have Y2 : Hid (Below wr.heap.size wr y2) := low_step Y1.out b2
                    have OC : Hid (Reads y2 cv (ints (compAns (A.getD k []) E))) := reads_own oc
                    clear oc b2 OE
                    try go_wp2_with fail
                    refine hK.out _ _ (HS9.out _ Y2.out) (fun hHeld => ?_)
                    clear hK K
                    try simp only [Act.put, List.setIfInBounds_toArray, List.set_cons_zero, List.set_cons_succ]
                    refine wpAnyH_take (i := 12) (oi := ?oib12) (v := cv) ?hib12 (by kernel_rfl) (by kernel_rfl) (by kernel_rfl) ?hqb12 ?hyb12 hHeld ?hrb12
                    case hib12 =>
                      simp only [List.getElem?_toArray, List.getElem?_cons_succ, List.getElem?_cons_zero]
                      rfl
                    case hqb12 => exact fun _ _ _ h => h
                    case hyb12 => exact Or.inl ⟨by kernel_rfl, fun w hSw => by go_simp⟩
                    try simp only [Act.put, List.setIfInBounds_toArray, List.set_cons_zero, List.set_cons_succ]
                    refine wpAnyH_done (by kernel_rfl) ?_ _
                    have HL2 : Hid (Below x5.heap.size x5 y2) := low_step HBR.out Y2.out
                    obtain ⟨cP2, -⟩ := one_cell (box_step HPr.out Y2.out)
                    have pc2 := (HL2.out.cell hgpl).trans HPC.out
                    have HR3 : Hid (Reads3 y2 (.slice (some ⟨gx, ox, none⟩) A.length xc) ss) := by
                      show Reads3 y2 _ ss
                      rw [HI.out.len]
                      exact reads3_below H3.out HL2.out
                    have hsl : ss.length ≤ maxLen := by unfold maxLen; omega
                    have hnext := implNext ss (k : Int) (.slice (some ⟨gx, ox, none⟩) A.length xc) y2 hsl HR3.out
                    clear hS9 cP ck d0 d1 d2 hef
                    go_wp2_with fail
                    go_at_call 24
                    refine hnext.mono ?_
                    rintro e y3 ⟨nv, rfl, on3, b3⟩
                    have Y3 : Hid (Below wr.heap.size wr y3) := low_step Y2.out b3
                    have OC3 : Hid (Reads y3 cv (ints (compAns (A.getD k []) E))) := reads_below OC.out b3
                    have hn2 := nextAns_length ss (k : Int)
                    obtain ⟨NX, hNX⟩ : ∃ NX, nextAns ss (k : Int) = NX := ⟨_, rfl⟩
                    rw [hNX] at on3 hn2
                    have HNX' : Hid (∀ x ∈ NX, ∃ m : Nat, x = m ∧ m < A.length ∧ withinAns (compAns (A.getD k []) E) (A.getD m []) = true) := by
                      rw [← hNX]; exact HNX.out
                    have ON : Hid (Reads y3 nv (ints NX)) := reads_own on3
                    obtain ⟨na, nc, hnv, _⟩ := id ON.out
                    rw [ints_length] at hnv
                    subst hnv
                    obtain ⟨CC, hCC⟩ : ∃ CC, compAns (A.getD k []) E = CC := ⟨_, rfl⟩
                    rw [hCC] at OC3 HNX' hC7
                    clear on3 b3 hnext pc2 cP2 OC HNX hNX hCC HL2 HR3
                    go_wp2_with fail
                    obtain ⟨wo, hwo⟩ : ∃ x, x = wr := ⟨_, rfl⟩
                    subst hwo
                    have hNXm : NX.length ≤ 2 := hn2
                    go_loopw [15] (fun q wr => ∃ m : Nat, m ≤ NX.length ∧ q = .int .i64 m ∧ Below y3.heap.size y3 wr) (fun q _ => NX.length - (intOf q).toNat)
                    case atStart => exact ⟨0, Nat.zero_le _, rfl, Below.refl _ _⟩
                    case round =>
                      obtain ⟨m, hm, rfl, hbi⟩ := hrel
                      have Z1 : Hid (Below wo.heap.size wo wr) := low_step Y3.out hbi
                      have Z0 : Hid (Below x5.heap.size x5 wr) := low_step HBR.out Z1.out
                      have BI : Hid (Below y3.heap.size y3 wr) := hbi
                      by_cases hmlt : m < NX.length
                      · have hmlt' : (m : Int) < (NX.length : Int) := by omega
                        have hm0 : (0 : Int) ≤ (m : Int) := by omega
                        obtain ⟨_, _, hne, hnc⟩ := reads_below ON.out hbi
                        rw [ints_length] at hne
                        obtain ⟨gn, on, hna, hcn⟩ := hnc m (.int .i64 (NX[m]'hmlt)) (by simp [ints, hmlt])
                        injection hne with q1 q2 q3
                        rw [← q1] at hna
                        subst hna
                        obtain ⟨m2, hm2, hm2l, hwi⟩ := HNX'.out (NX[m]'hmlt) (List.getElem_mem hmlt)
                        rw [hm2] at hcn
                        obtain ⟨um, _, cm, oum⟩ := (OL5.out.below Z0.out).at (j := m2) hm2l
                        have hgm : A.getD m2 [] = A[m2]'hm2l := by simp [List.getD, hm2l]
                        have hm20 : (0 : Int) ≤ (m2 : Int) := by omega
                        have hm2l' : (m2 : Int) < (A.length : Int) := by omega
                        have hrm : Reads wr um (ints (A.getD m2 [])) := by rw [hgm]; exact reads_own oum
                        have hml : (A.getD m2 []).length ≤ maxLen := by rw [hgm]; exact hAxm _ (List.getElem_mem hm2l)
                        have hwn := implWithin CC (A.getD m2 []) cv um wr hC7 hml (reads_below OC3.out hbi) hrm
                        rw [hwi] at hwn
                        clear q1 q2 q3 hnc hm2 hwi hgm oum hrm hml hbi
                        go_wp2_with fail
                        go_at_call 13
                        refine hwn.mono ?_
                        rintro e z1 ⟨rfl, bz⟩
                        have BZ : Hid (Below y3.heap.size y3 z1) := low_step BI.out bz
                        clear bz hwn hcn cm Z0 Z1 BI
                        go_wp2
                        go_roundw
                        case rel => exact ⟨m + 1, by omega, by go_num, BZ.out⟩
                        case measure => simp [intOf]; omega
                      · obtain rfl : m = NX.length := by omega
                        have hnm : ¬ (NX.length : Int) < (NX.length : Int) := by omega
                        obtain ⟨xo2, xc2, hx2e, hx2⟩ := reads3_below H3.out Z0.out
                        obtain ⟨g2, o2, hxo2, d0, _, _⟩ := hx2 k s HSK.out
                        injection hx2e with q1 q2 q3
                        rw [← q1] at hxo2
                        injection hxo2 with q4
                        injection q4 with q5 q6 q7
                        subst q5
                        subst q6
                        clear q1 q2 q3 hx2 hbi
                        obtain ⟨uk2, huk2, ck, ouk⟩ := (OL5.out.below Z0.out).at (j := k) hlt
                        have hgetk : A.getD k [] = A[k]'hlt := by simp [List.getD, hlt]
                        have HUK2 : Hid (Reads wr uk2 (ints (A.getD k []))) := by
                          show Reads wr uk2 (ints (A.getD k []))
                          rw [hgetk]
                          exact reads_own ouk
                        clear ouk huk2 hgetk
                        by_cases h9 : s.k = 9
                        · obtain ⟨hj9, _, hb7⟩ := HBK.out
                          have hjo := implJoin (backsK ss A k) (A.getD k []) tv uk2 wr (by unfold maxLen; omega) hk7 (reads_below HTV.out Z1.out) HUK2.out
                          rw [hj9 h9] at hjo
                          rw [h9] at d0
                          clear hj9 hb7
                          go_wp2_with fail
                          go_at_call 25
                          refine hjo.mono ?_
                          rintro e z1 ⟨jv, rfl, oj, bz⟩
                          have OJ : Hid (Reads z1 jv (ints (backsK ss A (k + 1)))) := reads_own oj
                          have BZ : Hid (Below x5.heap.size x5 z1) := low_step Z0.out bz
                          clear oj bz hjo d0 ck
                          go_wp2
                          go_roundw
                          case rel => exact ⟨k + 1, by omega, by go_num, OJ.out, BZ.out⟩
                          case measure => simp [intOf]; omega
                        · obtain ⟨_, hj9, _⟩ := HBK.out
                          have OJ : Hid (Reads wr tv (ints (backsK ss A (k + 1)))) := by
                            show Reads wr tv _
                            rw [← hj9 h9]
                            exact reads_below HTV.out Z1.out
                          clear hj9 ck
                          go_wp2
                          go_roundw
                          case rel => exact ⟨k + 1, by omega, by go_num, OJ.out, Z0.out⟩
                          case measure => simp [intOf]; omega
              · obtain rfl : k = A.length := by omega
                have hge : ¬ (A.length : Int) < (A.length : Int) := by omega
                obtain ⟨u0, _, ck, ou0⟩ := (OL5.out.below hbr).at (j := 0) hpos
                have hget0 : A.getD 0 [] = A[0]'hpos := by simp [List.getD, hpos]
                have HU0 : Hid (Reads wr u0 (ints (A.getD 0 []))) := by
                  show Reads wr u0 (ints (A.getD 0 []))
                  rw [hget0]
                  exact reads_own ou0
                have h07 : (A.getD 0 []).length ≤ maxLen := by rw [hget0]; exact hAxm _ (List.getElem_mem hpos)
                have hun := HI.out.unit
                obtain ⟨TT, hTT⟩ := tabA_some ps c
                obtain ⟨hTl, hTj', hb7'⟩ := HI.out.tab TT hTT
                have hjT : j < TT.length := by omega
                have hTj : TT[j]'hjT = backsK ss A ss.length := by rw [← hTj']; simp [List.getD, hjT]
                have hb7 : (backsK ss A ss.length).length ≤ maxLen := by unfold maxLen; omega
                have hIl := HI.out.len
                rw [hIl] at HTV
                have htb := fun X (hX : Below wr.heap.size wr X) => implTables ps c TT hTT (.slice (some ⟨gp, po, none⟩) ps.length uc) X hps hpe (readsP_below RP5.out (low_step HBR.out hX))
                have HS9 : Hid (∀ X, Below wr.heap.size wr X → X.cell? ⟨gl, 0, none⟩ = some u0 ∧ X.cell? ⟨bP, 0, none⟩ = some (.slice (some ⟨gp, po, none⟩) ps.length uc)) :=
                  fun X hX => ⟨(hX.cell (cell_ltI ck)).trans ck, (hX.cell (cell_ltI cP)).trans cP⟩
                have hS9 := HS9.out wr (Below.refl _ _)
                clear hTT hTj' hb7' hget0 ou0 hbr hIl
                have hp0 : (0 : Int) < (A.length : Int) := by omega
                go_wp2_with fail
                refine wp_region_held_drew (S := fun X => X.cell? ⟨gl, 0, none⟩ = some u0 ∧ X.cell? ⟨bP, 0, none⟩ = some (.slice (some ⟨gp, po, none⟩) ps.length uc)) (by kernel_rfl) hS9 (fun hHeld => ?_)
                refine wpAnyH_take (i := 1) (oi := ?oic1) (v := .slice (some ⟨gl, 0, none⟩) A.length lc) ?hic1 (by kernel_rfl) (by kernel_rfl) (by kernel_rfl) ?hqc1 ?hyc1 hHeld ?hrc1
                case hic1 =>
                  simp only [List.getElem?_toArray, List.getElem?_cons_succ, List.getElem?_cons_zero]
                  rfl
                case hqc1 => exact fun _ _ _ h => h
                case hyc1 => exact Or.inl ⟨by kernel_rfl, fun w hSw => by go_simp⟩
                try simp only [Act.put, List.setIfInBounds_toArray, List.set_cons_zero, List.set_cons_succ]
                refine wpAnyH_take (i := 2) (oi := ?oic2) (v := .pointer (some ⟨gl, 0, none⟩)) ?hic2 (by kernel_rfl) (by kernel_rfl) (by kernel_rfl) ?hqc2 ?hyc2 hHeld ?hrc2
                case hic2 =>
                  simp only [List.getElem?_toArray, List.getElem?_cons_succ, List.getElem?_cons_zero]
                  rfl
                case hqc2 => exact fun _ _ _ h => h
                case hyc2 => exact Or.inl ⟨by kernel_rfl, fun w hSw => by go_simp⟩
                try simp only [Act.put, List.setIfInBounds_toArray, List.set_cons_zero, List.set_cons_succ]
                refine wpAnyH_take (i := 3) (oi := ?oic3) (v := u0) ?hic3 (by kernel_rfl) (by kernel_rfl) (by kernel_rfl) ?hqc3 ?hyc3 hHeld ?hrc3
                case hic3 =>
                  simp only [List.getElem?_toArray, List.getElem?_cons_succ, List.getElem?_cons_zero]
                  rfl
                case hqc3 => exact fun _ _ _ h => h
                case hyc3 => exact Or.inl ⟨by kernel_rfl, fun w hSw => by obtain ⟨s0, s1⟩ := hSw; go_simp⟩
                try simp only [Act.put, List.setIfInBounds_toArray, List.set_cons_zero, List.set_cons_succ]
                refine wpAnyH_ready (rs := [0]) (by kernel_rfl) (by simp) ?_
                refine (AllReadyH.cons (o := ?ooc0) ?hoc0 (fun K hK => ?hkc0) AllReadyH.nil)
                case hoc0 =>
                  simp only [List.getElem?_toArray, List.getElem?_cons_succ, List.getElem?_cons_zero]
                  rfl
                case hkc0 =>
                  go_simp
                  go_at_call 26
                  refine (implUnit wr.drew).mono ?_
                  rintro e y1 ⟨iv, rfl, oi, b1⟩
                  have Y1 : Hid (Below wr.heap.size wr y1) := Below.trans (Below.drew (Below.refl _ _)) b1
                  have OI : Hid (Reads y1 iv (ints unitL)) := reads_own oi
                  clear oi b1
                  try go_wp2_with fail
                  refine hK.out _ _ (HS9.out _ Y1.out) (fun hHeld => ?_)
                  clear hK K
                  try simp only [Act.put, List.setIfInBounds_toArray, List.set_cons_zero, List.set_cons_succ]
                  refine wpAnyH_ready (rs := [4]) (by kernel_rfl) (by simp) ?_
                  refine (AllReadyH.cons (o := ?ooc4) ?hoc4 (fun K hK => ?hkc4) AllReadyH.nil)
                  case hoc4 =>
                    simp only [List.getElem?_toArray, List.getElem?_cons_succ, List.getElem?_cons_zero]
                    rfl
                  case hkc4 =>
                    go_simp
                    go_at_call 13
                    refine (implWithin unitL (A.getD 0 []) iv u0 y1 (by decide) h07 OI.out (reads_below HU0.out Y1.out)).mono ?_
                    rintro e y2 ⟨rfl, b2⟩
                    rw [hun]
                    have Y2 : Hid (Below wr.heap.size wr y2) := low_step Y1.out b2
                    clear b2 OI
                    try go_wp2_with fail
                    refine hK.out _ _ (HS9.out _ Y2.out) (fun hHeld => ?_)
                    clear hK K
                    try simp only [Act.put, List.setIfInBounds_toArray, List.set_cons_zero, List.set_cons_succ]
                    refine wpAnyH_take (i := 5) (oi := ?oic5) (v := .bool true) ?hic5 (by kernel_rfl) (by kernel_rfl) (by kernel_rfl) ?hqc5 ?hyc5 hHeld ?hrc5
                    case hic5 =>
                      simp only [List.getElem?_toArray, List.getElem?_cons_succ, List.getElem?_cons_zero]
                      rfl
                    case hqc5 => exact fun _ _ _ h => h
                    case hyc5 => exact Or.inl ⟨by kernel_rfl, fun w hSw => by go_simp⟩
                    try simp only [Act.put, List.setIfInBounds_toArray, List.set_cons_zero, List.set_cons_succ]
                    refine wpAnyH_take (i := 6) (oi := ?oic6) (v := tv) ?hic6 (by kernel_rfl) (by kernel_rfl) (by kernel_rfl) ?hqc6 ?hyc6 hHeld ?hrc6
                    case hic6 =>
                      simp only [List.getElem?_toArray, List.getElem?_cons_succ, List.getElem?_cons_zero]
                      rfl
                    case hqc6 => exact fun _ _ _ h => h
                    case hyc6 => exact Or.inl ⟨by kernel_rfl, fun w hSw => by go_simp⟩
                    try simp only [Act.put, List.setIfInBounds_toArray, List.set_cons_zero, List.set_cons_succ]
                    refine wpAnyH_take (i := 7) (oi := ?oic7) (v := .agg #[.slice (some ⟨gp, po, none⟩) ps.length uc]) ?hic7 (by kernel_rfl) (by kernel_rfl) (by kernel_rfl) ?hqc7 ?hyc7 hHeld ?hrc7
                    case hic7 =>
                      simp only [List.getElem?_toArray, List.getElem?_cons_succ, List.getElem?_cons_zero]
                      rfl
                    case hqc7 => exact fun _ _ _ h => h
                    case hyc7 => exact Or.inl ⟨by kernel_rfl, fun w hSw => by obtain ⟨s0, s1⟩ := hSw; go_simp⟩
                    try simp only [Act.put, List.setIfInBounds_toArray, List.set_cons_zero, List.set_cons_succ]
                    refine wpAnyH_take (i := 8) (oi := ?oic8) (v := .int .i64 c) ?hic8 (by kernel_rfl) (by kernel_rfl) (by kernel_rfl) ?hqc8 ?hyc8 hHeld ?hrc8
                    case hic8 =>
                      simp only [List.getElem?_toArray, List.getElem?_cons_succ, List.getElem?_cons_zero]
                      rfl
                    case hqc8 => exact fun _ _ _ h => h
                    case hyc8 => exact Or.inl ⟨by kernel_rfl, fun w hSw => by go_simp⟩
                    try simp only [Act.put, List.setIfInBounds_toArray, List.set_cons_zero, List.set_cons_succ]
                    refine wpAnyH_take (i := 10) (oi := ?oic10) (v := .int .i64 (j : Int)) ?hic10 (by kernel_rfl) (by kernel_rfl) (by kernel_rfl) ?hqc10 ?hyc10 hHeld ?hrc10
                    case hic10 =>
                      simp only [List.getElem?_toArray, List.getElem?_cons_succ, List.getElem?_cons_zero]
                      rfl
                    case hqc10 => exact fun _ _ _ h => h
                    case hyc10 => exact Or.inl ⟨by kernel_rfl, fun w hSw => by go_simp⟩
                    try simp only [Act.put, List.setIfInBounds_toArray, List.set_cons_zero, List.set_cons_succ]
                    refine wpAnyH_ready (rs := [9]) (by kernel_rfl) (by simp) ?_
                    refine (AllReadyH.cons (o := ?ooc9) ?hoc9 (fun K hK => ?hkc9) AllReadyH.nil)
                    case hoc9 =>
                      simp only [List.getElem?_toArray, List.getElem?_cons_succ, List.getElem?_cons_zero]
                      rfl
                    case hkc9 =>
                      go_simp
                      go_at_call 7
                      refine (htb y2 Y2.out).mono ?_
                      rintro e y3 ⟨zv, zus, rfl, oz, _, b3⟩
                      have Y3 : Hid (Below wr.heap.size wr y3) := low_step Y2.out b3
                      obtain ⟨gz, cz, hz⟩ : ∃ gz cz, zv = .slice (some ⟨gz, 0, none⟩) TT.length cz := by
                        rcases oz.row.2 with ⟨e, h0⟩ | ⟨g, cap, cur, e, _⟩
                        · omega
                        · exact ⟨g, cap, e⟩
                      subst hz
                      obtain ⟨uz, _, cz0, oz2⟩ := oz.at (j := j) hjT
                      have OZ : Hid (Reads y3 uz (ints (TT[j]'hjT))) := reads_own oz2
                      clear oz oz2 b3
                      try rw [hTl]
                      try go_wp2_with fail
                      refine hK.out _ _ (HS9.out _ Y3.out) (fun hHeld => ?_)
                      clear hK K
                      try simp only [Act.put, List.setIfInBounds_toArray, List.set_cons_zero, List.set_cons_succ]
                      refine wpAnyH_take (i := 11) (oi := ?oic11) (v := .pointer (some ⟨gz, j, none⟩)) ?hic11 (by kernel_rfl) (by kernel_rfl) (by kernel_rfl) ?hqc11 ?hyc11 hHeld ?hrc11
                      case hic11 =>
                        simp only [List.getElem?_toArray, List.getElem?_cons_succ, List.getElem?_cons_zero]
                        rfl
                      case hqc11 => exact fun _ _ _ h => h
                      case hyc11 => exact Or.inl ⟨by kernel_rfl, fun w hSw => by go_simp⟩
                      try simp only [Act.put, List.setIfInBounds_toArray, List.set_cons_zero, List.set_cons_succ]
                      refine wpAnyH_ready (rs := [12]) (by kernel_rfl) (by simp) ?_
                      refine (AllReadyH.cons (o := ?ooc12) ?hoc12 (fun K hK => ?hkc12) AllReadyH.nil)
                      case hoc12 =>
                        simp only [List.getElem?_toArray, List.getElem?_cons_succ, List.getElem?_cons_zero]
                        rfl
                      case hkc12 =>
                        go_simp
                        try go_wp2_with fail
                        refine hK.out _ _ (HS9.out _ Y3.out) (fun hHeld => ?_)
                        clear hK K
                        try simp only [Act.put, List.setIfInBounds_toArray, List.set_cons_zero, List.set_cons_succ]
                        refine wpAnyH_ready (rs := [13]) (by kernel_rfl) (by simp) ?_
                        refine (AllReadyH.cons (o := ?ooc13) ?hoc13 (fun K hK => ?hkc13) AllReadyH.nil)
                        case hoc13 =>
                          simp only [List.getElem?_toArray, List.getElem?_cons_succ, List.getElem?_cons_zero]
                          rfl
                        case hkc13 =>
                          go_simp
                          go_at_call 20
                          refine (likeInts (backsK ss A ss.length) tv uz y3 hb7 (reads_below HTV.out Y3.out) (by rw [← hTj]; exact OZ.out)).mono ?_
                          rintro e y4 ⟨rfl, b4⟩
                          have Y4 : Hid (Below wr.heap.size wr y4) := low_step Y3.out b4
                          clear b4 OZ
                          try go_wp2_with fail
                          refine hK.out _ _ (HS9.out _ Y4.out) (fun hHeld => ?_)
                          clear hK K
                          try simp only [Act.put, List.setIfInBounds_toArray, List.set_cons_zero, List.set_cons_succ]
                          refine wpAnyH_take (i := 14) (oi := ?oic14) (v := .bool true) ?hic14 (by kernel_rfl) (by kernel_rfl) (by kernel_rfl) ?hqc14 ?hyc14 hHeld ?hrc14
                          case hic14 =>
                            simp only [List.getElem?_toArray, List.getElem?_cons_succ, List.getElem?_cons_zero]
                            rfl
                          case hqc14 => exact fun _ _ _ h => h
                          case hyc14 => exact Or.inl ⟨by kernel_rfl, fun w hSw => by go_simp⟩
                          try simp only [Act.put, List.setIfInBounds_toArray, List.set_cons_zero, List.set_cons_succ]
                          refine wpAnyH_take (i := 15) (oi := ?oic15) (v := .bool true) ?hic15 (by kernel_rfl) (by kernel_rfl) (by kernel_rfl) ?hqc15 ?hyc15 hHeld ?hrc15
                          case hic15 =>
                            simp only [List.getElem?_toArray, List.getElem?_cons_succ, List.getElem?_cons_zero]
                            rfl
                          case hqc15 => exact fun _ _ _ h => h
                          case hyc15 => exact Or.inl ⟨by kernel_rfl, fun w hSw => by go_simp⟩
                          try simp only [Act.put, List.setIfInBounds_toArray, List.set_cons_zero, List.set_cons_succ]
                          refine wpAnyH_done (by kernel_rfl) ?_ _
                          go_wp2
                          go_ret
                          exact ⟨rfl, low_step HLW.out Y4.out⟩

set_option maxRecDepth 100000 in
theorem liftedFnInner (os : Os) (started : os.Started) (H : Type) (enc : TypeId × Value → H) :
    ReturnsInHanded {} Try.checked os 4 .any (Rows.fnInnerSpec.pre6 enc Try.prog Try.f4 Rows.fnInnerRow.domain false) (Rows.fnInnerSpec.post enc Try.prog Try.f4 false true false false) := by
  refine returnsInHanded_of_change (C := Try.checked) own started (by kernel_rfl) Try.func4
    (ChangeSpec.witness6 (enc := enc) (C := Try.checked) false ⟨#[], #[.slice none 0 0], []⟩ 8 (by kernel_rfl) (by kernel_rfl) (by kernel_rfl) (by kernel_rfl)) ?_
  intro W base args ds gs before hval0 hW hcnd _
  have hval : ∀ (j : Nat) t v, Try.f4.params[j]? = some t → args[j]? = some v → Value.okWide Try.prog W .any base t v := hval0
  have hW' := hW
  obtain ⟨p, q, hA0, hV, rfl, hfz, hnd⟩ := hW
  have hA : DataW.TrodAll enc Try.prog W 0 (fun _ => true) true Try.f4.params.toList args.toList ds p := hA0
  rw [Try.params4] at hA hval
  obtain ⟨v0, vs0, d0, ds0, p0, q0, hargs, rfl, rfl, h0, r0⟩ := trodAll_cons hA
  obtain ⟨rfl, rfl, rfl⟩ := trodAll_nil r0
  obtain rfl : args = #[v0] := by cases args; simp_all
  obtain ⟨rfl, rfl⟩ := trodVars_none hV
  obtain ⟨bs, hr, hl, hs⟩ := open_code Try.underlying22 Try.underlying5 cellsByte (hval 0 22 v0 rfl rfl) h0
  refine (walkFnInner bs v0 W hl hr).mono fun e W' ⟨he, hb⟩ => ?_
  subst he
  refine ⟨_, rfl, law_post (tb := 4) laidOut ?_ hW' rfl Try.underlying4 rfl rfl hb⟩
  exact all_readable (P := Try.prog) (by kernel_rfl)

theorem overFnInner : Rows.fnInnerRow.holds Try.pinned (OpenSpec.ofChange Rows.fnInnerSpec) :=
  OpenClaim.holds_of_wide 4 Try.f4 rfl rfl rfl rfl rfl rfl rfl ⟨rfl, rfl, rfl, rfl, rfl⟩ rfl rfl rfl rfl rfl (by kernel_rfl) Try.func4 (by kernel_rfl)
    (of_decide_eq_true (by kernel_rfl)) (by unfold Func.isWrapper; first | (rw [if_pos (by decide +kernel)]; kernel_rfl) | (rw [if_neg (by decide +kernel)]; exact ⟨rfl, rfl⟩))
    (fun os started H enc _ => liftedFnInner os started H enc)

/-- ████ THE STATEMENT ████ -/
theorem fnInnerHolds : Rows.FnInnerSaid :=
  overFnInner
#print axioms fnInnerHolds

end Go.Proofs.Ytgandekciocalaa
