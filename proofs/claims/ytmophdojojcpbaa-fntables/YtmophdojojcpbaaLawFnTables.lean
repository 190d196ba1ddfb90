/-
  The law FnTables.
-/
import Derived.Test.YtmophdojojcpbaaDrawHolds
import Derived.Test.YtmophdojojcpbaaG49ImplTables
import Derived.Test.YtmophdojojcpbaaImplHolds
import Derived.Test.YtmophdojojcpbaaSpecHolds
import Derived.Test.YtmophdojojcpbaaG39FnKit
import Derived.Test.YtmophdojojcpbaaG52OpenCode
import Derived.Test.YtmophdojojcpbaaRelTop
import Derived.Test.YtmophdojojcpbaaG21OpenProc
namespace Go.Proofs.Ytmophdojojcpbaa
open Go.ChangeShapes Go.WideShapes Go.ChangeAt Go.RowKit
set_option linter.unusedVariables false
set_option linter.unusedSimpArgs false
set_option maxHeartbeats 8000000
set_option maxRecDepth 20000

theorem walkFnTables (bs : List Int) (v : Value) (w : World) (hl : bs.length ≤ maxLen) (hv : Reads w v (bs.map (Value.int .u8))) :
    Calls Try.prog 3 #[v] w fun e w' => e = .returned (.bool true) ∧ Below w.heap.size w w' := by
  have hbig := lawBig bs v w hl hv
  by_cases hb : (4096 : Int) < (bs.length : Int)
  · rw [decide_eq_true hb] at hbig
    go_enter Try.func3, Try.ntmps3
    go_wp2_with (go_at_call 7; refine hbig.mono ?_; rintro e w1 ⟨rfl, rfl⟩)
    go_ret
    exact ⟨rfl, Below.refl _ _⟩
  rw [decide_eq_false hb] at hbig
  go_enter Try.func3, Try.ntmps3
  go_wp2_with fail
  go_at_call 7
  refine hbig.mono ?_
  rintro e w1 ⟨rfl, rfl⟩
  clear hbig
  go_wp2_with fail
  go_at_call 8
  refine (drawTables bs v w (by omega) hv).mono ?_
  rintro r w1 ⟨up, Lp, c, rfl, hp5, hp14, prp, b1⟩
  obtain ⟨ps, rp, hpL⟩ := prp.reads
  obtain ⟨hps, hpe⟩ := drawn_lensK hpL hp5 hp14
  obtain ⟨pa, pn, pc, rfl⟩ := prp.slice
  obtain rfl := readsP_len rp
  obtain ⟨A, hA⟩ := tabA_some ps c
  have HA : Hid (TabA ps c A) := hA
  obtain ⟨hAl, hAx⟩ := tabA_len7 hA
  have hAm : A.length ≤ maxLen := by unfold maxLen; omega
  have hAxm : ∀ xs ∈ A, xs.length ≤ maxLen := fun xs hx => by have := hAx xs hx; unfold maxLen; omega
  clear hA
  have RV : Hid (Reads w1 v (bs.map (Value.int .u8))) := reads_below hv b1
  have LW : Hid (Below w.heap.size w w1) := b1
  have RP : Hid (ReadsP w1 (.slice pa ps.length pc) ps) := rp
  clear prp rp b1 hpL hp5 hp14
  obtain ⟨w2, hAw2⟩ : ∃ W, w1.alloc (.cells #[.slice pa ps.length pc] 26) = W := ⟨_, rfl⟩
  have bb : Below w1.heap.size w1 w2 := by rw [← hAw2]; go_grown
  obtain ⟨bP, hBw2⟩ : ∃ n, w1.heap.size = n := ⟨_, rfl⟩
  have Pn : Hid (w2.heap[bP]? = some (.cells #[.slice pa ps.length pc] 26 (0, 0))) := by
    show w2.heap[bP]? = _
    rw [← hAw2, ← hBw2]; exact heap_alloc_new w1 _
  have RVx : Hid (Reads w2 v (bs.map (Value.int .u8))) := reads_below RV.out bb
  have LWx : Hid (Below w.heap.size w w2) := low_step LW.out bb
  have RPx : Hid (ReadsP w2 (.slice pa ps.length pc) ps) := readsP_below RP.out bb
  clear RV LW RP
  have RV : Hid (Reads w2 v (bs.map (Value.int .u8))) := RVx.out
  have LW : Hid (Below w.heap.size w w2) := LWx.out
  have RP : Hid (ReadsP w2 (.slice pa ps.length pc) ps) := RPx.out
  clear RVx LWx RPx
  clear bb
  have P : Hid (w2.heap[bP]? = some (.cells #[.slice pa ps.length pc] 26 (0, 0))) := Pn.out
  clear Pn
  obtain ⟨cP, -⟩ := one_cell P.out
  have hcall := implTables ps c A HA.out (.slice pa ps.length pc) w2 hps hpe RP.out
  go_wp2_with fail
  go_at_call 9
  clear hAw2 hBw2
  refine hcall.mono ?_
  rintro r w3 ⟨lv, lus, rfl, ol, _, bc⟩
  clear hcall cP
  have RVx : Hid (Reads w3 v (bs.map (Value.int .u8))) := reads_below RV.out bc
  have LWx : Hid (Below w.heap.size w w3) := low_step LW.out bc
  have RPx : Hid (ReadsP w3 (.slice pa ps.length pc) ps) := readsP_below RP.out bc
  have Px : Hid (w3.heap[bP]? = some (.cells #[.slice pa ps.length pc] 26 (0, 0))) := box_step P.out bc
  clear RV LW RP P
  have RV : Hid (Reads w3 v (bs.map (Value.int .u8))) := RVx.out
  have LW : Hid (Below w.heap.size w w3) := LWx.out
  have RP : Hid (ReadsP w3 (.slice pa ps.length pc) ps) := RPx.out
  have P : Hid (w3.heap[bP]? = some (.cells #[.slice pa ps.length pc] 26 (0, 0))) := Px.out
  clear RVx LWx RPx Px
  obtain ⟨la, ln, lc, rfl⟩ := own_slice ol.row
  obtain rfl := ownSS_len ol
  have OL : Hid (OwnSS w3 (w2.heap.size) (.slice la A.length lc) lus A) := ol
  clear ol bc
  have hcall := drawHolds bs v w3 (by omega) RV.out
  go_wp2_with fail
  go_at_call 10
  refine hcall.mono ?_
  rintro r w4 ⟨uq, Lq, n, xv, X, rfl, hq5, hq14, prq, rX, hXl, hXx, bc⟩
  clear hcall
  have RVx : Hid (Reads w4 v (bs.map (Value.int .u8))) := reads_below RV.out bc
  have LWx : Hid (Below w.heap.size w w4) := low_step LW.out bc
  have RPx : Hid (ReadsP w4 (.slice pa ps.length pc) ps) := readsP_below RP.out bc
  have Px : Hid (w4.heap[bP]? = some (.cells #[.slice pa ps.length pc] 26 (0, 0))) := box_step P.out bc
  have OLx : Hid (OwnSS w4 (w2.heap.size) (.slice la A.length lc) lus A) := OwnSS.below OL.out bc
  clear RV LW RP P OL
  have RV : Hid (Reads w4 v (bs.map (Value.int .u8))) := RVx.out
  have LW : Hid (Below w.heap.size w w4) := LWx.out
  have RP : Hid (ReadsP w4 (.slice pa ps.length pc) ps) := RPx.out
  have P : Hid (w4.heap[bP]? = some (.cells #[.slice pa ps.length pc] 26 (0, 0))) := Px.out
  have OL : Hid (OwnSS w4 (w2.heap.size) (.slice la A.length lc) lus A) := OLx.out
  clear RVx LWx RPx Px OLx
  obtain ⟨qs, rq, hqL⟩ := prq.reads
  obtain ⟨hqs, hqe⟩ := drawn_lensK hqL hq5 hq14
  obtain ⟨qa, qn, qc, rfl⟩ := prq.slice
  obtain rfl := readsP_len rq
  obtain ⟨xa, xc, hxv⟩ : ∃ a c, xv = .slice a X.length c := by obtain ⟨a, c, e, _⟩ := rX; exact ⟨a, c, e⟩
  subst hxv
  have hXm : X.length ≤ maxLen := by unfold maxLen; omega
  have hXxm : ∀ xs ∈ X, xs.length ≤ maxLen := fun xs hx => by have := hXx xs hx; unfold maxLen; omega
  obtain ⟨hb9, hH⟩ := holdA_some qs n X
  have HH : Hid (HoldA qs n X hb9) := hH
  clear hH
  clear RV
  have RQ : Hid (ReadsP w4 (.slice qa qs.length qc) qs) := rq
  have RX : Hid (ReadsSS w4 (.slice xa X.length xc) X) := rX
  clear prq rq bc hqL hq5 hq14 rX
  obtain ⟨w5, hAw5⟩ : ∃ W, w4.alloc (.cells #[.slice qa qs.length qc] 26) = W := ⟨_, rfl⟩
  have bb : Below w4.heap.size w4 w5 := by rw [← hAw5]; go_grown
  obtain ⟨bQ, hBw5⟩ : ∃ n, w4.heap.size = n := ⟨_, rfl⟩
  have Qn : Hid (w5.heap[bQ]? = some (.cells #[.slice qa qs.length qc] 26 (0, 0))) := by
    show w5.heap[bQ]? = _
    rw [← hAw5, ← hBw5]; exact heap_alloc_new w4 _
  have LWx : Hid (Below w.heap.size w w5) := low_step LW.out bb
  have RPx : Hid (ReadsP w5 (.slice pa ps.length pc) ps) := readsP_below RP.out bb
  have Px : Hid (w5.heap[bP]? = some (.cells #[.slice pa ps.length pc] 26 (0, 0))) := box_step P.out bb
  have OLx : Hid (OwnSS w5 (w2.heap.size) (.slice la A.length lc) lus A) := OwnSS.below OL.out bb
  have RQx : Hid (ReadsP w5 (.slice qa qs.length qc) qs) := readsP_below RQ.out bb
  have RXx : Hid (ReadsSS w5 (.slice xa X.length xc) X) := readsSS_below RX.out bb
  clear LW RP P OL RQ RX
  have LW : Hid (Below w.heap.size w w5) := LWx.out
  have RP : Hid (ReadsP w5 (.slice pa ps.length pc) ps) := RPx.out
  have P : Hid (w5.heap[bP]? = some (.cells #[.slice pa ps.length pc] 26 (0, 0))) := Px.out
  have OL : Hid (OwnSS w5 (w2.heap.size) (.slice la A.length lc) lus A) := OLx.out
  have RQ : Hid (ReadsP w5 (.slice qa qs.length qc) qs) := RQx.out
  have RX : Hid (ReadsSS w5 (.slice xa X.length xc) X) := RXx.out
  clear LWx RPx Px OLx RQx RXx
  clear bb
  have Q : Hid (w5.heap[bQ]? = some (.cells #[.slice qa qs.length qc] 26 (0, 0))) := Qn.out
  clear Qn
  obtain ⟨cQ, -⟩ := one_cell Q.out
  have hcall := implHolds qs n X hb9 HH.out (.slice qa qs.length qc) (.slice xa X.length xc) w5 hqs hqe hXm hXxm RQ.out RX.out
  go_wp2_with fail
  go_at_call 11
  clear hAw5 hBw5
  refine hcall.mono ?_
  rintro r w6 ⟨rfl, bc⟩
  clear hcall cQ
  have LWx : Hid (Below w.heap.size w w6) := low_step LW.out bc
  have RPx : Hid (ReadsP w6 (.slice pa ps.length pc) ps) := readsP_below RP.out bc
  have Px : Hid (w6.heap[bP]? = some (.cells #[.slice pa ps.length pc] 26 (0, 0))) := box_step P.out bc
  have OLx : Hid (OwnSS w6 (w2.heap.size) (.slice la A.length lc) lus A) := OwnSS.below OL.out bc
  have RQx : Hid (ReadsP w6 (.slice qa qs.length qc) qs) := readsP_below RQ.out bc
  have RXx : Hid (ReadsSS w6 (.slice xa X.length xc) X) := readsSS_below RX.out bc
  have Qx : Hid (w6.heap[bQ]? = some (.cells #[.slice qa qs.length qc] 26 (0, 0))) := box_step Q.out bc
  clear LW RP P OL RQ RX Q
  have LW : Hid (Below w.heap.size w w6) := LWx.out
  have RP : Hid (ReadsP w6 (.slice pa ps.length pc) ps) := RPx.out
  have P : Hid (w6.heap[bP]? = some (.cells #[.slice pa ps.length pc] 26 (0, 0))) := Px.out
  have OL : Hid (OwnSS w6 (w2.heap.size) (.slice la A.length lc) lus A) := OLx.out
  have RQ : Hid (ReadsP w6 (.slice qa qs.length qc) qs) := RQx.out
  have RX : Hid (ReadsSS w6 (.slice xa X.length xc) X) := RXx.out
  have Q : Hid (w6.heap[bQ]? = some (.cells #[.slice qa qs.length qc] 26 (0, 0))) := Qx.out
  clear LWx RPx Px OLx RQx RXx Qx
  clear bc
  obtain ⟨cP, -⟩ := one_cell P.out
  have hcall := specTables ps c A HA.out (.slice pa ps.length pc) w6 hps hpe RP.out
  go_wp2_with fail
  go_at_call 13
  refine hcall.mono ?_
  rintro r w7 ⟨sv, sus, rfl, os1, bc⟩
  clear hcall cP
  have LWx : Hid (Below w.heap.size w w7) := low_step LW.out bc
  have RPx : Hid (ReadsP w7 (.slice pa ps.length pc) ps) := readsP_below RP.out bc
  have Px : Hid (w7.heap[bP]? = some (.cells #[.slice pa ps.length pc] 26 (0, 0))) := box_step P.out bc
  have OLx : Hid (OwnSS w7 (w2.heap.size) (.slice la A.length lc) lus A) := OwnSS.below OL.out bc
  have RQx : Hid (ReadsP w7 (.slice qa qs.length qc) qs) := readsP_below RQ.out bc
  have RXx : Hid (ReadsSS w7 (.slice xa X.length xc) X) := readsSS_below RX.out bc
  have Qx : Hid (w7.heap[bQ]? = some (.cells #[.slice qa qs.length qc] 26 (0, 0))) := box_step Q.out bc
  clear LW RP P OL RQ RX Q
  have LW : Hid (Below w.heap.size w w7) := LWx.out
  have RP : Hid (ReadsP w7 (.slice pa ps.length pc) ps) := RPx.out
  have P : Hid (w7.heap[bP]? = some (.cells #[.slice pa ps.length pc] 26 (0, 0))) := Px.out
  have OL : Hid (OwnSS w7 (w2.heap.size) (.slice la A.length lc) lus A) := OLx.out
  have RQ : Hid (ReadsP w7 (.slice qa qs.length qc) qs) := RQx.out
  have RX : Hid (ReadsSS w7 (.slice xa X.length xc) X) := RXx.out
  have Q : Hid (w7.heap[bQ]? = some (.cells #[.slice qa qs.length qc] 26 (0, 0))) := Qx.out
  clear LWx RPx Px OLx RQx RXx Qx
  have RS : Hid (ReadsSS w7 sv A) := os1.reads
  clear os1 bc
  have hcall := likeLists A _ sv w7 hAm hAxm OL.out.reads RS.out
  go_wp2_with fail
  go_at_call 12
  refine hcall.mono ?_
  rintro r w8 ⟨rfl, bc⟩
  clear hcall
  have LWx : Hid (Below w.heap.size w w8) := low_step LW.out bc
  have RPx : Hid (ReadsP w8 (.slice pa ps.length pc) ps) := readsP_below RP.out bc
  have Px : Hid (w8.heap[bP]? = some (.cells #[.slice pa ps.length pc] 26 (0, 0))) := box_step P.out bc
  have OLx : Hid (OwnSS w8 (w2.heap.size) (.slice la A.length lc) lus A) := OwnSS.below OL.out bc
  have RQx : Hid (ReadsP w8 (.slice qa qs.length qc) qs) := readsP_below RQ.out bc
  have RXx : Hid (ReadsSS w8 (.slice xa X.length xc) X) := readsSS_below RX.out bc
  have Qx : Hid (w8.heap[bQ]? = some (.cells #[.slice qa qs.length qc] 26 (0, 0))) := box_step Q.out bc
  have RSx : Hid (ReadsSS w8 sv A) := readsSS_below RS.out bc
  clear LW RP P OL RQ RX Q RS
  have LW : Hid (Below w.heap.size w w8) := LWx.out
  have RP : Hid (ReadsP w8 (.slice pa ps.length pc) ps) := RPx.out
  have P : Hid (w8.heap[bP]? = some (.cells #[.slice pa ps.length pc] 26 (0, 0))) := Px.out
  have OL : Hid (OwnSS w8 (w2.heap.size) (.slice la A.length lc) lus A) := OLx.out
  have RQ : Hid (ReadsP w8 (.slice qa qs.length qc) qs) := RQx.out
  have RX : Hid (ReadsSS w8 (.slice xa X.length xc) X) := RXx.out
  have Q : Hid (w8.heap[bQ]? = some (.cells #[.slice qa qs.length qc] 26 (0, 0))) := Qx.out
  have RS : Hid (ReadsSS w8 sv A) := RSx.out
  clear LWx RPx Px OLx RQx RXx Qx RSx
  clear RS
  clear bc
  obtain ⟨cQ, -⟩ := one_cell Q.out
  have hcall := specHolds qs n X hb9 HH.out (.slice qa qs.length qc) (.slice xa X.length xc) w8 hqs hqe hXm hXxm RQ.out RX.out
  go_wp2_with fail
  go_at_call 14
  refine hcall.mono ?_
  rintro r w9 ⟨rfl, bc⟩
  clear hcall cQ
  have LWx : Hid (Below w.heap.size w w9) := low_step LW.out bc
  have RPx : Hid (ReadsP w9 (.slice pa ps.length pc) ps) := readsP_below RP.out bc
  have Px : Hid (w9.heap[bP]? = some (.cells #[.slice pa ps.length pc] 26 (0, 0))) := box_step P.out bc
  have OLx : Hid (OwnSS w9 (w2.heap.size) (.slice la A.length lc) lus A) := OwnSS.below OL.out bc
  have RQx : Hid (ReadsP w9 (.slice qa qs.length qc) qs) := readsP_below RQ.out bc
  have RXx : Hid (ReadsSS w9 (.slice xa X.length xc) X) := readsSS_below RX.out bc
  have Qx : Hid (w9.heap[bQ]? = some (.cells #[.slice qa qs.length qc] 26 (0, 0))) := box_step Q.out bc
  clear LW RP P OL RQ RX Q
  have LW : Hid (Below w.heap.size w w9) := LWx.out
  have RP : Hid (ReadsP w9 (.slice pa ps.length pc) ps) := RPx.out
  have P : Hid (w9.heap[bP]? = some (.cells #[.slice pa ps.length pc] 26 (0, 0))) := Px.out
  have OL : Hid (OwnSS w9 (w2.heap.size) (.slice la A.length lc) lus A) := OLx.out
  have RQ : Hid (ReadsP w9 (.slice qa qs.length qc) qs) := RQx.out
  have RX : Hid (ReadsSS w9 (.slice xa X.length xc) X) := RXx.out
  have Q : Hid (w9.heap[bQ]? = some (.cells #[.slice qa qs.length qc] 26 (0, 0))) := Qx.out
  clear LWx RPx Px OLx RQx RXx Qx
  clear bc
  have hnb : (hb9 != hb9) = false := by cases hb9 <;> rfl
  obtain ⟨SECOND, hsecond⟩ : ∃ x : Nat, x = 0 := ⟨_, rfl⟩
  clear hsecond SECOND
  cases hb9 with
  | true =>
    obtain ⟨T, hT⟩ := tabA_some qs n
    obtain ⟨hTl, hTw⟩ := hold_least HH.out hT
    have HTW : Hid (∀ i, i < T.length → withinAns (T.getD i []) (X.getD i []) = true ∧ (T.getD i []).length ≤ 7) := hTw
    obtain ⟨cQ, -⟩ := one_cell Q.out
    have hcall := implTables qs n T hT (.slice qa qs.length qc) w9 hqs hqe RQ.out
    clear hT hTw
    go_wp2_with fail
    go_at_call 9
    refine hcall.mono ?_
    rintro r z1 ⟨tv, tus, rfl, ot, _, bc⟩
    obtain ⟨ta, tn, tc, rfl⟩ := own_slice ot.row
    obtain rfl := ownSS_len ot
    have OT : Hid (OwnSS z1 (w9.heap.size) (.slice ta T.length tc) tus T) := ot
    have Bz : Hid (Below w9.heap.size w9 z1) := bc
    have hT1 : T.length ≤ 1000 := by omega
    have HTL : Hid (T.length = X.length) := hTl
    clear hTl
    clear hcall ot bc cQ
    go_wp2_with fail
    go_loopw [11] (fun q wr => ∃ i : Nat, i ≤ T.length ∧ q = .int .i64 i ∧ Below z1.heap.size z1 wr) (fun q _ => T.length - (intOf q).toNat)
    case atStart => exact ⟨0, Nat.zero_le _, rfl, Below.refl _ _⟩
    case round =>
      obtain ⟨i, hil, rfl, hbr⟩ := hrel
      by_cases hi : i < T.length
      · have hi' : (i : Int) < (T.length : Int) := by omega
        have hi0 : (0 : Int) ≤ (i : Int) := by omega
        have hiX : i < X.length := by have := HTL.out; omega
        have hiX' : (i : Int) < (X.length : Int) := by omega
        have HBR : Hid (Below z1.heap.size z1 wr) := hbr
        obtain ⟨gl, hgl⟩ := ownSS_some OT.out (by omega)
        subst hgl
        obtain ⟨ui, _, cu, ou⟩ := (OT.out.below hbr).at (j := i) hi
        obtain ⟨ao, cap, e, hxc⟩ := readsSS_below RX.out (low_step Bz.out hbr)
        injection e with e1 e2 e3
        subst e1
        obtain ⟨gx, ox, xi, hxa, cx, rx⟩ := hxc i (X[i]'hiX) (by simp [hiX])
        subst hxa
        have g1 : T.getD i [] = T[i]'hi := by simp [List.getD, hi]
        have g2 : X.getD i [] = X[i]'hiX := by simp [List.getD, hiX]
        obtain ⟨hw, h7⟩ := HTW.out i hi
        rw [g1, g2] at hw
        rw [g1] at h7
        have hwn := fun X' (hX' : Below wr.heap.size wr X') => implWithin (T[i]'hi) (X[i]'hiX) ui xi X' (by unfold maxLen; omega) (hXxm _ (List.getElem_mem hiX)) (reads_below (reads_own ou) hX') (reads_below rx hX')
        rw [hw] at hwn
        have HS9 : Hid (∀ X', Below wr.heap.size wr X' → X'.cell? ⟨gl, i, none⟩ = some ui ∧ X'.cell? ⟨gx, ox + i, none⟩ = some xi) := fun X' hX' => ⟨cell_step cu hX', cell_step cx hX'⟩
        have hS9 := HS9.out wr (Below.refl _ _)
        clear hbr e2 e3 hxc ou rx g1 g2 hw h7
        go_wp2_with fail
        refine wp_region_held_drew (S := fun X => X.cell? ⟨gl, i, none⟩ = some (ui) ∧ X.cell? ⟨gx, ox + i, none⟩ = some (xi)) (by kernel_rfl) hS9 (fun hHeld => ?_)
        refine wpAnyH_take (i := 0) (oi := ?oia0) (v := .slice (some ⟨gl, 0, none⟩) T.length tc) ?hia0 (by kernel_rfl) (by kernel_rfl) (by kernel_rfl) ?hqa0 ?hya0 hHeld ?hra0
        case hia0 =>
          simp only [List.getElem?_toArray, List.getElem?_cons_succ, List.getElem?_cons_zero]
          rfl
        case hqa0 => exact fun _ _ _ h => h
        case hya0 => exact Or.inl ⟨by kernel_rfl, fun w hSw => by go_simp⟩
        try simp only [Act.put, List.setIfInBounds_toArray, List.set_cons_zero, List.set_cons_succ]
        refine wpAnyH_take (i := 1) (oi := ?oia1) (v := .int .i64 (i : Int)) ?hia1 (by kernel_rfl) (by kernel_rfl) (by kernel_rfl) ?hqa1 ?hya1 hHeld ?hra1
        case hia1 =>
          simp only [List.getElem?_toArray, List.getElem?_cons_succ, List.getElem?_cons_zero]
          rfl
        case hqa1 => exact fun _ _ _ h => h
        case hya1 => exact Or.inl ⟨by kernel_rfl, fun w hSw => by go_simp⟩
        try simp only [Act.put, List.setIfInBounds_toArray, List.set_cons_zero, List.set_cons_succ]
        refine wpAnyH_take (i := 2) (oi := ?oia2) (v := .pointer (some ⟨gl, i, none⟩)) ?hia2 (by kernel_rfl) (by kernel_rfl) (by kernel_rfl) ?hqa2 ?hya2 hHeld ?hra2
        case hia2 =>
          simp only [List.getElem?_toArray, List.getElem?_cons_succ, List.getElem?_cons_zero]
          rfl
        case hqa2 => exact fun _ _ _ h => h
        case hya2 => exact Or.inl ⟨by kernel_rfl, fun w hSw => by go_simp⟩
        try simp only [Act.put, List.setIfInBounds_toArray, List.set_cons_zero, List.set_cons_succ]
        refine wpAnyH_take (i := 3) (oi := ?oia3) (v := ui) ?hia3 (by kernel_rfl) (by kernel_rfl) (by kernel_rfl) ?hqa3 ?hya3 hHeld ?hra3
        case hia3 =>
          simp only [List.getElem?_toArray, List.getElem?_cons_succ, List.getElem?_cons_zero]
          rfl
        case hqa3 => exact fun _ _ _ h => h
        case hya3 => exact Or.inl ⟨by kernel_rfl, fun w hSw => by obtain ⟨s0, s1⟩ := hSw; go_simp⟩
        try simp only [Act.put, List.setIfInBounds_toArray, List.set_cons_zero, List.set_cons_succ]
        refine wpAnyH_take (i := 4) (oi := ?oia4) (v := .slice (some ⟨gx, ox, none⟩) X.length xc) ?hia4 (by kernel_rfl) (by kernel_rfl) (by kernel_rfl) ?hqa4 ?hya4 hHeld ?hra4
        case hia4 =>
          simp only [List.getElem?_toArray, List.getElem?_cons_succ, List.getElem?_cons_zero]
          rfl
        case hqa4 => exact fun _ _ _ h => h
        case hya4 => exact Or.inl ⟨by kernel_rfl, fun w hSw => by go_simp⟩
        try simp only [Act.put, List.setIfInBounds_toArray, List.set_cons_zero, List.set_cons_succ]
        refine wpAnyH_take (i := 5) (oi := ?oia5) (v := .int .i64 (i : Int)) ?hia5 (by kernel_rfl) (by kernel_rfl) (by kernel_rfl) ?hqa5 ?hya5 hHeld ?hra5
        case hia5 =>
          simp only [List.getElem?_toArray, List.getElem?_cons_succ, List.getElem?_cons_zero]
          rfl
        case hqa5 => exact fun _ _ _ h => h
        case hya5 => exact Or.inl ⟨by kernel_rfl, fun w hSw => by go_simp⟩
        try simp only [Act.put, List.setIfInBounds_toArray, List.set_cons_zero, List.set_cons_succ]
        refine wpAnyH_take (i := 6) (oi := ?oia6) (v := .pointer (some ⟨gx, ox + i, none⟩)) ?hia6 (by kernel_rfl) (by kernel_rfl) (by kernel_rfl) ?hqa6 ?hya6 hHeld ?hra6
        case hia6 =>
          simp only [List.getElem?_toArray, List.getElem?_cons_succ, List.getElem?_cons_zero]
          rfl
        case hqa6 => exact fun _ _ _ h => h
        case hya6 => exact Or.inl ⟨by kernel_rfl, fun w hSw => by go_simp⟩
        try simp only [Act.put, List.setIfInBounds_toArray, List.set_cons_zero, List.set_cons_succ]
        refine wpAnyH_take (i := 7) (oi := ?oia7) (v := xi) ?hia7 (by kernel_rfl) (by kernel_rfl) (by kernel_rfl) ?hqa7 ?hya7 hHeld ?hra7
        case hia7 =>
          simp only [List.getElem?_toArray, List.getElem?_cons_succ, List.getElem?_cons_zero]
          rfl
        case hqa7 => exact fun _ _ _ h => h
        case hya7 => exact Or.inl ⟨by kernel_rfl, fun w hSw => by obtain ⟨s0, s1⟩ := hSw; go_simp⟩
        try simp only [Act.put, List.setIfInBounds_toArray, List.set_cons_zero, List.set_cons_succ]
        refine wpAnyH_ready (rs := [8]) (by kernel_rfl) (by simp) ?_
        refine (AllReadyH.cons (o := ?ooa8) ?hoa8 (fun K hK => ?hka8) AllReadyH.nil)
        case hoa8 =>
          simp only [List.getElem?_toArray, List.getElem?_cons_succ, List.getElem?_cons_zero]
          rfl
        case hka8 =>
          go_simp
          go_at_call 15
          refine (hwn wr.drew (Below.drew (Below.refl _ _))).mono ?_
          rintro e y1 ⟨rfl, bq⟩
          have Y1 : Hid (Below wr.heap.size wr y1) := Below.trans (Below.drew (Below.refl _ _)) bq
          clear bq 
          try go_wp2_with fail
          refine hK.out _ _ (HS9.out _ Y1.out) (fun hHeld => ?_)
          clear hK K
          try simp only [Act.put, List.setIfInBounds_toArray, List.set_cons_zero, List.set_cons_succ]
          refine wpAnyH_take (i := 9) (oi := ?oia9) (v := .bool false) ?hia9 (by kernel_rfl) (by kernel_rfl) (by kernel_rfl) ?hqa9 ?hya9 hHeld ?hra9
          case hia9 =>
            simp only [List.getElem?_toArray, List.getElem?_cons_succ, List.getElem?_cons_zero]
            rfl
          case hqa9 => exact fun _ _ _ h => h
          case hya9 => exact Or.inl ⟨by kernel_rfl, fun w hSw => by go_simp⟩
          try simp only [Act.put, List.setIfInBounds_toArray, List.set_cons_zero, List.set_cons_succ]
          refine wpAnyH_done (by kernel_rfl) ?_ _
          have BZ : Hid (Below z1.heap.size z1 y1) := low_step HBR.out Y1.out
          go_wp2
          go_roundw
          case rel => exact ⟨i + 1, by omega, by go_num, BZ.out⟩
          case measure => simp [intOf]; omega
      · obtain rfl : i = T.length := by omega
        have hni : ¬ (T.length : Int) < (T.length : Int) := by omega
        have HBW : Hid (Below w9.heap.size w9 wr) := low_step Bz.out hbr
        clear hbr
        have LWs : Hid (Below w.heap.size w wr) := low_step LW.out HBW.out
        have OLs : Hid (OwnSS wr (w2.heap.size) (.slice la A.length lc) lus A) := OL.out.below HBW.out
        have Ps : Hid (wr.heap[bP]? = some (.cells #[.slice pa ps.length pc] 26 (0, 0))) := box_step P.out HBW.out
        have RPs : Hid (ReadsP wr (.slice pa ps.length pc) ps) := readsP_below RP.out HBW.out
        obtain ⟨cPs, -⟩ := one_cell Ps.out
        by_cases h0 : A.length = 0
        · have h0' : (A.length : Int) = 0 := by omega
          have hnone := tab_none HA.out h0
          have hso := specProgramOk ps (.slice pa ps.length pc) wr hps hpe RPs.out
          obtain ⟨ok, hok⟩ : ∃ b, programOk ps = b := ⟨_, rfl⟩
          rw [hok] at hnone hso
          have HN : Hid (ok = false ∨ c < 1 ∨ 2 < c) := hnone
          clear hnone hok
          go_wp2_with fail
          go_at_call 16
          refine hso.mono ?_
          rintro r z9 ⟨rfl, bc⟩
          have HE : Hid (Below w.heap.size w z9) := low_step LWs.out bc
          clear bc hso
          cases ok with
          | false =>
            go_wp2
            go_ret
            exact ⟨rfl, HE.out⟩
          | true =>
            by_cases h1 : c < 1
            · have hd : decide (c < 1) = true := by simpa using h1
              go_wp2
              go_ret
              exact ⟨rfl, HE.out⟩
            · have h2 : 2 < c := by
                rcases HN.out with h | h | h
                · cases h
                · exact absurd h h1
                · exact h
              have hd : decide (c < 1) = false := by simpa using h1
              have hd2 : decide ((2 : Int) < c) = true := by simpa using h2
              go_wp2
              go_ret
              exact ⟨rfl, HE.out⟩
        · have h0' : ¬ (A.length : Int) = 0 := by omega
          have h0b : ((A.length : Int) == 0) = false := beq_eq_false_iff_ne.2 h0'
          obtain ⟨hb8, hHA⟩ := holdA_some ps c A
          obtain ⟨hbt, hAp, hrel⟩ := tab_holds HA.out (by omega) hHA
          subst hbt
          have HHA : Hid (HoldA ps c A true) := hHA
          have HREL : Hid (∀ i, i < A.length → relOk (A.getD i []) = true) := hrel
          obtain ⟨gl9, hgl9⟩ := ownSS_some OLs.out (by omega)
          subst hgl9
          have hpl : ps.length ≤ 1000 := by omega
          have HAP : Hid (A.length = ps.length) := hAp
          clear hHA hrel hAp
          go_wp2_with fail
          obtain ⟨ws, hws⟩ : ∃ x, x = wr := ⟨_, rfl⟩
          subst hws
          go_loopw [12] (fun q wr => ∃ i : Nat, i ≤ A.length ∧ q = .int .i64 i ∧ Below ws.heap.size ws wr) (fun q _ => A.length - (intOf q).toNat)
          case atStart => exact ⟨0, Nat.zero_le _, rfl, Below.refl _ _⟩
          case round =>
            obtain ⟨i, hil, rfl, hbr⟩ := hrel
            have HBR9 : Hid (Below ws.heap.size ws wr) := hbr
            by_cases hi : i < A.length
            · have hi' : (i : Int) < (A.length : Int) := by omega
              have hi0 : (0 : Int) ≤ (i : Int) := by omega
              obtain ⟨ui, _, cu, ou⟩ := (OLs.out.below hbr).at (j := i) hi
              have g1 : A.getD i [] = A[i]'hi := by simp [List.getD, hi]
              have hr := HREL.out i hi
              rw [g1] at hr
              have hro := implRelOk (A[i]'hi) ui wr (hAxm _ (List.getElem_mem hi)) (reads_own ou)
              rw [hr] at hro
              clear hbr ou g1 hr
              go_wp2_with fail
              go_at_call 17
              refine hro.mono ?_
              rintro r z9 ⟨rfl, bc⟩
              have BZ : Hid (Below ws.heap.size ws z9) := low_step HBR9.out bc
              clear bc hro cu
              go_wp2
              go_roundw
              case rel => exact ⟨i + 1, by omega, by go_num, BZ.out⟩
              case measure => simp [intOf]; omega
            · obtain rfl : i = A.length := by omega
              have hni : ¬ (A.length : Int) < (A.length : Int) := by omega
              have hho := implHolds ps c A true HHA.out (.slice pa ps.length pc) (.slice (some ⟨gl9, 0, none⟩) A.length lc) wr hps hpe hAm hAxm (readsP_below RPs.out hbr) (OLs.out.below hbr).reads
              obtain ⟨cP9, -⟩ := one_cell (box_step Ps.out hbr)
              clear hbr cPs
              go_wp2_with fail
              go_at_call 11
              refine hho.mono ?_
              rintro r z9 ⟨rfl, bc⟩
              have HB9 : Hid (Below ws.heap.size ws z9) := low_step HBR9.out bc
              obtain ⟨cP8, -⟩ := one_cell (box_step Ps.out HB9.out)
              have hlen : (A.length : Int) = (ps.length : Int) := by have := HAP.out; omega
              have hd : decide ((A.length : Int) = (ps.length : Int)) = true := decide_eq_true hlen
              have hd' : ((A.length : Int) == (ps.length : Int)) = true := by simpa using hlen
              clear bc hho cP9
              go_wp2
              go_ret
              exact ⟨rfl, low_step LWs.out HB9.out⟩
  | false =>
    have HB0 : Hid (Below w9.heap.size w9 w9) := Below.refl _ _
    have LWs : Hid (Below w.heap.size w w9) := low_step LW.out HB0.out
    have OLs : Hid (OwnSS w9 (w2.heap.size) (.slice la A.length lc) lus A) := OL.out.below HB0.out
    have Ps : Hid (w9.heap[bP]? = some (.cells #[.slice pa ps.length pc] 26 (0, 0))) := box_step P.out HB0.out
    have RPs : Hid (ReadsP w9 (.slice pa ps.length pc) ps) := readsP_below RP.out HB0.out
    obtain ⟨cPs, -⟩ := one_cell Ps.out
    by_cases h0 : A.length = 0
    · have h0' : (A.length : Int) = 0 := by omega
      have hnone := tab_none HA.out h0
      have hso := specProgramOk ps (.slice pa ps.length pc) w9 hps hpe RPs.out
      obtain ⟨ok, hok⟩ : ∃ b, programOk ps = b := ⟨_, rfl⟩
      rw [hok] at hnone hso
      have HN : Hid (ok = false ∨ c < 1 ∨ 2 < c) := hnone
      clear hnone hok
      go_wp2_with fail
      go_at_call 16
      refine hso.mono ?_
      rintro r z9 ⟨rfl, bc⟩
      have HE : Hid (Below w.heap.size w z9) := low_step LWs.out bc
      clear bc hso
      cases ok with
      | false =>
        go_wp2
        go_ret
        exact ⟨rfl, HE.out⟩
      | true =>
        by_cases h1 : c < 1
        · have hd : decide (c < 1) = true := by simpa using h1
          go_wp2
          go_ret
          exact ⟨rfl, HE.out⟩
        · have h2 : 2 < c := by
            rcases HN.out with h | h | h
            · cases h
            · exact absurd h h1
            · exact h
          have hd : decide (c < 1) = false := by simpa using h1
          have hd2 : decide ((2 : Int) < c) = true := by simpa using h2
          go_wp2
          go_ret
          exact ⟨rfl, HE.out⟩
    · have h0' : ¬ (A.length : Int) = 0 := by omega
      have h0b : ((A.length : Int) == 0) = false := beq_eq_false_iff_ne.2 h0'
      obtain ⟨hb8, hHA⟩ := holdA_some ps c A
      obtain ⟨hbt, hAp, hrel⟩ := tab_holds HA.out (by omega) hHA
      subst hbt
      have HHA : Hid (HoldA ps c A true) := hHA
      have HREL : Hid (∀ i, i < A.length → relOk (A.getD i []) = true) := hrel
      obtain ⟨gl9, hgl9⟩ := ownSS_some OLs.out (by omega)
      subst hgl9
      have hpl : ps.length ≤ 1000 := by omega
      have HAP : Hid (A.length = ps.length) := hAp
      clear hHA hrel hAp
      go_wp2_with fail
      obtain ⟨ws, hws⟩ : ∃ x, x = w9 := ⟨_, rfl⟩
      subst hws
      go_loopw [12] (fun q wr => ∃ i : Nat, i ≤ A.length ∧ q = .int .i64 i ∧ Below ws.heap.size ws wr) (fun q _ => A.length - (intOf q).toNat)
      case atStart => exact ⟨0, Nat.zero_le _, rfl, Below.refl _ _⟩
      case round =>
        obtain ⟨i, hil, rfl, hbr⟩ := hrel
        have HBR9 : Hid (Below ws.heap.size ws wr) := hbr
        by_cases hi : i < A.length
        · have hi' : (i : Int) < (A.length : Int) := by omega
          have hi0 : (0 : Int) ≤ (i : Int) := by omega
          obtain ⟨ui, _, cu, ou⟩ := (OLs.out.below hbr).at (j := i) hi
          have g1 : A.getD i [] = A[i]'hi := by simp [List.getD, hi]
          have hr := HREL.out i hi
          rw [g1] at hr
          have hro := implRelOk (A[i]'hi) ui wr (hAxm _ (List.getElem_mem hi)) (reads_own ou)
          rw [hr] at hro
          clear hbr ou g1 hr
          go_wp2_with fail
          go_at_call 17
          refine hro.mono ?_
          rintro r z9 ⟨rfl, bc⟩
          have BZ : Hid (Below ws.heap.size ws z9) := low_step HBR9.out bc
          clear bc hro cu
          go_wp2
          go_roundw
          case rel => exact ⟨i + 1, by omega, by go_num, BZ.out⟩
          case measure => simp [intOf]; omega
        · obtain rfl : i = A.length := by omega
          have hni : ¬ (A.length : Int) < (A.length : Int) := by omega
          have hho := implHolds ps c A true HHA.out (.slice pa ps.length pc) (.slice (some ⟨gl9, 0, none⟩) A.length lc) wr hps hpe hAm hAxm (readsP_below RPs.out hbr) (OLs.out.below hbr).reads
          obtain ⟨cP9, -⟩ := one_cell (box_step Ps.out hbr)
          clear hbr cPs
          go_wp2_with fail
          go_at_call 11
          refine hho.mono ?_
          rintro r z9 ⟨rfl, bc⟩
          have HB9 : Hid (Below ws.heap.size ws z9) := low_step HBR9.out bc
          obtain ⟨cP8, -⟩ := one_cell (box_step Ps.out HB9.out)
          have hlen : (A.length : Int) = (ps.length : Int) := by have := HAP.out; omega
          have hd : decide ((A.length : Int) = (ps.length : Int)) = true := decide_eq_true hlen
          have hd' : ((A.length : Int) == (ps.length : Int)) = true := by simpa using hlen
          clear bc hho cP9
          go_wp2
          go_ret
          exact ⟨rfl, low_step LWs.out HB9.out⟩

set_option maxRecDepth 100000 in
theorem liftedFnTables (os : Os) (started : os.Started) (H : Type) (enc : TypeId × Value → H) :
    ReturnsInHanded {} Try.checked os 3 .any (Rows.fnTablesSpec.pre6 enc Try.prog Try.f3 Rows.fnTablesRow.domain false) (Rows.fnTablesSpec.post enc Try.prog Try.f3 false true false false) := by
  refine returnsInHanded_of_change (C := Try.checked) own started (by kernel_rfl) Try.func3
    (ChangeSpec.witness6 (enc := enc) (C := Try.checked) false ⟨#[], #[.slice none 0 0], []⟩ 8 (by kernel_rfl) (by kernel_rfl) (by kernel_rfl) (by kernel_rfl)) ?_
  intro W base args ds gs before hval0 hW hcnd _
  have hval : ∀ (j : Nat) t v, Try.f3.params[j]? = some t → args[j]? = some v → Value.okWide Try.prog W .any base t v := hval0
  have hW' := hW
  obtain ⟨p, q, hA0, hV, rfl, hfz, hnd⟩ := hW
  have hA : DataW.TrodAll enc Try.prog W 0 (fun _ => true) true Try.f3.params.toList args.toList ds p := hA0
  rw [Try.params3] at hA hval
  obtain ⟨v0, vs0, d0, ds0, p0, q0, hargs, rfl, rfl, h0, r0⟩ := trodAll_cons hA
  obtain ⟨rfl, rfl, rfl⟩ := trodAll_nil r0
  obtain rfl : args = #[v0] := by cases args; simp_all
  obtain ⟨rfl, rfl⟩ := trodVars_none hV
  obtain ⟨bs, hr, hl, hs⟩ := open_code Try.underlying22 Try.underlying5 cellsByte (hval 0 22 v0 rfl rfl) h0
  refine (walkFnTables bs v0 W hl hr).mono fun e W' ⟨he, hb⟩ => ?_
  subst he
  refine ⟨_, rfl, law_post (tb := 4) laidOut ?_ hW' rfl Try.underlying4 rfl rfl hb⟩
  exact all_readable (P := Try.prog) (by kernel_rfl)

theorem overFnTables : Rows.fnTablesRow.holds Try.pinned (OpenSpec.ofChange Rows.fnTablesSpec) :=
  OpenClaim.holds_of_wide 3 Try.f3 rfl rfl rfl rfl rfl rfl rfl ⟨rfl, rfl, rfl, rfl, rfl⟩ rfl rfl rfl rfl rfl (by kernel_rfl) Try.func3 (by kernel_rfl)
    (of_decide_eq_true (by kernel_rfl)) (by unfold Func.isWrapper; first | (rw [if_pos (by decide +kernel)]; kernel_rfl) | (rw [if_neg (by decide +kernel)]; exact ⟨rfl, rfl⟩))
    (fun os started H enc _ => liftedFnTables os started H enc)

/-- ████ THE STATEMENT ████ -/
theorem fnTablesHolds : Rows.FnTablesSaid :=
  overFnTables
#print axioms fnTablesHolds

end Go.Proofs.Ytmophdojojcpbaa
