/-
  The law FnPrograms.
-/
import Derived.Test.YtmloeldgeegddaaDrawStmtOk
import Derived.Test.YtmloeldgeegddaaDrawProgs2
import Derived.Test.YtmloeldgeegddaaFnProgM
import Derived.Test.YtmloeldgeegddaaIntLaws
import Derived.Test.YtmloeldgeegddaaOpenCode
import Derived.Test.YtmloeldgeegddaaFnKit
import Derived.Test.YtmloeldgeegddaaLift
namespace Go.Proofs.Ytmloeldgeegddaa
open Go.ChangeShapes Go.WideShapes Go.ChangeAt Go.RowKit
set_option linter.unusedVariables false
set_option linter.unusedSimpArgs false
set_option maxHeartbeats 8000000
set_option maxRecDepth 20000

theorem walkFnPrograms (bs : List Int) (v : Value) (w : World) (hl : bs.length ≤ maxLen) (hv : Reads w v (bs.map (Value.int .u8))) :
    Calls Try.prog 3 #[v] w fun e w' => e = .returned (.bool true) ∧ Below w.heap.size w w' := by
  have hbig := lawBig bs v w hl hv
  by_cases hb : (4096 : Int) < (bs.length : Int)
  · rw [decide_eq_true hb] at hbig
    go_enter Try.func3, Try.ntmps3
    go_wp2_with (go_at_call 6; refine hbig.mono ?_; rintro e w1 ⟨rfl, rfl⟩)
    go_ret
    exact ⟨rfl, Below.refl _ _⟩
  rw [decide_eq_false hb] at hbig
  go_enter Try.func3, Try.ntmps3
  go_wp2_with fail
  go_at_call 6
  refine hbig.mono ?_
  rintro e w1 ⟨rfl, rfl⟩
  clear hbig
  go_wp2_with fail
  go_at_call 7
  refine (drawProgramOk bs v w (by omega) hv).mono ?_
  rintro r w1 ⟨up, Lp, rfl, hp5, hp14, prp, b1⟩
  obtain ⟨ps, rp, hpL⟩ := prp.reads
  obtain ⟨hps, hpe⟩ := drawn_lensK hpL hp5 hp14
  obtain ⟨pa, pn, pc, rfl⟩ := prp.slice
  obtain rfl := readsP_len rp
  obtain ⟨ok, hok⟩ : ∃ b, programOk ps = b := ⟨_, rfl⟩
  have HOK : Hid (programOk ps = ok) := hok
  have hio := fun W hW => implProgramOk ps (.slice pa ps.length pc) W hps hpe hW
  have hso := fun W hW => specProgramOk ps (.slice pa ps.length pc) W hps hpe hW
  rw [hok] at hio hso
  clear hok
  have RV : Hid (Reads w1 v (bs.map (Value.int .u8))) := reads_below hv b1
  have LW : Hid (Below w.heap.size w w1) := b1
  have RP : Hid (ReadsP w1 (.slice pa ps.length pc) ps) := rp
  clear prp rp b1 hpL hp5 hp14
  obtain ⟨w2, hAw2⟩ : ∃ W, w1.alloc (.cells #[.slice pa ps.length pc] 26) = W := ⟨_, rfl⟩
  have bb : Below w1.heap.size w1 w2 := by rw [← hAw2]; go_grown
  obtain ⟨bP, hBw2⟩ : ∃ n, w1.heap.size = n := ⟨_, rfl⟩
  have Pn : Hid (w2.heap[bP]? = some (.cells #[.slice pa ps.length pc] 26 (0, 0))) := by
    show w2.heap[bP]? = _
    rw [← hAw2, ← hBw2]; exact heap_alloc_new w1 _
  have RVx : Hid (Reads w2 v (bs.map (Value.int .u8))) := reads_below RV.out bb
  have LWx : Hid (Below w.heap.size w w2) := low_step LW.out bb
  have RPx : Hid (ReadsP w2 (.slice pa ps.length pc) ps) := readsP_below RP.out bb
  clear RV LW RP
  have RV : Hid (Reads w2 v (bs.map (Value.int .u8))) := RVx.out
  have LW : Hid (Below w.heap.size w w2) := LWx.out
  have RP : Hid (ReadsP w2 (.slice pa ps.length pc) ps) := RPx.out
  clear RVx LWx RPx
  clear bb
  have P : Hid (w2.heap[bP]? = some (.cells #[.slice pa ps.length pc] 26 (0, 0))) := Pn.out
  clear Pn
  have hcall := drawCalls bs v w2 (by omega) RV.out
  go_wp2_with fail
  go_at_call 8
  clear hAw2 hBw2
  refine hcall.mono ?_
  rintro r w3 ⟨uq, Lq, i0, rfl, hq5, hq14, prq, bc⟩
  clear hcall
  have RVx : Hid (Reads w3 v (bs.map (Value.int .u8))) := reads_below RV.out bc
  have LWx : Hid (Below w.heap.size w w3) := low_step LW.out bc
  have RPx : Hid (ReadsP w3 (.slice pa ps.length pc) ps) := readsP_below RP.out bc
  have Px : Hid (w3.heap[bP]? = some (.cells #[.slice pa ps.length pc] 26 (0, 0))) := box_step P.out bc
  clear RV LW RP P
  have RV : Hid (Reads w3 v (bs.map (Value.int .u8))) := RVx.out
  have LW : Hid (Below w.heap.size w w3) := LWx.out
  have RP : Hid (ReadsP w3 (.slice pa ps.length pc) ps) := RPx.out
  have P : Hid (w3.heap[bP]? = some (.cells #[.slice pa ps.length pc] 26 (0, 0))) := Px.out
  clear RVx LWx RPx Px
  obtain ⟨qs, rq, hqL⟩ := prq.reads
  obtain ⟨hqs, hqe⟩ := drawn_lensK hqL hq5 hq14
  obtain ⟨qa, qn, qc, rfl⟩ := prq.slice
  obtain rfl := readsP_len rq
  have RQ : Hid (ReadsP w3 (.slice qa qs.length qc) qs) := rq
  clear prq rq bc hqL hq5 hq14
  obtain ⟨w4, hAw4⟩ : ∃ W, w3.alloc (.cells #[.slice qa qs.length qc] 26) = W := ⟨_, rfl⟩
  have bb : Below w3.heap.size w3 w4 := by rw [← hAw4]; go_grown
  obtain ⟨bQ, hBw4⟩ : ∃ n, w3.heap.size = n := ⟨_, rfl⟩
  have Qn : Hid (w4.heap[bQ]? = some (.cells #[.slice qa qs.length qc] 26 (0, 0))) := by
    show w4.heap[bQ]? = _
    rw [← hAw4, ← hBw4]; exact heap_alloc_new w3 _
  have RVx : Hid (Reads w4 v (bs.map (Value.int .u8))) := reads_below RV.out bb
  have LWx : Hid (Below w.heap.size w w4) := low_step LW.out bb
  have RPx : Hid (ReadsP w4 (.slice pa ps.length pc) ps) := readsP_below RP.out bb
  have Px : Hid (w4.heap[bP]? = some (.cells #[.slice pa ps.length pc] 26 (0, 0))) := box_step P.out bb
  have RQx : Hid (ReadsP w4 (.slice qa qs.length qc) qs) := readsP_below RQ.out bb
  clear RV LW RP P RQ
  have RV : Hid (Reads w4 v (bs.map (Value.int .u8))) := RVx.out
  have LW : Hid (Below w.heap.size w w4) := LWx.out
  have RP : Hid (ReadsP w4 (.slice pa ps.length pc) ps) := RPx.out
  have P : Hid (w4.heap[bP]? = some (.cells #[.slice pa ps.length pc] 26 (0, 0))) := Px.out
  have RQ : Hid (ReadsP w4 (.slice qa qs.length qc) qs) := RQx.out
  clear RVx LWx RPx Px RQx
  clear bb
  have Q : Hid (w4.heap[bQ]? = some (.cells #[.slice qa qs.length qc] 26 (0, 0))) := Qn.out
  clear Qn
  obtain ⟨cQ, -⟩ := one_cell Q.out
  have hcall := implCalls qs i0 (.slice qa qs.length qc) w4 hqs hqe RQ.out
  go_wp2_with fail
  go_at_call 9
  clear hAw4 hBw4
  refine hcall.mono ?_
  rintro r w5 ⟨cv, rfl, oc, bc⟩
  clear hcall cQ
  have RVx : Hid (Reads w5 v (bs.map (Value.int .u8))) := reads_below RV.out bc
  have LWx : Hid (Below w.heap.size w w5) := low_step LW.out bc
  have RPx : Hid (ReadsP w5 (.slice pa ps.length pc) ps) := readsP_below RP.out bc
  have Px : Hid (w5.heap[bP]? = some (.cells #[.slice pa ps.length pc] 26 (0, 0))) := box_step P.out bc
  have RQx : Hid (ReadsP w5 (.slice qa qs.length qc) qs) := readsP_below RQ.out bc
  have Qx : Hid (w5.heap[bQ]? = some (.cells #[.slice qa qs.length qc] 26 (0, 0))) := box_step Q.out bc
  clear RV LW RP P RQ Q
  have RV : Hid (Reads w5 v (bs.map (Value.int .u8))) := RVx.out
  have LW : Hid (Below w.heap.size w w5) := LWx.out
  have RP : Hid (ReadsP w5 (.slice pa ps.length pc) ps) := RPx.out
  have P : Hid (w5.heap[bP]? = some (.cells #[.slice pa ps.length pc] 26 (0, 0))) := Px.out
  have RQ : Hid (ReadsP w5 (.slice qa qs.length qc) qs) := RQx.out
  have Q : Hid (w5.heap[bQ]? = some (.cells #[.slice qa qs.length qc] 26 (0, 0))) := Qx.out
  clear RVx LWx RPx Px RQx Qx
  have hC12 := callsAns_length qs i0
  have HCR : Hid (Rises (callsAns qs i0)) := calls_rise qs i0
  have HCT : Hid (∀ x ∈ callsAns qs i0, ∃ (j : Nat) (p : List Stm), i0 = j ∧ qs[j]? = some p ∧ p.length ≤ 12 ∧ called p x = true ∧ 0 ≤ x ∧ x < qs.length ∧ qs.length ≤ 4) := fun x hx => calls_told hx
  have hsc := fun W hW => specCalls qs i0 (.slice qa qs.length qc) W hqs hqe hW
  obtain ⟨C, hC⟩ : ∃ C, callsAns qs i0 = C := ⟨_, rfl⟩
  rw [hC] at oc hC12 HCR HCT hsc
  clear hC
  have hCm : C.length ≤ maxLen := by unfold maxLen; omega
  obtain ⟨ca, cc, rfl⟩ := reads_form (reads_own oc)
  have RC : Hid (Reads w5 (.slice ca C.length cc) (ints C)) := reads_own oc
  clear oc bc
  have hcall := drawProcOk bs v w5 (by omega) RV.out
  go_wp2_with fail
  go_at_call 10
  refine hcall.mono ?_
  rintro r w6 ⟨ux, nx, rfl, hx14, slx, bc⟩
  clear hcall
  have RVx : Hid (Reads w6 v (bs.map (Value.int .u8))) := reads_below RV.out bc
  have LWx : Hid (Below w.heap.size w w6) := low_step LW.out bc
  have RPx : Hid (ReadsP w6 (.slice pa ps.length pc) ps) := readsP_below RP.out bc
  have Px : Hid (w6.heap[bP]? = some (.cells #[.slice pa ps.length pc] 26 (0, 0))) := box_step P.out bc
  have RQx : Hid (ReadsP w6 (.slice qa qs.length qc) qs) := readsP_below RQ.out bc
  have Qx : Hid (w6.heap[bQ]? = some (.cells #[.slice qa qs.length qc] 26 (0, 0))) := box_step Q.out bc
  have RCx : Hid (Reads w6 (.slice ca C.length cc) (ints C)) := reads_below RC.out bc
  clear RV LW RP P RQ Q RC
  have RV : Hid (Reads w6 v (bs.map (Value.int .u8))) := RVx.out
  have LW : Hid (Below w.heap.size w w6) := LWx.out
  have RP : Hid (ReadsP w6 (.slice pa ps.length pc) ps) := RPx.out
  have P : Hid (w6.heap[bP]? = some (.cells #[.slice pa ps.length pc] 26 (0, 0))) := Px.out
  have RQ : Hid (ReadsP w6 (.slice qa qs.length qc) qs) := RQx.out
  have Q : Hid (w6.heap[bQ]? = some (.cells #[.slice qa qs.length qc] 26 (0, 0))) := Qx.out
  have RC : Hid (Reads w6 (.slice ca C.length cc) (ints C)) := RCx.out
  clear RVx LWx RPx Px RQx Qx RCx
  obtain ⟨xs, rx, hxl⟩ := slx.reads
  obtain ⟨xa, xc, rfl⟩ := reads3_form rx
  have hxs : xs.length ≤ maxLen := by unfold maxLen; omega
  have RX : Hid (Reads3 w6 (.slice xa xs.length xc) xs) := rx
  clear slx rx bc hxl
  obtain ⟨w7, hAw7⟩ : ∃ W, w6.alloc (.cells #[.slice xa xs.length xc] 34) = W := ⟨_, rfl⟩
  have bb : Below w6.heap.size w6 w7 := by rw [← hAw7]; go_grown
  obtain ⟨bXB, hBw7⟩ : ∃ n, w6.heap.size = n := ⟨_, rfl⟩
  have XBn : Hid (w7.heap[bXB]? = some (.cells #[.slice xa xs.length xc] 34 (0, 0))) := by
    show w7.heap[bXB]? = _
    rw [← hAw7, ← hBw7]; exact heap_alloc_new w6 _
  have RVx : Hid (Reads w7 v (bs.map (Value.int .u8))) := reads_below RV.out bb
  have LWx : Hid (Below w.heap.size w w7) := low_step LW.out bb
  have RPx : Hid (ReadsP w7 (.slice pa ps.length pc) ps) := readsP_below RP.out bb
  have Px : Hid (w7.heap[bP]? = some (.cells #[.slice pa ps.length pc] 26 (0, 0))) := box_step P.out bb
  have RQx : Hid (ReadsP w7 (.slice qa qs.length qc) qs) := readsP_below RQ.out bb
  have Qx : Hid (w7.heap[bQ]? = some (.cells #[.slice qa qs.length qc] 26 (0, 0))) := box_step Q.out bb
  have RCx : Hid (Reads w7 (.slice ca C.length cc) (ints C)) := reads_below RC.out bb
  have RXx : Hid (Reads3 w7 (.slice xa xs.length xc) xs) := reads3_below RX.out bb
  clear RV LW RP P RQ Q RC RX
  have RV : Hid (Reads w7 v (bs.map (Value.int .u8))) := RVx.out
  have LW : Hid (Below w.heap.size w w7) := LWx.out
  have RP : Hid (ReadsP w7 (.slice pa ps.length pc) ps) := RPx.out
  have P : Hid (w7.heap[bP]? = some (.cells #[.slice pa ps.length pc] 26 (0, 0))) := Px.out
  have RQ : Hid (ReadsP w7 (.slice qa qs.length qc) qs) := RQx.out
  have Q : Hid (w7.heap[bQ]? = some (.cells #[.slice qa qs.length qc] 26 (0, 0))) := Qx.out
  have RC : Hid (Reads w7 (.slice ca C.length cc) (ints C)) := RCx.out
  have RX : Hid (Reads3 w7 (.slice xa xs.length xc) xs) := RXx.out
  clear RVx LWx RPx Px RQx Qx RCx RXx
  clear bb
  have XB : Hid (w7.heap[bXB]? = some (.cells #[.slice xa xs.length xc] 34 (0, 0))) := XBn.out
  clear XBn
  have hcall := drawStmtOk bs v w7 (by omega) RV.out
  go_wp2_with fail
  go_at_call 11
  clear hAw7 hBw7
  refine hcall.mono ?_
  rintro r w8 ⟨sk, sx, sy, rfl, bc⟩
  clear hcall
  have RVx : Hid (Reads w8 v (bs.map (Value.int .u8))) := reads_below RV.out bc
  have LWx : Hid (Below w.heap.size w w8) := low_step LW.out bc
  have RPx : Hid (ReadsP w8 (.slice pa ps.length pc) ps) := readsP_below RP.out bc
  have Px : Hid (w8.heap[bP]? = some (.cells #[.slice pa ps.length pc] 26 (0, 0))) := box_step P.out bc
  have RQx : Hid (ReadsP w8 (.slice qa qs.length qc) qs) := readsP_below RQ.out bc
  have Qx : Hid (w8.heap[bQ]? = some (.cells #[.slice qa qs.length qc] 26 (0, 0))) := box_step Q.out bc
  have RCx : Hid (Reads w8 (.slice ca C.length cc) (ints C)) := reads_below RC.out bc
  have RXx : Hid (Reads3 w8 (.slice xa xs.length xc) xs) := reads3_below RX.out bc
  have XBx : Hid (w8.heap[bXB]? = some (.cells #[.slice xa xs.length xc] 34 (0, 0))) := box_step XB.out bc
  clear RV LW RP P RQ Q RC RX XB
  have RV : Hid (Reads w8 v (bs.map (Value.int .u8))) := RVx.out
  have LW : Hid (Below w.heap.size w w8) := LWx.out
  have RP : Hid (ReadsP w8 (.slice pa ps.length pc) ps) := RPx.out
  have P : Hid (w8.heap[bP]? = some (.cells #[.slice pa ps.length pc] 26 (0, 0))) := Px.out
  have RQ : Hid (ReadsP w8 (.slice qa qs.length qc) qs) := RQx.out
  have Q : Hid (w8.heap[bQ]? = some (.cells #[.slice qa qs.length qc] 26 (0, 0))) := Qx.out
  have RC : Hid (Reads w8 (.slice ca C.length cc) (ints C)) := RCx.out
  have RX : Hid (Reads3 w8 (.slice xa xs.length xc) xs) := RXx.out
  have XB : Hid (w8.heap[bXB]? = some (.cells #[.slice xa xs.length xc] 34 (0, 0))) := XBx.out
  clear RVx LWx RPx Px RQx Qx RCx RXx XBx
  clear RV
  clear bc
  obtain ⟨w9, hAw9⟩ : ∃ W, w8.alloc (.cells #[.int .i64 sk, .int .i64 sx, .int .i64 sy] 37) = W := ⟨_, rfl⟩
  have bb : Below w8.heap.size w8 w9 := by rw [← hAw9]; go_grown
  obtain ⟨bS, hBw9⟩ : ∃ n, w8.heap.size = n := ⟨_, rfl⟩
  have Sn : Hid (w9.heap[bS]? = some (.cells #[.int .i64 sk, .int .i64 sx, .int .i64 sy] 37 (0, 0))) := by
    show w9.heap[bS]? = _
    rw [← hAw9, ← hBw9]; exact heap_alloc_new w8 _
  have LWx : Hid (Below w.heap.size w w9) := low_step LW.out bb
  have RPx : Hid (ReadsP w9 (.slice pa ps.length pc) ps) := readsP_below RP.out bb
  have Px : Hid (w9.heap[bP]? = some (.cells #[.slice pa ps.length pc] 26 (0, 0))) := box_step P.out bb
  have RQx : Hid (ReadsP w9 (.slice qa qs.length qc) qs) := readsP_below RQ.out bb
  have Qx : Hid (w9.heap[bQ]? = some (.cells #[.slice qa qs.length qc] 26 (0, 0))) := box_step Q.out bb
  have RCx : Hid (Reads w9 (.slice ca C.length cc) (ints C)) := reads_below RC.out bb
  have RXx : Hid (Reads3 w9 (.slice xa xs.length xc) xs) := reads3_below RX.out bb
  have XBx : Hid (w9.heap[bXB]? = some (.cells #[.slice xa xs.length xc] 34 (0, 0))) := box_step XB.out bb
  clear LW RP P RQ Q RC RX XB
  have LW : Hid (Below w.heap.size w w9) := LWx.out
  have RP : Hid (ReadsP w9 (.slice pa ps.length pc) ps) := RPx.out
  have P : Hid (w9.heap[bP]? = some (.cells #[.slice pa ps.length pc] 26 (0, 0))) := Px.out
  have RQ : Hid (ReadsP w9 (.slice qa qs.length qc) qs) := RQx.out
  have Q : Hid (w9.heap[bQ]? = some (.cells #[.slice qa qs.length qc] 26 (0, 0))) := Qx.out
  have RC : Hid (Reads w9 (.slice ca C.length cc) (ints C)) := RCx.out
  have RX : Hid (Reads3 w9 (.slice xa xs.length xc) xs) := RXx.out
  have XB : Hid (w9.heap[bXB]? = some (.cells #[.slice xa xs.length xc] 34 (0, 0))) := XBx.out
  clear LWx RPx Px RQx Qx RCx RXx XBx
  clear bb
  have S : Hid (w9.heap[bS]? = some (.cells #[.int .i64 sk, .int .i64 sx, .int .i64 sy] 37 (0, 0))) := Sn.out
  clear Sn
  obtain ⟨cP, -⟩ := one_cell P.out
  have hcall := hio w9 RP.out
  go_wp2_with fail
  go_at_call 12
  clear hAw9 hBw9
  refine hcall.mono ?_
  rintro r w10 ⟨rfl, bc⟩
  clear hcall cP
  have LWx : Hid (Below w.heap.size w w10) := low_step LW.out bc
  have RPx : Hid (ReadsP w10 (.slice pa ps.length pc) ps) := readsP_below RP.out bc
  have Px : Hid (w10.heap[bP]? = some (.cells #[.slice pa ps.length pc] 26 (0, 0))) := box_step P.out bc
  have RQx : Hid (ReadsP w10 (.slice qa qs.length qc) qs) := readsP_below RQ.out bc
  have Qx : Hid (w10.heap[bQ]? = some (.cells #[.slice qa qs.length qc] 26 (0, 0))) := box_step Q.out bc
  have RCx : Hid (Reads w10 (.slice ca C.length cc) (ints C)) := reads_below RC.out bc
  have RXx : Hid (Reads3 w10 (.slice xa xs.length xc) xs) := reads3_below RX.out bc
  have XBx : Hid (w10.heap[bXB]? = some (.cells #[.slice xa xs.length xc] 34 (0, 0))) := box_step XB.out bc
  have Sx : Hid (w10.heap[bS]? = some (.cells #[.int .i64 sk, .int .i64 sx, .int .i64 sy] 37 (0, 0))) := box_step S.out bc
  clear LW RP P RQ Q RC RX XB S
  have LW : Hid (Below w.heap.size w w10) := LWx.out
  have RP : Hid (ReadsP w10 (.slice pa ps.length pc) ps) := RPx.out
  have P : Hid (w10.heap[bP]? = some (.cells #[.slice pa ps.length pc] 26 (0, 0))) := Px.out
  have RQ : Hid (ReadsP w10 (.slice qa qs.length qc) qs) := RQx.out
  have Q : Hid (w10.heap[bQ]? = some (.cells #[.slice qa qs.length qc] 26 (0, 0))) := Qx.out
  have RC : Hid (Reads w10 (.slice ca C.length cc) (ints C)) := RCx.out
  have RX : Hid (Reads3 w10 (.slice xa xs.length xc) xs) := RXx.out
  have XB : Hid (w10.heap[bXB]? = some (.cells #[.slice xa xs.length xc] 34 (0, 0))) := XBx.out
  have S : Hid (w10.heap[bS]? = some (.cells #[.int .i64 sk, .int .i64 sx, .int .i64 sy] 37 (0, 0))) := Sx.out
  clear LWx RPx Px RQx Qx RCx RXx XBx Sx
  clear bc
  have HS : Hid (∀ X, Below w10.heap.size w10 X → X.cell? ⟨bP, 0, none⟩ = some (.slice pa ps.length pc) ∧ X.cell? ⟨bQ, 0, none⟩ = some (.slice qa qs.length qc) ∧ X.cell? ⟨bXB, 0, none⟩ = some (.slice xa xs.length xc) ∧ X.cell? ⟨bS, 0, none⟩ = some (.int .i64 sk) ∧ X.cell? ⟨bS, 1, none⟩ = some (.int .i64 sx) ∧ X.cell? ⟨bS, 2, none⟩ = some (.int .i64 sy)) := fun X hX => by
    obtain ⟨a1, _⟩ := one_cell (box_step P.out hX)
    obtain ⟨a2, _⟩ := one_cell (box_step Q.out hX)
    obtain ⟨a3, _⟩ := one_cell (box_step XB.out hX)
    obtain ⟨a4, a5, a6⟩ := three_inK (box_step S.out hX)
    exact ⟨a1, a2, a3, a4, a5, a6⟩
  have hS0 := HS.out w10 (Below.refl _ _)
  obtain ⟨c1, c2, c3, c4, c5, c6⟩ := id hS0
  have hio9 := fun X (hX : Below w10.heap.size w10 X) => hio X (readsP_below RP.out hX)
  have hso9 := fun X (hX : Below w10.heap.size w10 X) => hso X (readsP_below RP.out hX)
  have hsc9 := fun X (hX : Below w10.heap.size w10 X) => hsc X (readsP_below RQ.out hX)
  have hxi := fun X (hX : Below w10.heap.size w10 X) => implProcOk xs (.slice xa xs.length xc) X hxs (reads3_below RX.out hX)
  have hxp := fun X (hX : Below w10.heap.size w10 X) => specProcOk xs (.slice xa xs.length xc) X hxs (reads3_below RX.out hX)
  have hti := fun X (hX : Below w10.heap.size w10 X) => implStmtOk sk sx sy X
  have hts := fun X (hX : Below w10.heap.size w10 X) => specStmtOk sk sx sy X
  have hzi := fun X (hX : Below w10.heap.size w10 X) => implSize ps (.slice pa ps.length pc) X hps hpe (readsP_below RP.out hX)
  have hzs := fun X (hX : Below w10.heap.size w10 X) => specSize ps (.slice pa ps.length pc) X hps hpe (readsP_below RP.out hX)
  obtain ⟨px, hpx⟩ : ∃ b, procOk xs = b := ⟨_, rfl⟩
  rw [hpx] at hxi hxp
  obtain ⟨tx, htx⟩ : ∃ b, stmtOk sk sx sy = b := ⟨_, rfl⟩
  rw [htx] at hti hts
  obtain ⟨zz, hzz⟩ : ∃ z, sizeOf3 ps = z := ⟨_, rfl⟩
  rw [hzz] at hzi hzs
  have HZZ : Hid (sizeOf3 ps = zz) := hzz
  clear hpx htx hzz
  go_wp2_with fail

  refine wp_region_held_drew (S := fun X => X.cell? ⟨bP, 0, none⟩ = some (.slice pa ps.length pc) ∧ X.cell? ⟨bQ, 0, none⟩ = some (.slice qa qs.length qc) ∧ X.cell? ⟨bXB, 0, none⟩ = some (.slice xa xs.length xc) ∧ X.cell? ⟨bS, 0, none⟩ = some (.int .i64 sk) ∧ X.cell? ⟨bS, 1, none⟩ = some (.int .i64 sx) ∧ X.cell? ⟨bS, 2, none⟩ = some (.int .i64 sy)) (by kernel_rfl) hS0 (fun hHeld => ?_)
  refine wpAnyH_take (i := 0) (oi := ?oia0) (v := .bool ok) ?hia0 (by kernel_rfl) (by kernel_rfl) (by kernel_rfl) ?hqa0 ?hya0 hHeld ?hra0
  case hia0 =>
    simp only [List.getElem?_toArray, List.getElem?_cons_succ, List.getElem?_cons_zero]
    rfl
  case hqa0 => exact fun _ _ _ h => h
  case hya0 => exact Or.inl ⟨by kernel_rfl, fun w hSw => by go_simp⟩
  try simp only [Act.put, List.setIfInBounds_toArray, List.set_cons_zero, List.set_cons_succ]
  refine wpAnyH_take (i := 1) (oi := ?oia1) (v := .agg #[.slice pa ps.length pc]) ?hia1 (by kernel_rfl) (by kernel_rfl) (by kernel_rfl) ?hqa1 ?hya1 hHeld ?hra1
  case hia1 =>
    simp only [List.getElem?_toArray, List.getElem?_cons_succ, List.getElem?_cons_zero]
    rfl
  case hqa1 => exact fun _ _ _ h => h
  case hya1 => exact Or.inl ⟨by kernel_rfl, fun w hSw => by obtain ⟨s0, s1, s2, s3, s4, s5⟩ := hSw; go_simp⟩
  try simp only [Act.put, List.setIfInBounds_toArray, List.set_cons_zero, List.set_cons_succ]
  refine wpAnyH_ready (rs := [2]) (by kernel_rfl) (by simp) ?_
  refine (AllReadyH.cons (o := ?ooa2) ?hoa2 (fun K hK => ?hka2) AllReadyH.nil)
  case hoa2 =>
    simp only [List.getElem?_toArray, List.getElem?_cons_succ, List.getElem?_cons_zero]
    rfl
  case hka2 =>
    go_simp
    go_at_call 13
    refine (hso9 w10.drew (Below.drew (Below.refl _ _))).mono ?_
    rintro e x1 ⟨rfl, bq⟩
    have X1 : Hid (Below w10.heap.size w10 x1) := Below.trans (Below.drew (Below.refl _ _)) bq
    clear bq 
    try go_wp2_with fail
    refine hK.out _ _ (HS.out _ X1.out) (fun hHeld => ?_)
    clear hK K
    try simp only [Act.put, List.setIfInBounds_toArray, List.set_cons_zero, List.set_cons_succ]
    refine wpAnyH_take (i := 3) (oi := ?oia3) (v := .bool false) ?hia3 (by kernel_rfl) (by kernel_rfl) (by kernel_rfl) ?hqa3 ?hya3 hHeld ?hra3
    case hia3 =>
      simp only [List.getElem?_toArray, List.getElem?_cons_succ, List.getElem?_cons_zero]
      rfl
    case hqa3 => exact fun _ _ _ h => h
    case hya3 => exact Or.inl ⟨by kernel_rfl, fun w hSw => by go_simp; (try cases ok <;> rfl)⟩
    try simp only [Act.put, List.setIfInBounds_toArray, List.set_cons_zero, List.set_cons_succ]
    refine wpAnyH_take (i := 4) (oi := ?oia4) (v := .bool false) ?hia4 (by kernel_rfl) (by kernel_rfl) (by kernel_rfl) ?hqa4 ?hya4 hHeld ?hra4
    case hia4 =>
      simp only [List.getElem?_toArray, List.getElem?_cons_succ, List.getElem?_cons_zero]
      rfl
    case hqa4 => exact fun _ _ _ h => h
    case hya4 => exact Or.inl ⟨by kernel_rfl, fun w hSw => by go_simp⟩
    try simp only [Act.put, List.setIfInBounds_toArray, List.set_cons_zero, List.set_cons_succ]
    refine wpAnyH_take (i := 5) (oi := ?oia5) (v := .slice ca C.length cc) ?hia5 (by kernel_rfl) (by kernel_rfl) (by kernel_rfl) ?hqa5 ?hya5 hHeld ?hra5
    case hia5 =>
      simp only [List.getElem?_toArray, List.getElem?_cons_succ, List.getElem?_cons_zero]
      rfl
    case hqa5 => exact fun _ _ _ h => h
    case hya5 => exact Or.inl ⟨by kernel_rfl, fun w hSw => by go_simp⟩
    try simp only [Act.put, List.setIfInBounds_toArray, List.set_cons_zero, List.set_cons_succ]
    refine wpAnyH_take (i := 6) (oi := ?oia6) (v := .agg #[.slice qa qs.length qc]) ?hia6 (by kernel_rfl) (by kernel_rfl) (by kernel_rfl) ?hqa6 ?hya6 hHeld ?hra6
    case hia6 =>
      simp only [List.getElem?_toArray, List.getElem?_cons_succ, List.getElem?_cons_zero]
      rfl
    case hqa6 => exact fun _ _ _ h => h
    case hya6 => exact Or.inl ⟨by kernel_rfl, fun w hSw => by obtain ⟨s0, s1, s2, s3, s4, s5⟩ := hSw; go_simp⟩
    try simp only [Act.put, List.setIfInBounds_toArray, List.set_cons_zero, List.set_cons_succ]
    refine wpAnyH_take (i := 7) (oi := ?oia7) (v := .int .i64 i0) ?hia7 (by kernel_rfl) (by kernel_rfl) (by kernel_rfl) ?hqa7 ?hya7 hHeld ?hra7
    case hia7 =>
      simp only [List.getElem?_toArray, List.getElem?_cons_succ, List.getElem?_cons_zero]
      rfl
    case hqa7 => exact fun _ _ _ h => h
    case hya7 => exact Or.inl ⟨by kernel_rfl, fun w hSw => by go_simp⟩
    try simp only [Act.put, List.setIfInBounds_toArray, List.set_cons_zero, List.set_cons_succ]
    refine wpAnyH_ready (rs := [8]) (by kernel_rfl) (by simp) ?_
    refine (AllReadyH.cons (o := ?ooa8) ?hoa8 (fun K hK => ?hka8) AllReadyH.nil)
    case hoa8 =>
      simp only [List.getElem?_toArray, List.getElem?_cons_succ, List.getElem?_cons_zero]
      rfl
    case hka8 =>
      go_simp
      go_at_call 15
      refine (hsc9 x1 X1.out).mono ?_
      rintro e x2 ⟨dv, rfl, od, bq⟩
      have X2 : Hid (Below w10.heap.size w10 x2) := low_step X1.out bq
      have RD : Hid (Reads x2 dv (ints C)) := reads_own od
      clear bq od
      try go_wp2_with fail
      refine hK.out _ _ (HS.out _ X2.out) (fun hHeld => ?_)
      clear hK K
      try simp only [Act.put, List.setIfInBounds_toArray, List.set_cons_zero, List.set_cons_succ]
      refine wpAnyH_ready (rs := [9]) (by kernel_rfl) (by simp) ?_
      refine (AllReadyH.cons (o := ?ooa9) ?hoa9 (fun K hK => ?hka9) AllReadyH.nil)
      case hoa9 =>
        simp only [List.getElem?_toArray, List.getElem?_cons_succ, List.getElem?_cons_zero]
        rfl
      case hka9 =>
        go_simp
        go_at_call 14
        refine (likeInts C _ dv x2 hCm (reads_below RC.out X2.out) RD.out).mono ?_
        rintro e x3 ⟨rfl, bq⟩
        have X3 : Hid (Below w10.heap.size w10 x3) := low_step X2.out bq
        clear bq RD
        try go_wp2_with fail
        refine hK.out _ _ (HS.out _ X3.out) (fun hHeld => ?_)
        clear hK K
        try simp only [Act.put, List.setIfInBounds_toArray, List.set_cons_zero, List.set_cons_succ]
        refine wpAnyH_take (i := 10) (oi := ?oia10) (v := .bool false) ?hia10 (by kernel_rfl) (by kernel_rfl) (by kernel_rfl) ?hqa10 ?hya10 hHeld ?hra10
        case hia10 =>
          simp only [List.getElem?_toArray, List.getElem?_cons_succ, List.getElem?_cons_zero]
          rfl
        case hqa10 => exact fun _ _ _ h => h
        case hya10 => exact Or.inl ⟨by kernel_rfl, fun w hSw => by go_simp⟩
        try simp only [Act.put, List.setIfInBounds_toArray, List.set_cons_zero, List.set_cons_succ]
        refine wpAnyH_take (i := 11) (oi := ?oia11) (v := .bool false) ?hia11 (by kernel_rfl) (by kernel_rfl) (by kernel_rfl) ?hqa11 ?hya11 hHeld ?hra11
        case hia11 =>
          simp only [List.getElem?_toArray, List.getElem?_cons_succ, List.getElem?_cons_zero]
          rfl
        case hqa11 => exact fun _ _ _ h => h
        case hya11 => exact Or.inl ⟨by kernel_rfl, fun w hSw => by go_simp⟩
        try simp only [Act.put, List.setIfInBounds_toArray, List.set_cons_zero, List.set_cons_succ]
        refine wpAnyH_take (i := 12) (oi := ?oia12) (v := .bool false) ?hia12 (by kernel_rfl) (by kernel_rfl) (by kernel_rfl) ?hqa12 ?hya12 hHeld ?hra12
        case hia12 =>
          simp only [List.getElem?_toArray, List.getElem?_cons_succ, List.getElem?_cons_zero]
          rfl
        case hqa12 => exact fun _ _ _ h => h
        case hya12 => exact Or.inl ⟨by kernel_rfl, fun w hSw => by go_simp⟩
        try simp only [Act.put, List.setIfInBounds_toArray, List.set_cons_zero, List.set_cons_succ]
        refine wpAnyH_take (i := 13) (oi := ?oia13) (v := .agg #[.slice xa xs.length xc]) ?hia13 (by kernel_rfl) (by kernel_rfl) (by kernel_rfl) ?hqa13 ?hya13 hHeld ?hra13
        case hia13 =>
          simp only [List.getElem?_toArray, List.getElem?_cons_succ, List.getElem?_cons_zero]
          rfl
        case hqa13 => exact fun _ _ _ h => h
        case hya13 => exact Or.inl ⟨by kernel_rfl, fun w hSw => by obtain ⟨s0, s1, s2, s3, s4, s5⟩ := hSw; go_simp⟩
        try simp only [Act.put, List.setIfInBounds_toArray, List.set_cons_zero, List.set_cons_succ]
        refine wpAnyH_take (i := 15) (oi := ?oia15) (v := .agg #[.slice xa xs.length xc]) ?hia15 (by kernel_rfl) (by kernel_rfl) (by kernel_rfl) ?hqa15 ?hya15 hHeld ?hra15
        case hia15 =>
          simp only [List.getElem?_toArray, List.getElem?_cons_succ, List.getElem?_cons_zero]
          rfl
        case hqa15 => exact fun _ _ _ h => h
        case hya15 => exact Or.inl ⟨by kernel_rfl, fun w hSw => by obtain ⟨s0, s1, s2, s3, s4, s5⟩ := hSw; go_simp⟩
        try simp only [Act.put, List.setIfInBounds_toArray, List.set_cons_zero, List.set_cons_succ]
        refine wpAnyH_ready (rs := [14]) (by kernel_rfl) (by simp) ?_
        refine (AllReadyH.cons (o := ?ooa14) ?hoa14 (fun K hK => ?hka14) AllReadyH.nil)
        case hoa14 =>
          simp only [List.getElem?_toArray, List.getElem?_cons_succ, List.getElem?_cons_zero]
          rfl
        case hka14 =>
          go_simp
          go_at_call 16
          refine (hxi x3 X3.out).mono ?_
          rintro e x4 ⟨rfl, bq⟩
          have X4 : Hid (Below w10.heap.size w10 x4) := low_step X3.out bq
          clear bq 
          try go_wp2_with fail
          refine hK.out _ _ (HS.out _ X4.out) (fun hHeld => ?_)
          clear hK K
          try simp only [Act.put, List.setIfInBounds_toArray, List.set_cons_zero, List.set_cons_succ]
          refine wpAnyH_ready (rs := [16]) (by kernel_rfl) (by simp) ?_
          refine (AllReadyH.cons (o := ?ooa16) ?hoa16 (fun K hK => ?hka16) AllReadyH.nil)
          case hoa16 =>
            simp only [List.getElem?_toArray, List.getElem?_cons_succ, List.getElem?_cons_zero]
            rfl
          case hka16 =>
            go_simp
            go_at_call 17
            refine (hxp x4 X4.out).mono ?_
            rintro e x5 ⟨rfl, bq⟩
            have X5 : Hid (Below w10.heap.size w10 x5) := low_step X4.out bq
            clear bq 
            try go_wp2_with fail
            refine hK.out _ _ (HS.out _ X5.out) (fun hHeld => ?_)
            clear hK K
            try simp only [Act.put, List.setIfInBounds_toArray, List.set_cons_zero, List.set_cons_succ]
            refine wpAnyH_take (i := 17) (oi := ?oia17) (v := .bool false) ?hia17 (by kernel_rfl) (by kernel_rfl) (by kernel_rfl) ?hqa17 ?hya17 hHeld ?hra17
            case hia17 =>
              simp only [List.getElem?_toArray, List.getElem?_cons_succ, List.getElem?_cons_zero]
              rfl
            case hqa17 => exact fun _ _ _ h => h
            case hya17 => exact Or.inl ⟨by kernel_rfl, fun w hSw => by go_simp; (try cases px <;> rfl)⟩
            try simp only [Act.put, List.setIfInBounds_toArray, List.set_cons_zero, List.set_cons_succ]
            refine wpAnyH_take (i := 18) (oi := ?oia18) (v := .bool false) ?hia18 (by kernel_rfl) (by kernel_rfl) (by kernel_rfl) ?hqa18 ?hya18 hHeld ?hra18
            case hia18 =>
              simp only [List.getElem?_toArray, List.getElem?_cons_succ, List.getElem?_cons_zero]
              rfl
            case hqa18 => exact fun _ _ _ h => h
            case hya18 => exact Or.inl ⟨by kernel_rfl, fun w hSw => by go_simp⟩
            try simp only [Act.put, List.setIfInBounds_toArray, List.set_cons_zero, List.set_cons_succ]
            refine wpAnyH_take (i := 19) (oi := ?oia19) (v := .bool false) ?hia19 (by kernel_rfl) (by kernel_rfl) (by kernel_rfl) ?hqa19 ?hya19 hHeld ?hra19
            case hia19 =>
              simp only [List.getElem?_toArray, List.getElem?_cons_succ, List.getElem?_cons_zero]
              rfl
            case hqa19 => exact fun _ _ _ h => h
            case hya19 => exact Or.inl ⟨by kernel_rfl, fun w hSw => by go_simp⟩
            try simp only [Act.put, List.setIfInBounds_toArray, List.set_cons_zero, List.set_cons_succ]
            refine wpAnyH_take (i := 20) (oi := ?oia20) (v := .agg #[.int .i64 sk, .int .i64 sx, .int .i64 sy]) ?hia20 (by kernel_rfl) (by kernel_rfl) (by kernel_rfl) ?hqa20 ?hya20 hHeld ?hra20
            case hia20 =>
              simp only [List.getElem?_toArray, List.getElem?_cons_succ, List.getElem?_cons_zero]
              rfl
            case hqa20 => exact fun _ _ _ h => h
            case hya20 => exact Or.inl ⟨by kernel_rfl, fun w hSw => by obtain ⟨s0, s1, s2, s3, s4, s5⟩ := hSw; go_simp⟩
            try simp only [Act.put, List.setIfInBounds_toArray, List.set_cons_zero, List.set_cons_succ]
            refine wpAnyH_take (i := 22) (oi := ?oia22) (v := .agg #[.int .i64 sk, .int .i64 sx, .int .i64 sy]) ?hia22 (by kernel_rfl) (by kernel_rfl) (by kernel_rfl) ?hqa22 ?hya22 hHeld ?hra22
            case hia22 =>
              simp only [List.getElem?_toArray, List.getElem?_cons_succ, List.getElem?_cons_zero]
              rfl
            case hqa22 => exact fun _ _ _ h => h
            case hya22 => exact Or.inl ⟨by kernel_rfl, fun w hSw => by obtain ⟨s0, s1, s2, s3, s4, s5⟩ := hSw; go_simp⟩
            try simp only [Act.put, List.setIfInBounds_toArray, List.set_cons_zero, List.set_cons_succ]
            refine wpAnyH_ready (rs := [21]) (by kernel_rfl) (by simp) ?_
            refine (AllReadyH.cons (o := ?ooa21) ?hoa21 (fun K hK => ?hka21) AllReadyH.nil)
            case hoa21 =>
              simp only [List.getElem?_toArray, List.getElem?_cons_succ, List.getElem?_cons_zero]
              rfl
            case hka21 =>
              go_simp
              go_at_call 18
              refine (hti x5 X5.out).mono ?_
              rintro e x6 ⟨rfl, bq⟩
              have X6 : Hid (Below w10.heap.size w10 x6) := low_step X5.out bq
              clear bq 
              try go_wp2_with fail
              refine hK.out _ _ (HS.out _ X6.out) (fun hHeld => ?_)
              clear hK K
              try simp only [Act.put, List.setIfInBounds_toArray, List.set_cons_zero, List.set_cons_succ]
              refine wpAnyH_ready (rs := [23]) (by kernel_rfl) (by simp) ?_
              refine (AllReadyH.cons (o := ?ooa23) ?hoa23 (fun K hK => ?hka23) AllReadyH.nil)
              case hoa23 =>
                simp only [List.getElem?_toArray, List.getElem?_cons_succ, List.getElem?_cons_zero]
                rfl
              case hka23 =>
                go_simp
                go_at_call 19
                refine (hts x6 X6.out).mono ?_
                rintro e x7 ⟨rfl, bq⟩
                have X7 : Hid (Below w10.heap.size w10 x7) := low_step X6.out bq
                clear bq 
                try go_wp2_with fail
                refine hK.out _ _ (HS.out _ X7.out) (fun hHeld => ?_)
                clear hK K
                try simp only [Act.put, List.setIfInBounds_toArray, List.set_cons_zero, List.set_cons_succ]
                refine wpAnyH_take (i := 24) (oi := ?oia24) (v := .bool false) ?hia24 (by kernel_rfl) (by kernel_rfl) (by kernel_rfl) ?hqa24 ?hya24 hHeld ?hra24
                case hia24 =>
                  simp only [List.getElem?_toArray, List.getElem?_cons_succ, List.getElem?_cons_zero]
                  rfl
                case hqa24 => exact fun _ _ _ h => h
                case hya24 => exact Or.inl ⟨by kernel_rfl, fun w hSw => by go_simp; (try cases tx <;> rfl)⟩
                try simp only [Act.put, List.setIfInBounds_toArray, List.set_cons_zero, List.set_cons_succ]
                refine wpAnyH_take (i := 25) (oi := ?oia25) (v := .bool false) ?hia25 (by kernel_rfl) (by kernel_rfl) (by kernel_rfl) ?hqa25 ?hya25 hHeld ?hra25
                case hia25 =>
                  simp only [List.getElem?_toArray, List.getElem?_cons_succ, List.getElem?_cons_zero]
                  rfl
                case hqa25 => exact fun _ _ _ h => h
                case hya25 => exact Or.inl ⟨by kernel_rfl, fun w hSw => by go_simp⟩
                try simp only [Act.put, List.setIfInBounds_toArray, List.set_cons_zero, List.set_cons_succ]
                refine wpAnyH_take (i := 26) (oi := ?oia26) (v := .bool false) ?hia26 (by kernel_rfl) (by kernel_rfl) (by kernel_rfl) ?hqa26 ?hya26 hHeld ?hra26
                case hia26 =>
                  simp only [List.getElem?_toArray, List.getElem?_cons_succ, List.getElem?_cons_zero]
                  rfl
                case hqa26 => exact fun _ _ _ h => h
                case hya26 => exact Or.inl ⟨by kernel_rfl, fun w hSw => by go_simp⟩
                try simp only [Act.put, List.setIfInBounds_toArray, List.set_cons_zero, List.set_cons_succ]
                refine wpAnyH_take (i := 27) (oi := ?oia27) (v := .agg #[.slice pa ps.length pc]) ?hia27 (by kernel_rfl) (by kernel_rfl) (by kernel_rfl) ?hqa27 ?hya27 hHeld ?hra27
                case hia27 =>
                  simp only [List.getElem?_toArray, List.getElem?_cons_succ, List.getElem?_cons_zero]
                  rfl
                case hqa27 => exact fun _ _ _ h => h
                case hya27 => exact Or.inl ⟨by kernel_rfl, fun w hSw => by obtain ⟨s0, s1, s2, s3, s4, s5⟩ := hSw; go_simp⟩
                try simp only [Act.put, List.setIfInBounds_toArray, List.set_cons_zero, List.set_cons_succ]
                refine wpAnyH_take (i := 29) (oi := ?oia29) (v := .agg #[.slice pa ps.length pc]) ?hia29 (by kernel_rfl) (by kernel_rfl) (by kernel_rfl) ?hqa29 ?hya29 hHeld ?hra29
                case hia29 =>
                  simp only [List.getElem?_toArray, List.getElem?_cons_succ, List.getElem?_cons_zero]
                  rfl
                case hqa29 => exact fun _ _ _ h => h
                case hya29 => exact Or.inl ⟨by kernel_rfl, fun w hSw => by obtain ⟨s0, s1, s2, s3, s4, s5⟩ := hSw; go_simp⟩
                try simp only [Act.put, List.setIfInBounds_toArray, List.set_cons_zero, List.set_cons_succ]
                refine wpAnyH_ready (rs := [28]) (by kernel_rfl) (by simp) ?_
                refine (AllReadyH.cons (o := ?ooa28) ?hoa28 (fun K hK => ?hka28) AllReadyH.nil)
                case hoa28 =>
                  simp only [List.getElem?_toArray, List.getElem?_cons_succ, List.getElem?_cons_zero]
                  rfl
                case hka28 =>
                  go_simp
                  go_at_call 20
                  refine (hzi x7 X7.out).mono ?_
                  rintro e x8 ⟨rfl, bq⟩
                  have X8 : Hid (Below w10.heap.size w10 x8) := low_step X7.out bq
                  clear bq 
                  try go_wp2_with fail
                  refine hK.out _ _ (HS.out _ X8.out) (fun hHeld => ?_)
                  clear hK K
                  try simp only [Act.put, List.setIfInBounds_toArray, List.set_cons_zero, List.set_cons_succ]
                  refine wpAnyH_ready (rs := [30]) (by kernel_rfl) (by simp) ?_
                  refine (AllReadyH.cons (o := ?ooa30) ?hoa30 (fun K hK => ?hka30) AllReadyH.nil)
                  case hoa30 =>
                    simp only [List.getElem?_toArray, List.getElem?_cons_succ, List.getElem?_cons_zero]
                    rfl
                  case hka30 =>
                    go_simp
                    go_at_call 21
                    refine (hzs x8 X8.out).mono ?_
                    rintro e x9 ⟨rfl, bq⟩
                    have X9 : Hid (Below w10.heap.size w10 x9) := low_step X8.out bq
                    clear bq 
                    try go_wp2_with fail
                    refine hK.out _ _ (HS.out _ X9.out) (fun hHeld => ?_)
                    clear hK K
                    try simp only [Act.put, List.setIfInBounds_toArray, List.set_cons_zero, List.set_cons_succ]
                    refine wpAnyH_take (i := 31) (oi := ?oia31) (v := .bool false) ?hia31 (by kernel_rfl) (by kernel_rfl) (by kernel_rfl) ?hqa31 ?hya31 hHeld ?hra31
                    case hia31 =>
                      simp only [List.getElem?_toArray, List.getElem?_cons_succ, List.getElem?_cons_zero]
                      rfl
                    case hqa31 => exact fun _ _ _ h => h
                    case hya31 => exact Or.inl ⟨by kernel_rfl, fun w hSw => by go_simp⟩
                    try simp only [Act.put, List.setIfInBounds_toArray, List.set_cons_zero, List.set_cons_succ]
                    refine wpAnyH_take (i := 32) (oi := ?oia32) (v := .bool false) ?hia32 (by kernel_rfl) (by kernel_rfl) (by kernel_rfl) ?hqa32 ?hya32 hHeld ?hra32
                    case hia32 =>
                      simp only [List.getElem?_toArray, List.getElem?_cons_succ, List.getElem?_cons_zero]
                      rfl
                    case hqa32 => exact fun _ _ _ h => h
                    case hya32 => exact Or.inl ⟨by kernel_rfl, fun w hSw => by go_simp⟩
                    try simp only [Act.put, List.setIfInBounds_toArray, List.set_cons_zero, List.set_cons_succ]
                    refine wpAnyH_take (i := 33) (oi := ?oia33) (v := .bool false) ?hia33 (by kernel_rfl) (by kernel_rfl) (by kernel_rfl) ?hqa33 ?hya33 hHeld ?hra33
                    case hia33 =>
                      simp only [List.getElem?_toArray, List.getElem?_cons_succ, List.getElem?_cons_zero]
                      rfl
                    case hqa33 => exact fun _ _ _ h => h
                    case hya33 => exact Or.inl ⟨by kernel_rfl, fun w hSw => by go_simp⟩
                    try simp only [Act.put, List.setIfInBounds_toArray, List.set_cons_zero, List.set_cons_succ]
                    refine wpAnyH_take (i := 34) (oi := ?oia34) (v := .slice ca C.length cc) ?hia34 (by kernel_rfl) (by kernel_rfl) (by kernel_rfl) ?hqa34 ?hya34 hHeld ?hra34
                    case hia34 =>
                      simp only [List.getElem?_toArray, List.getElem?_cons_succ, List.getElem?_cons_zero]
                      rfl
                    case hqa34 => exact fun _ _ _ h => h
                    case hya34 => exact Or.inl ⟨by kernel_rfl, fun w hSw => by go_simp⟩
                    try simp only [Act.put, List.setIfInBounds_toArray, List.set_cons_zero, List.set_cons_succ]
                    refine wpAnyH_ready (rs := [35]) (by kernel_rfl) (by simp) ?_
                    refine (AllReadyH.cons (o := ?ooa35) ?hoa35 (fun K hK => ?hka35) AllReadyH.nil)
                    case hoa35 =>
                      simp only [List.getElem?_toArray, List.getElem?_cons_succ, List.getElem?_cons_zero]
                      rfl
                    case hka35 =>
                      go_simp
                      go_at_call 22
                      refine (lawRises C _ x9 hCm HCR.out (reads_below RC.out X9.out)).mono ?_
                      rintro e x10 ⟨rfl, bq⟩
                      have X10 : Hid (Below w10.heap.size w10 x10) := low_step X9.out bq
                      clear bq 
                      try go_wp2_with fail
                      refine hK.out _ _ (HS.out _ X10.out) (fun hHeld => ?_)
                      clear hK K
                      try simp only [Act.put, List.setIfInBounds_toArray, List.set_cons_zero, List.set_cons_succ]
                      refine wpAnyH_take (i := 36) (oi := ?oia36) (v := .bool false) ?hia36 (by kernel_rfl) (by kernel_rfl) (by kernel_rfl) ?hqa36 ?hya36 hHeld ?hra36
                      case hia36 =>
                        simp only [List.getElem?_toArray, List.getElem?_cons_succ, List.getElem?_cons_zero]
                        rfl
                      case hqa36 => exact fun _ _ _ h => h
                      case hya36 => exact Or.inl ⟨by kernel_rfl, fun w hSw => by go_simp⟩
                      try simp only [Act.put, List.setIfInBounds_toArray, List.set_cons_zero, List.set_cons_succ]
                      refine wpAnyH_take (i := 37) (oi := ?oia37) (v := .bool false) ?hia37 (by kernel_rfl) (by kernel_rfl) (by kernel_rfl) ?hqa37 ?hya37 hHeld ?hra37
                      case hia37 =>
                        simp only [List.getElem?_toArray, List.getElem?_cons_succ, List.getElem?_cons_zero]
                        rfl
                      case hqa37 => exact fun _ _ _ h => h
                      case hya37 => exact Or.inl ⟨by kernel_rfl, fun w hSw => by go_simp⟩
                      try simp only [Act.put, List.setIfInBounds_toArray, List.set_cons_zero, List.set_cons_succ]
                      refine wpAnyH_done (by kernel_rfl) ?_ _
                      have RPx : Hid (ReadsP x10 (.slice pa ps.length pc) ps) := readsP_below RP.out X10.out
                      have RQx : Hid (ReadsP x10 (.slice qa qs.length qc) qs) := readsP_below RQ.out X10.out
                      have RCx : Hid (Reads x10 (.slice ca C.length cc) (ints C)) := reads_below RC.out X10.out
                      have Px : Hid (x10.heap[bP]? = some (.cells #[.slice pa ps.length pc] 26 (0, 0))) := box_step P.out X10.out
                      have Qx : Hid (x10.heap[bQ]? = some (.cells #[.slice qa qs.length qc] 26 (0, 0))) := box_step Q.out X10.out
                      have LWx : Hid (Below w.heap.size w x10) := low_step LW.out X10.out
                      have hzix := fun X (hX : Below x10.heap.size x10 X) => hzi X (low_step X10.out hX)
                      clear P Q XB S RP RQ RC RX LW HS hS0 c1 c2 c3 c4 c5 c6 hio9 hso9 hsc9 hxi hxp hti hts hzi hzs hio hso hsc X1 X2 X3 X4 X5 X6 X7 X8 X9 X10
                      have hCl12 : C.length ≤ 12 := hC12
                      go_wp2_with fail
                      go_loopw [10] (fun q wr => ∃ k : Nat, k ≤ C.length ∧ q = .int .i64 k ∧ Below x10.heap.size x10 wr) (fun q _ => C.length - (intOf q).toNat)
                      case atStart => exact ⟨0, Nat.zero_le _, rfl, Below.refl _ _⟩
                      case round =>
                        obtain ⟨k, hkl, rfl, hbr⟩ := hrel
                        by_cases hk : k < C.length
                        · have hk' : (k : Int) < (C.length : Int) := by omega
                          have hk0 : (0 : Int) ≤ (k : Int) := by omega
                          obtain ⟨j, p, hij, hjp, hp12, hcl, hx0, hxq, hq4⟩ := HCT.out (C[k]'hk) (List.getElem_mem hk)
                          subst hij
                          have hj : j < qs.length := (List.getElem?_eq_some_iff.1 hjp).1
                          have hj' : (j : Int) < (qs.length : Int) := by omega
                          have hj0 : (0 : Int) ≤ (j : Int) := by omega
                          obtain ⟨gc, oc, hca⟩ := reads_some RCx.out (by omega)
                          subst hca
                          obtain ⟨gq, oq, hqa⟩ := readsP_some RQx.out (by omega)
                          subst hqa
                          obtain ⟨xq, hxc0, hx3⟩ := readsP_cell RQx.out hjp
                          obtain ⟨xa9, xc9, rfl⟩ := reads3_form hx3
                          have hpl : 0 < p.length := by
                            cases p with
                            | nil => simp [called] at hcl
                            | cons _ _ => simp
                          obtain ⟨gx, ox, hxa⟩ := reads3_some hx3 hpl
                          subst hxa
                          have HX3 : Hid (Reads3 x10 (.slice (some ⟨gx, ox, none⟩) p.length xc9) p) := hx3
                          have HXC : Hid (x10.cell? ⟨gq, oq + j, none⟩ = some (.slice (some ⟨gx, ox, none⟩) p.length xc9)) := hxc0
                          have HCL : Hid (called p (C[k]'hk) = true) := hcl
                          have HXB : Hid (0 ≤ C[k]'hk ∧ C[k]'hk < (qs.length : Int)) := ⟨hx0, hxq⟩
                          obtain ⟨cQ, -⟩ := one_cell (box_step Qx.out hbr)
                          have cX := cell_step hxc0 hbr
                          have HBk : Hid (Below x10.heap.size x10 wr) := hbr
                          clear hcl hx3 hxc0 hbr hjp hx0 hxq
                          go_wp2_with fail
                          obtain ⟨wo, hwo⟩ : ∃ x, x = wr := ⟨_, rfl⟩
                          subst hwo
                          go_loopw [11, 12] (fun f q wr => ∃ m : Nat, m ≤ p.length ∧ q = .int .i64 m ∧ f = .bool (called (p.take m) (C[k]'hk)) ∧ Below x10.heap.size x10 wr) (fun _ q _ => p.length - (intOf q).toNat)
                          case atStart => exact ⟨0, Nat.zero_le _, rfl, by simp [called], HBk.out⟩
                          case round =>
                            obtain ⟨m, hml, rfl, rfl, hbr⟩ := hrel
                            have HBR : Hid (Below x10.heap.size x10 wr) := hbr
                            clear cQ cX
                            obtain ⟨cQ, -⟩ := one_cell (box_step Qx.out hbr)
                            have cX := cell_step HXC.out hbr
                            have cC := cell_step (reads_cell RCx.out hk) hbr
                            by_cases hm : m < p.length
                            · have hm' : (m : Int) < (p.length : Int) := by omega
                              have hm0 : (0 : Int) ≤ (m : Int) := by omega
                              obtain ⟨s, hs⟩ : ∃ s, p[m]? = some s := ⟨p[m], by simp [hm]⟩
                              have hse : p[m] = s := by simpa [hm] using hs
                              have hsn := called_snoc p m hm (C[k]'hk)
                              rw [hse] at hsn
                              obtain ⟨d0', _, d2'⟩ := reads3_cell HX3.out hs
                              have d0 := cell_step d0' hbr
                              have d2 := cell_step d2' hbr
                              have hS9 : wr.cell? ⟨bQ, 0, none⟩ = some (.slice (some ⟨gq, oq, none⟩) qs.length qc) ∧ wr.cell? ⟨gq, oq + j, none⟩ = some (.slice (some ⟨gx, ox, none⟩) p.length xc9) ∧ wr.cell? ⟨gx, ox + m * 3, none⟩ = some (.int .i64 s.k) ∧ wr.cell? ⟨gx, ox + m * 3 + 2, none⟩ = some (.int .i64 s.y) ∧ wr.cell? ⟨gc, oc + k, none⟩ = some (.int .i64 (C[k]'hk)) := ⟨cQ, cX, d0, d2, cC⟩
                              have HSN : Hid (called (p.take (m + 1)) (C[k]'hk) = (called (p.take m) (C[k]'hk) || (decide (s.k = 8) && decide (s.y = C[k]'hk)))) := hsn
                              clear hsn hse hs d0' d2' hbr
                              obtain ⟨f, hf⟩ : ∃ f, called (p.take m) (C[k]'hk) = f := ⟨_, rfl⟩
                              rw [hf] at HSN ⊢
                              clear hf
                              cases f with
                              | true =>
                                have HF1 : Hid (Value.bool true = .bool (called (p.take (m + 1)) (C[k]'hk))) := by
                                  show Value.bool true = _
                                  rw [HSN.out]; rfl
                                clear HSN
                                go_wp2_with fail
                                refine wp_region_held_drew (S := fun X => X.cell? ⟨bQ, 0, none⟩ = some (.slice (some ⟨gq, oq, none⟩) qs.length qc) ∧ X.cell? ⟨gq, oq + j, none⟩ = some (.slice (some ⟨gx, ox, none⟩) p.length xc9) ∧ X.cell? ⟨gx, ox + m * 3, none⟩ = some (.int .i64 s.k) ∧ X.cell? ⟨gx, ox + m * 3 + 2, none⟩ = some (.int .i64 s.y) ∧ X.cell? ⟨gc, oc + k, none⟩ = some (.int .i64 (C[k]'hk))) (by kernel_rfl) hS9 (fun hHeld => ?_)
                                refine wpAnyH_take (i := 0) (oi := ?oibA0) (v := .bool true) ?hibA0 (by kernel_rfl) (by kernel_rfl) (by kernel_rfl) ?hqbA0 ?hybA0 hHeld ?hrbA0
                                case hibA0 =>
                                  simp only [List.getElem?_toArray, List.getElem?_cons_succ, List.getElem?_cons_zero]
                                  rfl
                                case hqbA0 => exact fun _ _ _ h => h
                                case hybA0 => exact Or.inl ⟨by kernel_rfl, fun w hSw => by go_simp⟩
                                try simp only [Act.put, List.setIfInBounds_toArray, List.set_cons_zero, List.set_cons_succ]
                                refine wpAnyH_take (i := 1) (oi := ?oibA1) (v := .bool true) ?hibA1 (by kernel_rfl) (by kernel_rfl) (by kernel_rfl) ?hqbA1 ?hybA1 hHeld ?hrbA1
                                case hibA1 =>
                                  simp only [List.getElem?_toArray, List.getElem?_cons_succ, List.getElem?_cons_zero]
                                  rfl
                                case hqbA1 => exact fun _ _ _ h => h
                                case hybA1 => exact Or.inl ⟨by kernel_rfl, fun w hSw => by go_simp⟩
                                try simp only [Act.put, List.setIfInBounds_toArray, List.set_cons_zero, List.set_cons_succ]
                                refine wpAnyH_take (i := 2) (oi := ?oibA2) (v := undef) ?hibA2 (by kernel_rfl) (by kernel_rfl) (by kernel_rfl) ?hqbA2 ?hybA2 hHeld ?hrbA2
                                case hibA2 =>
                                  simp only [List.getElem?_toArray, List.getElem?_cons_succ, List.getElem?_cons_zero]
                                  rfl
                                case hqbA2 => exact fun _ _ _ h => h
                                case hybA2 => exact Or.inr ⟨by kernel_rfl, rfl⟩
                                try simp only [Act.put, List.setIfInBounds_toArray, List.set_cons_zero, List.set_cons_succ]
                                refine wpAnyH_take (i := 3) (oi := ?oibA3) (v := undef) ?hibA3 (by kernel_rfl) (by kernel_rfl) (by kernel_rfl) ?hqbA3 ?hybA3 hHeld ?hrbA3
                                case hibA3 =>
                                  simp only [List.getElem?_toArray, List.getElem?_cons_succ, List.getElem?_cons_zero]
                                  rfl
                                case hqbA3 => exact fun _ _ _ h => h
                                case hybA3 => exact Or.inr ⟨by kernel_rfl, rfl⟩
                                try simp only [Act.put, List.setIfInBounds_toArray, List.set_cons_zero, List.set_cons_succ]
                                refine wpAnyH_take (i := 4) (oi := ?oibA4) (v := undef) ?hibA4 (by kernel_rfl) (by kernel_rfl) (by kernel_rfl) ?hqbA4 ?hybA4 hHeld ?hrbA4
                                case hibA4 =>
                                  simp only [List.getElem?_toArray, List.getElem?_cons_succ, List.getElem?_cons_zero]
                                  rfl
                                case hqbA4 => exact fun _ _ _ h => h
                                case hybA4 => exact Or.inr ⟨by kernel_rfl, rfl⟩
                                try simp only [Act.put, List.setIfInBounds_toArray, List.set_cons_zero, List.set_cons_succ]
                                refine wpAnyH_take (i := 5) (oi := ?oibA5) (v := undef) ?hibA5 (by kernel_rfl) (by kernel_rfl) (by kernel_rfl) ?hqbA5 ?hybA5 hHeld ?hrbA5
                                case hibA5 =>
                                  simp only [List.getElem?_toArray, List.getElem?_cons_succ, List.getElem?_cons_zero]
                                  rfl
                                case hqbA5 => exact fun _ _ _ h => h
                                case hybA5 => exact Or.inr ⟨by kernel_rfl, rfl⟩
                                try simp only [Act.put, List.setIfInBounds_toArray, List.set_cons_zero, List.set_cons_succ]
                                refine wpAnyH_take (i := 6) (oi := ?oibA6) (v := undef) ?hibA6 (by kernel_rfl) (by kernel_rfl) (by kernel_rfl) ?hqbA6 ?hybA6 hHeld ?hrbA6
                                case hibA6 =>
                                  simp only [List.getElem?_toArray, List.getElem?_cons_succ, List.getElem?_cons_zero]
                                  rfl
                                case hqbA6 => exact fun _ _ _ h => h
                                case hybA6 => exact Or.inr ⟨by kernel_rfl, rfl⟩
                                try simp only [Act.put, List.setIfInBounds_toArray, List.set_cons_zero, List.set_cons_succ]
                                refine wpAnyH_take (i := 7) (oi := ?oibA7) (v := undef) ?hibA7 (by kernel_rfl) (by kernel_rfl) (by kernel_rfl) ?hqbA7 ?hybA7 hHeld ?hrbA7
                                case hibA7 =>
                                  simp only [List.getElem?_toArray, List.getElem?_cons_succ, List.getElem?_cons_zero]
                                  rfl
                                case hqbA7 => exact fun _ _ _ h => h
                                case hybA7 => exact Or.inr ⟨by kernel_rfl, rfl⟩
                                try simp only [Act.put, List.setIfInBounds_toArray, List.set_cons_zero, List.set_cons_succ]
                                refine wpAnyH_take (i := 8) (oi := ?oibA8) (v := undef) ?hibA8 (by kernel_rfl) (by kernel_rfl) (by kernel_rfl) ?hqbA8 ?hybA8 hHeld ?hrbA8
                                case hibA8 =>
                                  simp only [List.getElem?_toArray, List.getElem?_cons_succ, List.getElem?_cons_zero]
                                  rfl
                                case hqbA8 => exact fun _ _ _ h => h
                                case hybA8 => exact Or.inr ⟨by kernel_rfl, rfl⟩
                                try simp only [Act.put, List.setIfInBounds_toArray, List.set_cons_zero, List.set_cons_succ]
                                refine wpAnyH_take (i := 9) (oi := ?oibA9) (v := undef) ?hibA9 (by kernel_rfl) (by kernel_rfl) (by kernel_rfl) ?hqbA9 ?hybA9 hHeld ?hrbA9
                                case hibA9 =>
                                  simp only [List.getElem?_toArray, List.getElem?_cons_succ, List.getElem?_cons_zero]
                                  rfl
                                case hqbA9 => exact fun _ _ _ h => h
                                case hybA9 => exact Or.inr ⟨by kernel_rfl, rfl⟩
                                try simp only [Act.put, List.setIfInBounds_toArray, List.set_cons_zero, List.set_cons_succ]
                                refine wpAnyH_take (i := 10) (oi := ?oibA10) (v := undef) ?hibA10 (by kernel_rfl) (by kernel_rfl) (by kernel_rfl) ?hqbA10 ?hybA10 hHeld ?hrbA10
                                case hibA10 =>
                                  simp only [List.getElem?_toArray, List.getElem?_cons_succ, List.getElem?_cons_zero]
                                  rfl
                                case hqbA10 => exact fun _ _ _ h => h
                                case hybA10 => exact Or.inr ⟨by kernel_rfl, rfl⟩
                                try simp only [Act.put, List.setIfInBounds_toArray, List.set_cons_zero, List.set_cons_succ]
                                refine wpAnyH_take (i := 11) (oi := ?oibA11) (v := undef) ?hibA11 (by kernel_rfl) (by kernel_rfl) (by kernel_rfl) ?hqbA11 ?hybA11 hHeld ?hrbA11
                                case hibA11 =>
                                  simp only [List.getElem?_toArray, List.getElem?_cons_succ, List.getElem?_cons_zero]
                                  rfl
                                case hqbA11 => exact fun _ _ _ h => h
                                case hybA11 => exact Or.inr ⟨by kernel_rfl, rfl⟩
                                try simp only [Act.put, List.setIfInBounds_toArray, List.set_cons_zero, List.set_cons_succ]
                                refine wpAnyH_take (i := 12) (oi := ?oibA12) (v := undef) ?hibA12 (by kernel_rfl) (by kernel_rfl) (by kernel_rfl) ?hqbA12 ?hybA12 hHeld ?hrbA12
                                case hibA12 =>
                                  simp only [List.getElem?_toArray, List.getElem?_cons_succ, List.getElem?_cons_zero]
                                  rfl
                                case hqbA12 => exact fun _ _ _ h => h
                                case hybA12 => exact Or.inr ⟨by kernel_rfl, rfl⟩
                                try simp only [Act.put, List.setIfInBounds_toArray, List.set_cons_zero, List.set_cons_succ]
                                refine wpAnyH_take (i := 13) (oi := ?oibA13) (v := undef) ?hibA13 (by kernel_rfl) (by kernel_rfl) (by kernel_rfl) ?hqbA13 ?hybA13 hHeld ?hrbA13
                                case hibA13 =>
                                  simp only [List.getElem?_toArray, List.getElem?_cons_succ, List.getElem?_cons_zero]
                                  rfl
                                case hqbA13 => exact fun _ _ _ h => h
                                case hybA13 => exact Or.inr ⟨by kernel_rfl, rfl⟩
                                try simp only [Act.put, List.setIfInBounds_toArray, List.set_cons_zero, List.set_cons_succ]
                                refine wpAnyH_take (i := 14) (oi := ?oibA14) (v := undef) ?hibA14 (by kernel_rfl) (by kernel_rfl) (by kernel_rfl) ?hqbA14 ?hybA14 hHeld ?hrbA14
                                case hibA14 =>
                                  simp only [List.getElem?_toArray, List.getElem?_cons_succ, List.getElem?_cons_zero]
                                  rfl
                                case hqbA14 => exact fun _ _ _ h => h
                                case hybA14 => exact Or.inr ⟨by kernel_rfl, rfl⟩
                                try simp only [Act.put, List.setIfInBounds_toArray, List.set_cons_zero, List.set_cons_succ]
                                refine wpAnyH_take (i := 15) (oi := ?oibA15) (v := undef) ?hibA15 (by kernel_rfl) (by kernel_rfl) (by kernel_rfl) ?hqbA15 ?hybA15 hHeld ?hrbA15
                                case hibA15 =>
                                  simp only [List.getElem?_toArray, List.getElem?_cons_succ, List.getElem?_cons_zero]
                                  rfl
                                case hqbA15 => exact fun _ _ _ h => h
                                case hybA15 => exact Or.inr ⟨by kernel_rfl, rfl⟩
                                try simp only [Act.put, List.setIfInBounds_toArray, List.set_cons_zero, List.set_cons_succ]
                                refine wpAnyH_take (i := 16) (oi := ?oibA16) (v := undef) ?hibA16 (by kernel_rfl) (by kernel_rfl) (by kernel_rfl) ?hqbA16 ?hybA16 hHeld ?hrbA16
                                case hibA16 =>
                                  simp only [List.getElem?_toArray, List.getElem?_cons_succ, List.getElem?_cons_zero]
                                  rfl
                                case hqbA16 => exact fun _ _ _ h => h
                                case hybA16 => exact Or.inr ⟨by kernel_rfl, rfl⟩
                                try simp only [Act.put, List.setIfInBounds_toArray, List.set_cons_zero, List.set_cons_succ]
                                refine wpAnyH_take (i := 17) (oi := ?oibA17) (v := undef) ?hibA17 (by kernel_rfl) (by kernel_rfl) (by kernel_rfl) ?hqbA17 ?hybA17 hHeld ?hrbA17
                                case hibA17 =>
                                  simp only [List.getElem?_toArray, List.getElem?_cons_succ, List.getElem?_cons_zero]
                                  rfl
                                case hqbA17 => exact fun _ _ _ h => h
                                case hybA17 => exact Or.inr ⟨by kernel_rfl, rfl⟩
                                try simp only [Act.put, List.setIfInBounds_toArray, List.set_cons_zero, List.set_cons_succ]
                                refine wpAnyH_take (i := 18) (oi := ?oibA18) (v := undef) ?hibA18 (by kernel_rfl) (by kernel_rfl) (by kernel_rfl) ?hqbA18 ?hybA18 hHeld ?hrbA18
                                case hibA18 =>
                                  simp only [List.getElem?_toArray, List.getElem?_cons_succ, List.getElem?_cons_zero]
                                  rfl
                                case hqbA18 => exact fun _ _ _ h => h
                                case hybA18 => exact Or.inr ⟨by kernel_rfl, rfl⟩
                                try simp only [Act.put, List.setIfInBounds_toArray, List.set_cons_zero, List.set_cons_succ]
                                refine wpAnyH_take (i := 19) (oi := ?oibA19) (v := undef) ?hibA19 (by kernel_rfl) (by kernel_rfl) (by kernel_rfl) ?hqbA19 ?hybA19 hHeld ?hrbA19
                                case hibA19 =>
                                  simp only [List.getElem?_toArray, List.getElem?_cons_succ, List.getElem?_cons_zero]
                                  rfl
                                case hqbA19 => exact fun _ _ _ h => h
                                case hybA19 => exact Or.inr ⟨by kernel_rfl, rfl⟩
                                try simp only [Act.put, List.setIfInBounds_toArray, List.set_cons_zero, List.set_cons_succ]
                                refine wpAnyH_take (i := 20) (oi := ?oibA20) (v := undef) ?hibA20 (by kernel_rfl) (by kernel_rfl) (by kernel_rfl) ?hqbA20 ?hybA20 hHeld ?hrbA20
                                case hibA20 =>
                                  simp only [List.getElem?_toArray, List.getElem?_cons_succ, List.getElem?_cons_zero]
                                  rfl
                                case hqbA20 => exact fun _ _ _ h => h
                                case hybA20 => exact Or.inr ⟨by kernel_rfl, rfl⟩
                                try simp only [Act.put, List.setIfInBounds_toArray, List.set_cons_zero, List.set_cons_succ]
                                refine wpAnyH_take (i := 21) (oi := ?oibA21) (v := undef) ?hibA21 (by kernel_rfl) (by kernel_rfl) (by kernel_rfl) ?hqbA21 ?hybA21 hHeld ?hrbA21
                                case hibA21 =>
                                  simp only [List.getElem?_toArray, List.getElem?_cons_succ, List.getElem?_cons_zero]
                                  rfl
                                case hqbA21 => exact fun _ _ _ h => h
                                case hybA21 => exact Or.inr ⟨by kernel_rfl, rfl⟩
                                try simp only [Act.put, List.setIfInBounds_toArray, List.set_cons_zero, List.set_cons_succ]
                                refine wpAnyH_take (i := 22) (oi := ?oibA22) (v := undef) ?hibA22 (by kernel_rfl) (by kernel_rfl) (by kernel_rfl) ?hqbA22 ?hybA22 hHeld ?hrbA22
                                case hibA22 =>
                                  simp only [List.getElem?_toArray, List.getElem?_cons_succ, List.getElem?_cons_zero]
                                  rfl
                                case hqbA22 => exact fun _ _ _ h => h
                                case hybA22 => exact Or.inr ⟨by kernel_rfl, rfl⟩
                                try simp only [Act.put, List.setIfInBounds_toArray, List.set_cons_zero, List.set_cons_succ]
                                refine wpAnyH_take (i := 23) (oi := ?oibA23) (v := undef) ?hibA23 (by kernel_rfl) (by kernel_rfl) (by kernel_rfl) ?hqbA23 ?hybA23 hHeld ?hrbA23
                                case hibA23 =>
                                  simp only [List.getElem?_toArray, List.getElem?_cons_succ, List.getElem?_cons_zero]
                                  rfl
                                case hqbA23 => exact fun _ _ _ h => h
                                case hybA23 => exact Or.inr ⟨by kernel_rfl, rfl⟩
                                try simp only [Act.put, List.setIfInBounds_toArray, List.set_cons_zero, List.set_cons_succ]
                                refine wpAnyH_take (i := 24) (oi := ?oibA24) (v := undef) ?hibA24 (by kernel_rfl) (by kernel_rfl) (by kernel_rfl) ?hqbA24 ?hybA24 hHeld ?hrbA24
                                case hibA24 =>
                                  simp only [List.getElem?_toArray, List.getElem?_cons_succ, List.getElem?_cons_zero]
                                  rfl
                                case hqbA24 => exact fun _ _ _ h => h
                                case hybA24 => exact Or.inr ⟨by kernel_rfl, rfl⟩
                                try simp only [Act.put, List.setIfInBounds_toArray, List.set_cons_zero, List.set_cons_succ]
                                refine wpAnyH_take (i := 25) (oi := ?oibA25) (v := undef) ?hibA25 (by kernel_rfl) (by kernel_rfl) (by kernel_rfl) ?hqbA25 ?hybA25 hHeld ?hrbA25
                                case hibA25 =>
                                  simp only [List.getElem?_toArray, List.getElem?_cons_succ, List.getElem?_cons_zero]
                                  rfl
                                case hqbA25 => exact fun _ _ _ h => h
                                case hybA25 => exact Or.inr ⟨by kernel_rfl, rfl⟩
                                try simp only [Act.put, List.setIfInBounds_toArray, List.set_cons_zero, List.set_cons_succ]
                                refine wpAnyH_take (i := 26) (oi := ?oibA26) (v := undef) ?hibA26 (by kernel_rfl) (by kernel_rfl) (by kernel_rfl) ?hqbA26 ?hybA26 hHeld ?hrbA26
                                case hibA26 =>
                                  simp only [List.getElem?_toArray, List.getElem?_cons_succ, List.getElem?_cons_zero]
                                  rfl
                                case hqbA26 => exact fun _ _ _ h => h
                                case hybA26 => exact Or.inr ⟨by kernel_rfl, rfl⟩
                                try simp only [Act.put, List.setIfInBounds_toArray, List.set_cons_zero, List.set_cons_succ]
                                refine wpAnyH_take (i := 27) (oi := ?oibA27) (v := undef) ?hibA27 (by kernel_rfl) (by kernel_rfl) (by kernel_rfl) ?hqbA27 ?hybA27 hHeld ?hrbA27
                                case hibA27 =>
                                  simp only [List.getElem?_toArray, List.getElem?_cons_succ, List.getElem?_cons_zero]
                                  rfl
                                case hqbA27 => exact fun _ _ _ h => h
                                case hybA27 => exact Or.inr ⟨by kernel_rfl, rfl⟩
                                try simp only [Act.put, List.setIfInBounds_toArray, List.set_cons_zero, List.set_cons_succ]
                                refine wpAnyH_take (i := 28) (oi := ?oibA28) (v := undef) ?hibA28 (by kernel_rfl) (by kernel_rfl) (by kernel_rfl) ?hqbA28 ?hybA28 hHeld ?hrbA28
                                case hibA28 =>
                                  simp only [List.getElem?_toArray, List.getElem?_cons_succ, List.getElem?_cons_zero]
                                  rfl
                                case hqbA28 => exact fun _ _ _ h => h
                                case hybA28 => exact Or.inr ⟨by kernel_rfl, rfl⟩
                                try simp only [Act.put, List.setIfInBounds_toArray, List.set_cons_zero, List.set_cons_succ]
                                refine wpAnyH_take (i := 29) (oi := ?oibA29) (v := undef) ?hibA29 (by kernel_rfl) (by kernel_rfl) (by kernel_rfl) ?hqbA29 ?hybA29 hHeld ?hrbA29
                                case hibA29 =>
                                  simp only [List.getElem?_toArray, List.getElem?_cons_succ, List.getElem?_cons_zero]
                                  rfl
                                case hqbA29 => exact fun _ _ _ h => h
                                case hybA29 => exact Or.inr ⟨by kernel_rfl, rfl⟩
                                try simp only [Act.put, List.setIfInBounds_toArray, List.set_cons_zero, List.set_cons_succ]
                                refine wpAnyH_take (i := 30) (oi := ?oibA30) (v := .bool true) ?hibA30 (by kernel_rfl) (by kernel_rfl) (by kernel_rfl) ?hqbA30 ?hybA30 hHeld ?hrbA30
                                case hibA30 =>
                                  simp only [List.getElem?_toArray, List.getElem?_cons_succ, List.getElem?_cons_zero]
                                  rfl
                                case hqbA30 => exact fun _ _ _ h => h
                                case hybA30 => exact Or.inl ⟨by kernel_rfl, fun w hSw => by go_simp⟩
                                try simp only [Act.put, List.setIfInBounds_toArray, List.set_cons_zero, List.set_cons_succ]
                                refine wpAnyH_take (i := 31) (oi := ?oibA31) (v := .bool true) ?hibA31 (by kernel_rfl) (by kernel_rfl) (by kernel_rfl) ?hqbA31 ?hybA31 hHeld ?hrbA31
                                case hibA31 =>
                                  simp only [List.getElem?_toArray, List.getElem?_cons_succ, List.getElem?_cons_zero]
                                  rfl
                                case hqbA31 => exact fun _ _ _ h => h
                                case hybA31 => exact Or.inl ⟨by kernel_rfl, fun w hSw => by go_simp⟩
                                try simp only [Act.put, List.setIfInBounds_toArray, List.set_cons_zero, List.set_cons_succ]
                                refine wpAnyH_done (by kernel_rfl) ?_ _
                                go_wp2
                                go_roundw
                                case rel => exact ⟨m + 1, by omega, by go_num, HF1.out, HBR.out.drew⟩
                                case measure => simp [intOf]; omega
                              | false =>
                                by_cases h8 : s.k = 8
                                · have h8' : (s.k == 8) = true := by simpa using h8
                                  by_cases hy : s.y = C[k]'hk
                                  · have hy' : (s.y == C[k]'hk) = true := by simpa using hy
                                    have HF1 : Hid (Value.bool true = .bool (called (p.take (m + 1)) (C[k]'hk))) := by
                                      show Value.bool true = _
                                      rw [HSN.out, decide_eq_true h8, decide_eq_true hy]; rfl
                                    clear HSN h8 hy
                                    go_wp2_with fail
                                    refine wp_region_held_drew (S := fun X => X.cell? ⟨bQ, 0, none⟩ = some (.slice (some ⟨gq, oq, none⟩) qs.length qc) ∧ X.cell? ⟨gq, oq + j, none⟩ = some (.slice (some ⟨gx, ox, none⟩) p.length xc9) ∧ X.cell? ⟨gx, ox + m * 3, none⟩ = some (.int .i64 s.k) ∧ X.cell? ⟨gx, ox + m * 3 + 2, none⟩ = some (.int .i64 s.y) ∧ X.cell? ⟨gc, oc + k, none⟩ = some (.int .i64 (C[k]'hk))) (by kernel_rfl) hS9 (fun hHeld => ?_)
                                    refine wpAnyH_take (i := 0) (oi := ?oibB0) (v := .bool false) ?hibB0 (by kernel_rfl) (by kernel_rfl) (by kernel_rfl) ?hqbB0 ?hybB0 hHeld ?hrbB0
                                    case hibB0 =>
                                      simp only [List.getElem?_toArray, List.getElem?_cons_succ, List.getElem?_cons_zero]
                                      rfl
                                    case hqbB0 => exact fun _ _ _ h => h
                                    case hybB0 => exact Or.inl ⟨by kernel_rfl, fun w hSw => by go_simp⟩
                                    try simp only [Act.put, List.setIfInBounds_toArray, List.set_cons_zero, List.set_cons_succ]
                                    refine wpAnyH_take (i := 1) (oi := ?oibB1) (v := .bool false) ?hibB1 (by kernel_rfl) (by kernel_rfl) (by kernel_rfl) ?hqbB1 ?hybB1 hHeld ?hrbB1
                                    case hibB1 =>
                                      simp only [List.getElem?_toArray, List.getElem?_cons_succ, List.getElem?_cons_zero]
                                      rfl
                                    case hqbB1 => exact fun _ _ _ h => h
                                    case hybB1 => exact Or.inl ⟨by kernel_rfl, fun w hSw => by go_simp⟩
                                    try simp only [Act.put, List.setIfInBounds_toArray, List.set_cons_zero, List.set_cons_succ]
                                    refine wpAnyH_take (i := 2) (oi := ?oibB2) (v := .pointer (some ⟨bQ, 0, none⟩)) ?hibB2 (by kernel_rfl) (by kernel_rfl) (by kernel_rfl) ?hqbB2 ?hybB2 hHeld ?hrbB2
                                    case hibB2 =>
                                      simp only [List.getElem?_toArray, List.getElem?_cons_succ, List.getElem?_cons_zero]
                                      rfl
                                    case hqbB2 => exact fun _ _ _ h => h
                                    case hybB2 => exact Or.inl ⟨by kernel_rfl, fun w hSw => by go_simp⟩
                                    try simp only [Act.put, List.setIfInBounds_toArray, List.set_cons_zero, List.set_cons_succ]
                                    refine wpAnyH_take (i := 3) (oi := ?oibB3) (v := .slice (some ⟨gq, oq, none⟩) qs.length qc) ?hibB3 (by kernel_rfl) (by kernel_rfl) (by kernel_rfl) ?hqbB3 ?hybB3 hHeld ?hrbB3
                                    case hibB3 =>
                                      simp only [List.getElem?_toArray, List.getElem?_cons_succ, List.getElem?_cons_zero]
                                      rfl
                                    case hqbB3 => exact fun _ _ _ h => h
                                    case hybB3 => exact Or.inl ⟨by kernel_rfl, fun w hSw => by obtain ⟨s0, s1, s2, s3, s4⟩ := hSw; go_simp⟩
                                    try simp only [Act.put, List.setIfInBounds_toArray, List.set_cons_zero, List.set_cons_succ]
                                    refine wpAnyH_take (i := 4) (oi := ?oibB4) (v := .int .i64 (j : Int)) ?hibB4 (by kernel_rfl) (by kernel_rfl) (by kernel_rfl) ?hqbB4 ?hybB4 hHeld ?hrbB4
                                    case hibB4 =>
                                      simp only [List.getElem?_toArray, List.getElem?_cons_succ, List.getElem?_cons_zero]
                                      rfl
                                    case hqbB4 => exact fun _ _ _ h => h
                                    case hybB4 => exact Or.inl ⟨by kernel_rfl, fun w hSw => by go_simp⟩
                                    try simp only [Act.put, List.setIfInBounds_toArray, List.set_cons_zero, List.set_cons_succ]
                                    refine wpAnyH_take (i := 5) (oi := ?oibB5) (v := .pointer (some ⟨gq, oq + j, none⟩)) ?hibB5 (by kernel_rfl) (by kernel_rfl) (by kernel_rfl) ?hqbB5 ?hybB5 hHeld ?hrbB5
                                    case hibB5 =>
                                      simp only [List.getElem?_toArray, List.getElem?_cons_succ, List.getElem?_cons_zero]
                                      rfl
                                    case hqbB5 => exact fun _ _ _ h => h
                                    case hybB5 => exact Or.inl ⟨by kernel_rfl, fun w hSw => by go_simp⟩
                                    try simp only [Act.put, List.setIfInBounds_toArray, List.set_cons_zero, List.set_cons_succ]
                                    refine wpAnyH_take (i := 6) (oi := ?oibB6) (v := .pointer (some ⟨gq, oq + j, none⟩)) ?hibB6 (by kernel_rfl) (by kernel_rfl) (by kernel_rfl) ?hqbB6 ?hybB6 hHeld ?hrbB6
                                    case hibB6 =>
                                      simp only [List.getElem?_toArray, List.getElem?_cons_succ, List.getElem?_cons_zero]
                                      rfl
                                    case hqbB6 => exact fun _ _ _ h => h
                                    case hybB6 => exact Or.inl ⟨by kernel_rfl, fun w hSw => by go_simp⟩
                                    try simp only [Act.put, List.setIfInBounds_toArray, List.set_cons_zero, List.set_cons_succ]
                                    refine wpAnyH_take (i := 7) (oi := ?oibB7) (v := .slice (some ⟨gx, ox, none⟩) p.length xc9) ?hibB7 (by kernel_rfl) (by kernel_rfl) (by kernel_rfl) ?hqbB7 ?hybB7 hHeld ?hrbB7
                                    case hibB7 =>
                                      simp only [List.getElem?_toArray, List.getElem?_cons_succ, List.getElem?_cons_zero]
                                      rfl
                                    case hqbB7 => exact fun _ _ _ h => h
                                    case hybB7 => exact Or.inl ⟨by kernel_rfl, fun w hSw => by obtain ⟨s0, s1, s2, s3, s4⟩ := hSw; go_simp⟩
                                    try simp only [Act.put, List.setIfInBounds_toArray, List.set_cons_zero, List.set_cons_succ]
                                    refine wpAnyH_take (i := 8) (oi := ?oibB8) (v := .int .i64 (m : Int)) ?hibB8 (by kernel_rfl) (by kernel_rfl) (by kernel_rfl) ?hqbB8 ?hybB8 hHeld ?hrbB8
                                    case hibB8 =>
                                      simp only [List.getElem?_toArray, List.getElem?_cons_succ, List.getElem?_cons_zero]
                                      rfl
                                    case hqbB8 => exact fun _ _ _ h => h
                                    case hybB8 => exact Or.inl ⟨by kernel_rfl, fun w hSw => by go_simp⟩
                                    try simp only [Act.put, List.setIfInBounds_toArray, List.set_cons_zero, List.set_cons_succ]
                                    refine wpAnyH_take (i := 9) (oi := ?oibB9) (v := .pointer (some ⟨gx, ox + m * 3, none⟩)) ?hibB9 (by kernel_rfl) (by kernel_rfl) (by kernel_rfl) ?hqbB9 ?hybB9 hHeld ?hrbB9
                                    case hibB9 =>
                                      simp only [List.getElem?_toArray, List.getElem?_cons_succ, List.getElem?_cons_zero]
                                      rfl
                                    case hqbB9 => exact fun _ _ _ h => h
                                    case hybB9 => exact Or.inl ⟨by kernel_rfl, fun w hSw => by go_simp⟩
                                    try simp only [Act.put, List.setIfInBounds_toArray, List.set_cons_zero, List.set_cons_succ]
                                    refine wpAnyH_take (i := 10) (oi := ?oibB10) (v := .pointer (some ⟨gx, ox + m * 3, none⟩)) ?hibB10 (by kernel_rfl) (by kernel_rfl) (by kernel_rfl) ?hqbB10 ?hybB10 hHeld ?hrbB10
                                    case hibB10 =>
                                      simp only [List.getElem?_toArray, List.getElem?_cons_succ, List.getElem?_cons_zero]
                                      rfl
                                    case hqbB10 => exact fun _ _ _ h => h
                                    case hybB10 => exact Or.inl ⟨by kernel_rfl, fun w hSw => by go_simp⟩
                                    try simp only [Act.put, List.setIfInBounds_toArray, List.set_cons_zero, List.set_cons_succ]
                                    refine wpAnyH_take (i := 11) (oi := ?oibB11) (v := .int .i64 s.k) ?hibB11 (by kernel_rfl) (by kernel_rfl) (by kernel_rfl) ?hqbB11 ?hybB11 hHeld ?hrbB11
                                    case hibB11 =>
                                      simp only [List.getElem?_toArray, List.getElem?_cons_succ, List.getElem?_cons_zero]
                                      rfl
                                    case hqbB11 => exact fun _ _ _ h => h
                                    case hybB11 => exact Or.inl ⟨by kernel_rfl, fun w hSw => by obtain ⟨s0, s1, s2, s3, s4⟩ := hSw; go_simp⟩
                                    try simp only [Act.put, List.setIfInBounds_toArray, List.set_cons_zero, List.set_cons_succ]
                                    refine wpAnyH_take (i := 12) (oi := ?oibB12) (v := .bool true) ?hibB12 (by kernel_rfl) (by kernel_rfl) (by kernel_rfl) ?hqbB12 ?hybB12 hHeld ?hrbB12
                                    case hibB12 =>
                                      simp only [List.getElem?_toArray, List.getElem?_cons_succ, List.getElem?_cons_zero]
                                      rfl
                                    case hqbB12 => exact fun _ _ _ h => h
                                    case hybB12 => exact Or.inl ⟨by kernel_rfl, fun w hSw => by go_simp⟩
                                    try simp only [Act.put, List.setIfInBounds_toArray, List.set_cons_zero, List.set_cons_succ]
                                    refine wpAnyH_take (i := 13) (oi := ?oibB13) (v := .bool true) ?hibB13 (by kernel_rfl) (by kernel_rfl) (by kernel_rfl) ?hqbB13 ?hybB13 hHeld ?hrbB13
                                    case hibB13 =>
                                      simp only [List.getElem?_toArray, List.getElem?_cons_succ, List.getElem?_cons_zero]
                                      rfl
                                    case hqbB13 => exact fun _ _ _ h => h
                                    case hybB13 => exact Or.inl ⟨by kernel_rfl, fun w hSw => by go_simp⟩
                                    try simp only [Act.put, List.setIfInBounds_toArray, List.set_cons_zero, List.set_cons_succ]
                                    refine wpAnyH_take (i := 14) (oi := ?oibB14) (v := .pointer (some ⟨bQ, 0, none⟩)) ?hibB14 (by kernel_rfl) (by kernel_rfl) (by kernel_rfl) ?hqbB14 ?hybB14 hHeld ?hrbB14
                                    case hibB14 =>
                                      simp only [List.getElem?_toArray, List.getElem?_cons_succ, List.getElem?_cons_zero]
                                      rfl
                                    case hqbB14 => exact fun _ _ _ h => h
                                    case hybB14 => exact Or.inl ⟨by kernel_rfl, fun w hSw => by go_simp⟩
                                    try simp only [Act.put, List.setIfInBounds_toArray, List.set_cons_zero, List.set_cons_succ]
                                    refine wpAnyH_take (i := 15) (oi := ?oibB15) (v := .slice (some ⟨gq, oq, none⟩) qs.length qc) ?hibB15 (by kernel_rfl) (by kernel_rfl) (by kernel_rfl) ?hqbB15 ?hybB15 hHeld ?hrbB15
                                    case hibB15 =>
                                      simp only [List.getElem?_toArray, List.getElem?_cons_succ, List.getElem?_cons_zero]
                                      rfl
                                    case hqbB15 => exact fun _ _ _ h => h
                                    case hybB15 => exact Or.inl ⟨by kernel_rfl, fun w hSw => by obtain ⟨s0, s1, s2, s3, s4⟩ := hSw; go_simp⟩
                                    try simp only [Act.put, List.setIfInBounds_toArray, List.set_cons_zero, List.set_cons_succ]
                                    refine wpAnyH_take (i := 16) (oi := ?oibB16) (v := .int .i64 (j : Int)) ?hibB16 (by kernel_rfl) (by kernel_rfl) (by kernel_rfl) ?hqbB16 ?hybB16 hHeld ?hrbB16
                                    case hibB16 =>
                                      simp only [List.getElem?_toArray, List.getElem?_cons_succ, List.getElem?_cons_zero]
                                      rfl
                                    case hqbB16 => exact fun _ _ _ h => h
                                    case hybB16 => exact Or.inl ⟨by kernel_rfl, fun w hSw => by go_simp⟩
                                    try simp only [Act.put, List.setIfInBounds_toArray, List.set_cons_zero, List.set_cons_succ]
                                    refine wpAnyH_take (i := 17) (oi := ?oibB17) (v := .pointer (some ⟨gq, oq + j, none⟩)) ?hibB17 (by kernel_rfl) (by kernel_rfl) (by kernel_rfl) ?hqbB17 ?hybB17 hHeld ?hrbB17
                                    case hibB17 =>
                                      simp only [List.getElem?_toArray, List.getElem?_cons_succ, List.getElem?_cons_zero]
                                      rfl
                                    case hqbB17 => exact fun _ _ _ h => h
                                    case hybB17 => exact Or.inl ⟨by kernel_rfl, fun w hSw => by go_simp⟩
                                    try simp only [Act.put, List.setIfInBounds_toArray, List.set_cons_zero, List.set_cons_succ]
                                    refine wpAnyH_take (i := 18) (oi := ?oibB18) (v := .pointer (some ⟨gq, oq + j, none⟩)) ?hibB18 (by kernel_rfl) (by kernel_rfl) (by kernel_rfl) ?hqbB18 ?hybB18 hHeld ?hrbB18
                                    case hibB18 =>
                                      simp only [List.getElem?_toArray, List.getElem?_cons_succ, List.getElem?_cons_zero]
                                      rfl
                                    case hqbB18 => exact fun _ _ _ h => h
                                    case hybB18 => exact Or.inl ⟨by kernel_rfl, fun w hSw => by go_simp⟩
                                    try simp only [Act.put, List.setIfInBounds_toArray, List.set_cons_zero, List.set_cons_succ]
                                    refine wpAnyH_take (i := 19) (oi := ?oibB19) (v := .slice (some ⟨gx, ox, none⟩) p.length xc9) ?hibB19 (by kernel_rfl) (by kernel_rfl) (by kernel_rfl) ?hqbB19 ?hybB19 hHeld ?hrbB19
                                    case hibB19 =>
                                      simp only [List.getElem?_toArray, List.getElem?_cons_succ, List.getElem?_cons_zero]
                                      rfl
                                    case hqbB19 => exact fun _ _ _ h => h
                                    case hybB19 => exact Or.inl ⟨by kernel_rfl, fun w hSw => by obtain ⟨s0, s1, s2, s3, s4⟩ := hSw; go_simp⟩
                                    try simp only [Act.put, List.setIfInBounds_toArray, List.set_cons_zero, List.set_cons_succ]
                                    refine wpAnyH_take (i := 20) (oi := ?oibB20) (v := .int .i64 (m : Int)) ?hibB20 (by kernel_rfl) (by kernel_rfl) (by kernel_rfl) ?hqbB20 ?hybB20 hHeld ?hrbB20
                                    case hibB20 =>
                                      simp only [List.getElem?_toArray, List.getElem?_cons_succ, List.getElem?_cons_zero]
                                      rfl
                                    case hqbB20 => exact fun _ _ _ h => h
                                    case hybB20 => exact Or.inl ⟨by kernel_rfl, fun w hSw => by go_simp⟩
                                    try simp only [Act.put, List.setIfInBounds_toArray, List.set_cons_zero, List.set_cons_succ]
                                    refine wpAnyH_take (i := 21) (oi := ?oibB21) (v := .pointer (some ⟨gx, ox + m * 3, none⟩)) ?hibB21 (by kernel_rfl) (by kernel_rfl) (by kernel_rfl) ?hqbB21 ?hybB21 hHeld ?hrbB21
                                    case hibB21 =>
                                      simp only [List.getElem?_toArray, List.getElem?_cons_succ, List.getElem?_cons_zero]
                                      rfl
                                    case hqbB21 => exact fun _ _ _ h => h
                                    case hybB21 => exact Or.inl ⟨by kernel_rfl, fun w hSw => by go_simp⟩
                                    try simp only [Act.put, List.setIfInBounds_toArray, List.set_cons_zero, List.set_cons_succ]
                                    refine wpAnyH_take (i := 22) (oi := ?oibB22) (v := .pointer (some ⟨gx, ox + m * 3 + 2, none⟩)) ?hibB22 (by kernel_rfl) (by kernel_rfl) (by kernel_rfl) ?hqbB22 ?hybB22 hHeld ?hrbB22
                                    case hibB22 =>
                                      simp only [List.getElem?_toArray, List.getElem?_cons_succ, List.getElem?_cons_zero]
                                      rfl
                                    case hqbB22 => exact fun _ _ _ h => h
                                    case hybB22 => exact Or.inl ⟨by kernel_rfl, fun w hSw => by go_simp⟩
                                    try simp only [Act.put, List.setIfInBounds_toArray, List.set_cons_zero, List.set_cons_succ]
                                    refine wpAnyH_take (i := 23) (oi := ?oibB23) (v := .int .i64 s.y) ?hibB23 (by kernel_rfl) (by kernel_rfl) (by kernel_rfl) ?hqbB23 ?hybB23 hHeld ?hrbB23
                                    case hibB23 =>
                                      simp only [List.getElem?_toArray, List.getElem?_cons_succ, List.getElem?_cons_zero]
                                      rfl
                                    case hqbB23 => exact fun _ _ _ h => h
                                    case hybB23 => exact Or.inl ⟨by kernel_rfl, fun w hSw => by obtain ⟨s0, s1, s2, s3, s4⟩ := hSw; go_simp⟩
                                    try simp only [Act.put, List.setIfInBounds_toArray, List.set_cons_zero, List.set_cons_succ]
                                    refine wpAnyH_take (i := 24) (oi := ?oibB24) (v := .slice (some ⟨gc, oc, none⟩) C.length cc) ?hibB24 (by kernel_rfl) (by kernel_rfl) (by kernel_rfl) ?hqbB24 ?hybB24 hHeld ?hrbB24
                                    case hibB24 =>
                                      simp only [List.getElem?_toArray, List.getElem?_cons_succ, List.getElem?_cons_zero]
                                      rfl
                                    case hqbB24 => exact fun _ _ _ h => h
                                    case hybB24 => exact Or.inl ⟨by kernel_rfl, fun w hSw => by go_simp⟩
                                    try simp only [Act.put, List.setIfInBounds_toArray, List.set_cons_zero, List.set_cons_succ]
                                    refine wpAnyH_take (i := 25) (oi := ?oibB25) (v := .int .i64 (k : Int)) ?hibB25 (by kernel_rfl) (by kernel_rfl) (by kernel_rfl) ?hqbB25 ?hybB25 hHeld ?hrbB25
                                    case hibB25 =>
                                      simp only [List.getElem?_toArray, List.getElem?_cons_succ, List.getElem?_cons_zero]
                                      rfl
                                    case hqbB25 => exact fun _ _ _ h => h
                                    case hybB25 => exact Or.inl ⟨by kernel_rfl, fun w hSw => by go_simp⟩
                                    try simp only [Act.put, List.setIfInBounds_toArray, List.set_cons_zero, List.set_cons_succ]
                                    refine wpAnyH_take (i := 26) (oi := ?oibB26) (v := .pointer (some ⟨gc, oc + k, none⟩)) ?hibB26 (by kernel_rfl) (by kernel_rfl) (by kernel_rfl) ?hqbB26 ?hybB26 hHeld ?hrbB26
                                    case hibB26 =>
                                      simp only [List.getElem?_toArray, List.getElem?_cons_succ, List.getElem?_cons_zero]
                                      rfl
                                    case hqbB26 => exact fun _ _ _ h => h
                                    case hybB26 => exact Or.inl ⟨by kernel_rfl, fun w hSw => by go_simp⟩
                                    try simp only [Act.put, List.setIfInBounds_toArray, List.set_cons_zero, List.set_cons_succ]
                                    refine wpAnyH_take (i := 27) (oi := ?oibB27) (v := .int .i64 (C[k]'hk)) ?hibB27 (by kernel_rfl) (by kernel_rfl) (by kernel_rfl) ?hqbB27 ?hybB27 hHeld ?hrbB27
                                    case hibB27 =>
                                      simp only [List.getElem?_toArray, List.getElem?_cons_succ, List.getElem?_cons_zero]
                                      rfl
                                    case hqbB27 => exact fun _ _ _ h => h
                                    case hybB27 => exact Or.inl ⟨by kernel_rfl, fun w hSw => by obtain ⟨s0, s1, s2, s3, s4⟩ := hSw; go_simp⟩
                                    try simp only [Act.put, List.setIfInBounds_toArray, List.set_cons_zero, List.set_cons_succ]
                                    refine wpAnyH_take (i := 28) (oi := ?oibB28) (v := .bool true) ?hibB28 (by kernel_rfl) (by kernel_rfl) (by kernel_rfl) ?hqbB28 ?hybB28 hHeld ?hrbB28
                                    case hibB28 =>
                                      simp only [List.getElem?_toArray, List.getElem?_cons_succ, List.getElem?_cons_zero]
                                      rfl
                                    case hqbB28 => exact fun _ _ _ h => h
                                    case hybB28 => exact Or.inl ⟨by kernel_rfl, fun w hSw => by go_simp⟩
                                    try simp only [Act.put, List.setIfInBounds_toArray, List.set_cons_zero, List.set_cons_succ]
                                    refine wpAnyH_take (i := 29) (oi := ?oibB29) (v := .bool true) ?hibB29 (by kernel_rfl) (by kernel_rfl) (by kernel_rfl) ?hqbB29 ?hybB29 hHeld ?hrbB29
                                    case hibB29 =>
                                      simp only [List.getElem?_toArray, List.getElem?_cons_succ, List.getElem?_cons_zero]
                                      rfl
                                    case hqbB29 => exact fun _ _ _ h => h
                                    case hybB29 => exact Or.inl ⟨by kernel_rfl, fun w hSw => by go_simp⟩
                                    try simp only [Act.put, List.setIfInBounds_toArray, List.set_cons_zero, List.set_cons_succ]
                                    refine wpAnyH_take (i := 30) (oi := ?oibB30) (v := .bool true) ?hibB30 (by kernel_rfl) (by kernel_rfl) (by kernel_rfl) ?hqbB30 ?hybB30 hHeld ?hrbB30
                                    case hibB30 =>
                                      simp only [List.getElem?_toArray, List.getElem?_cons_succ, List.getElem?_cons_zero]
                                      rfl
                                    case hqbB30 => exact fun _ _ _ h => h
                                    case hybB30 => exact Or.inl ⟨by kernel_rfl, fun w hSw => by go_simp⟩
                                    try simp only [Act.put, List.setIfInBounds_toArray, List.set_cons_zero, List.set_cons_succ]
                                    refine wpAnyH_take (i := 31) (oi := ?oibB31) (v := .bool true) ?hibB31 (by kernel_rfl) (by kernel_rfl) (by kernel_rfl) ?hqbB31 ?hybB31 hHeld ?hrbB31
                                    case hibB31 =>
                                      simp only [List.getElem?_toArray, List.getElem?_cons_succ, List.getElem?_cons_zero]
                                      rfl
                                    case hqbB31 => exact fun _ _ _ h => h
                                    case hybB31 => exact Or.inl ⟨by kernel_rfl, fun w hSw => by go_simp⟩
                                    try simp only [Act.put, List.setIfInBounds_toArray, List.set_cons_zero, List.set_cons_succ]
                                    refine wpAnyH_done (by kernel_rfl) ?_ _
                                    go_wp2
                                    go_roundw
                                    case rel => exact ⟨m + 1, by omega, by go_num, HF1.out, HBR.out.drew⟩
                                    case measure => simp [intOf]; omega
                                  · have hy' : (s.y == C[k]'hk) = false := by simpa using hy
                                    have HF1 : Hid (Value.bool false = .bool (called (p.take (m + 1)) (C[k]'hk))) := by
                                      show Value.bool false = _
                                      rw [HSN.out, decide_eq_true h8, decide_eq_false hy]; rfl
                                    clear HSN h8
                                    go_wp2_with fail
                                    refine wp_region_held_drew (S := fun X => X.cell? ⟨bQ, 0, none⟩ = some (.slice (some ⟨gq, oq, none⟩) qs.length qc) ∧ X.cell? ⟨gq, oq + j, none⟩ = some (.slice (some ⟨gx, ox, none⟩) p.length xc9) ∧ X.cell? ⟨gx, ox + m * 3, none⟩ = some (.int .i64 s.k) ∧ X.cell? ⟨gx, ox + m * 3 + 2, none⟩ = some (.int .i64 s.y) ∧ X.cell? ⟨gc, oc + k, none⟩ = some (.int .i64 (C[k]'hk))) (by kernel_rfl) hS9 (fun hHeld => ?_)
                                    refine wpAnyH_take (i := 0) (oi := ?oibC0) (v := .bool false) ?hibC0 (by kernel_rfl) (by kernel_rfl) (by kernel_rfl) ?hqbC0 ?hybC0 hHeld ?hrbC0
                                    case hibC0 =>
                                      simp only [List.getElem?_toArray, List.getElem?_cons_succ, List.getElem?_cons_zero]
                                      rfl
                                    case hqbC0 => exact fun _ _ _ h => h
                                    case hybC0 => exact Or.inl ⟨by kernel_rfl, fun w hSw => by go_simp⟩
                                    try simp only [Act.put, List.setIfInBounds_toArray, List.set_cons_zero, List.set_cons_succ]
                                    refine wpAnyH_take (i := 1) (oi := ?oibC1) (v := .bool false) ?hibC1 (by kernel_rfl) (by kernel_rfl) (by kernel_rfl) ?hqbC1 ?hybC1 hHeld ?hrbC1
                                    case hibC1 =>
                                      simp only [List.getElem?_toArray, List.getElem?_cons_succ, List.getElem?_cons_zero]
                                      rfl
                                    case hqbC1 => exact fun _ _ _ h => h
                                    case hybC1 => exact Or.inl ⟨by kernel_rfl, fun w hSw => by go_simp⟩
                                    try simp only [Act.put, List.setIfInBounds_toArray, List.set_cons_zero, List.set_cons_succ]
                                    refine wpAnyH_take (i := 2) (oi := ?oibC2) (v := .pointer (some ⟨bQ, 0, none⟩)) ?hibC2 (by kernel_rfl) (by kernel_rfl) (by kernel_rfl) ?hqbC2 ?hybC2 hHeld ?hrbC2
                                    case hibC2 =>
                                      simp only [List.getElem?_toArray, List.getElem?_cons_succ, List.getElem?_cons_zero]
                                      rfl
                                    case hqbC2 => exact fun _ _ _ h => h
                                    case hybC2 => exact Or.inl ⟨by kernel_rfl, fun w hSw => by go_simp⟩
                                    try simp only [Act.put, List.setIfInBounds_toArray, List.set_cons_zero, List.set_cons_succ]
                                    refine wpAnyH_take (i := 3) (oi := ?oibC3) (v := .slice (some ⟨gq, oq, none⟩) qs.length qc) ?hibC3 (by kernel_rfl) (by kernel_rfl) (by kernel_rfl) ?hqbC3 ?hybC3 hHeld ?hrbC3
                                    case hibC3 =>
                                      simp only [List.getElem?_toArray, List.getElem?_cons_succ, List.getElem?_cons_zero]
                                      rfl
                                    case hqbC3 => exact fun _ _ _ h => h
                                    case hybC3 => exact Or.inl ⟨by kernel_rfl, fun w hSw => by obtain ⟨s0, s1, s2, s3, s4⟩ := hSw; go_simp⟩
                                    try simp only [Act.put, List.setIfInBounds_toArray, List.set_cons_zero, List.set_cons_succ]
                                    refine wpAnyH_take (i := 4) (oi := ?oibC4) (v := .int .i64 (j : Int)) ?hibC4 (by kernel_rfl) (by kernel_rfl) (by kernel_rfl) ?hqbC4 ?hybC4 hHeld ?hrbC4
                                    case hibC4 =>
                                      simp only [List.getElem?_toArray, List.getElem?_cons_succ, List.getElem?_cons_zero]
                                      rfl
                                    case hqbC4 => exact fun _ _ _ h => h
                                    case hybC4 => exact Or.inl ⟨by kernel_rfl, fun w hSw => by go_simp⟩
                                    try simp only [Act.put, List.setIfInBounds_toArray, List.set_cons_zero, List.set_cons_succ]
                                    refine wpAnyH_take (i := 5) (oi := ?oibC5) (v := .pointer (some ⟨gq, oq + j, none⟩)) ?hibC5 (by kernel_rfl) (by kernel_rfl) (by kernel_rfl) ?hqbC5 ?hybC5 hHeld ?hrbC5
                                    case hibC5 =>
                                      simp only [List.getElem?_toArray, List.getElem?_cons_succ, List.getElem?_cons_zero]
                                      rfl
                                    case hqbC5 => exact fun _ _ _ h => h
                                    case hybC5 => exact Or.inl ⟨by kernel_rfl, fun w hSw => by go_simp⟩
                                    try simp only [Act.put, List.setIfInBounds_toArray, List.set_cons_zero, List.set_cons_succ]
                                    refine wpAnyH_take (i := 6) (oi := ?oibC6) (v := .pointer (some ⟨gq, oq + j, none⟩)) ?hibC6 (by kernel_rfl) (by kernel_rfl) (by kernel_rfl) ?hqbC6 ?hybC6 hHeld ?hrbC6
                                    case hibC6 =>
                                      simp only [List.getElem?_toArray, List.getElem?_cons_succ, List.getElem?_cons_zero]
                                      rfl
                                    case hqbC6 => exact fun _ _ _ h => h
                                    case hybC6 => exact Or.inl ⟨by kernel_rfl, fun w hSw => by go_simp⟩
                                    try simp only [Act.put, List.setIfInBounds_toArray, List.set_cons_zero, List.set_cons_succ]
                                    refine wpAnyH_take (i := 7) (oi := ?oibC7) (v := .slice (some ⟨gx, ox, none⟩) p.length xc9) ?hibC7 (by kernel_rfl) (by kernel_rfl) (by kernel_rfl) ?hqbC7 ?hybC7 hHeld ?hrbC7
                                    case hibC7 =>
                                      simp only [List.getElem?_toArray, List.getElem?_cons_succ, List.getElem?_cons_zero]
                                      rfl
                                    case hqbC7 => exact fun _ _ _ h => h
                                    case hybC7 => exact Or.inl ⟨by kernel_rfl, fun w hSw => by obtain ⟨s0, s1, s2, s3, s4⟩ := hSw; go_simp⟩
                                    try simp only [Act.put, List.setIfInBounds_toArray, List.set_cons_zero, List.set_cons_succ]
                                    refine wpAnyH_take (i := 8) (oi := ?oibC8) (v := .int .i64 (m : Int)) ?hibC8 (by kernel_rfl) (by kernel_rfl) (by kernel_rfl) ?hqbC8 ?hybC8 hHeld ?hrbC8
                                    case hibC8 =>
                                      simp only [List.getElem?_toArray, List.getElem?_cons_succ, List.getElem?_cons_zero]
                                      rfl
                                    case hqbC8 => exact fun _ _ _ h => h
                                    case hybC8 => exact Or.inl ⟨by kernel_rfl, fun w hSw => by go_simp⟩
                                    try simp only [Act.put, List.setIfInBounds_toArray, List.set_cons_zero, List.set_cons_succ]
                                    refine wpAnyH_take (i := 9) (oi := ?oibC9) (v := .pointer (some ⟨gx, ox + m * 3, none⟩)) ?hibC9 (by kernel_rfl) (by kernel_rfl) (by kernel_rfl) ?hqbC9 ?hybC9 hHeld ?hrbC9
                                    case hibC9 =>
                                      simp only [List.getElem?_toArray, List.getElem?_cons_succ, List.getElem?_cons_zero]
                                      rfl
                                    case hqbC9 => exact fun _ _ _ h => h
                                    case hybC9 => exact Or.inl ⟨by kernel_rfl, fun w hSw => by go_simp⟩
                                    try simp only [Act.put, List.setIfInBounds_toArray, List.set_cons_zero, List.set_cons_succ]
                                    refine wpAnyH_take (i := 10) (oi := ?oibC10) (v := .pointer (some ⟨gx, ox + m * 3, none⟩)) ?hibC10 (by kernel_rfl) (by kernel_rfl) (by kernel_rfl) ?hqbC10 ?hybC10 hHeld ?hrbC10
                                    case hibC10 =>
                                      simp only [List.getElem?_toArray, List.getElem?_cons_succ, List.getElem?_cons_zero]
                                      rfl
                                    case hqbC10 => exact fun _ _ _ h => h
                                    case hybC10 => exact Or.inl ⟨by kernel_rfl, fun w hSw => by go_simp⟩
                                    try simp only [Act.put, List.setIfInBounds_toArray, List.set_cons_zero, List.set_cons_succ]
                                    refine wpAnyH_take (i := 11) (oi := ?oibC11) (v := .int .i64 s.k) ?hibC11 (by kernel_rfl) (by kernel_rfl) (by kernel_rfl) ?hqbC11 ?hybC11 hHeld ?hrbC11
                                    case hibC11 =>
                                      simp only [List.getElem?_toArray, List.getElem?_cons_succ, List.getElem?_cons_zero]
                                      rfl
                                    case hqbC11 => exact fun _ _ _ h => h
                                    case hybC11 => exact Or.inl ⟨by kernel_rfl, fun w hSw => by obtain ⟨s0, s1, s2, s3, s4⟩ := hSw; go_simp⟩
                                    try simp only [Act.put, List.setIfInBounds_toArray, List.set_cons_zero, List.set_cons_succ]
                                    refine wpAnyH_take (i := 12) (oi := ?oibC12) (v := .bool true) ?hibC12 (by kernel_rfl) (by kernel_rfl) (by kernel_rfl) ?hqbC12 ?hybC12 hHeld ?hrbC12
                                    case hibC12 =>
                                      simp only [List.getElem?_toArray, List.getElem?_cons_succ, List.getElem?_cons_zero]
                                      rfl
                                    case hqbC12 => exact fun _ _ _ h => h
                                    case hybC12 => exact Or.inl ⟨by kernel_rfl, fun w hSw => by go_simp⟩
                                    try simp only [Act.put, List.setIfInBounds_toArray, List.set_cons_zero, List.set_cons_succ]
                                    refine wpAnyH_take (i := 13) (oi := ?oibC13) (v := .bool true) ?hibC13 (by kernel_rfl) (by kernel_rfl) (by kernel_rfl) ?hqbC13 ?hybC13 hHeld ?hrbC13
                                    case hibC13 =>
                                      simp only [List.getElem?_toArray, List.getElem?_cons_succ, List.getElem?_cons_zero]
                                      rfl
                                    case hqbC13 => exact fun _ _ _ h => h
                                    case hybC13 => exact Or.inl ⟨by kernel_rfl, fun w hSw => by go_simp⟩
                                    try simp only [Act.put, List.setIfInBounds_toArray, List.set_cons_zero, List.set_cons_succ]
                                    refine wpAnyH_take (i := 14) (oi := ?oibC14) (v := .pointer (some ⟨bQ, 0, none⟩)) ?hibC14 (by kernel_rfl) (by kernel_rfl) (by kernel_rfl) ?hqbC14 ?hybC14 hHeld ?hrbC14
                                    case hibC14 =>
                                      simp only [List.getElem?_toArray, List.getElem?_cons_succ, List.getElem?_cons_zero]
                                      rfl
                                    case hqbC14 => exact fun _ _ _ h => h
                                    case hybC14 => exact Or.inl ⟨by kernel_rfl, fun w hSw => by go_simp⟩
                                    try simp only [Act.put, List.setIfInBounds_toArray, List.set_cons_zero, List.set_cons_succ]
                                    refine wpAnyH_take (i := 15) (oi := ?oibC15) (v := .slice (some ⟨gq, oq, none⟩) qs.length qc) ?hibC15 (by kernel_rfl) (by kernel_rfl) (by kernel_rfl) ?hqbC15 ?hybC15 hHeld ?hrbC15
                                    case hibC15 =>
                                      simp only [List.getElem?_toArray, List.getElem?_cons_succ, List.getElem?_cons_zero]
                                      rfl
                                    case hqbC15 => exact fun _ _ _ h => h
                                    case hybC15 => exact Or.inl ⟨by kernel_rfl, fun w hSw => by obtain ⟨s0, s1, s2, s3, s4⟩ := hSw; go_simp⟩
                                    try simp only [Act.put, List.setIfInBounds_toArray, List.set_cons_zero, List.set_cons_succ]
                                    refine wpAnyH_take (i := 16) (oi := ?oibC16) (v := .int .i64 (j : Int)) ?hibC16 (by kernel_rfl) (by kernel_rfl) (by kernel_rfl) ?hqbC16 ?hybC16 hHeld ?hrbC16
                                    case hibC16 =>
                                      simp only [List.getElem?_toArray, List.getElem?_cons_succ, List.getElem?_cons_zero]
                                      rfl
                                    case hqbC16 => exact fun _ _ _ h => h
                                    case hybC16 => exact Or.inl ⟨by kernel_rfl, fun w hSw => by go_simp⟩
                                    try simp only [Act.put, List.setIfInBounds_toArray, List.set_cons_zero, List.set_cons_succ]
                                    refine wpAnyH_take (i := 17) (oi := ?oibC17) (v := .pointer (some ⟨gq, oq + j, none⟩)) ?hibC17 (by kernel_rfl) (by kernel_rfl) (by kernel_rfl) ?hqbC17 ?hybC17 hHeld ?hrbC17
                                    case hibC17 =>
                                      simp only [List.getElem?_toArray, List.getElem?_cons_succ, List.getElem?_cons_zero]
                                      rfl
                                    case hqbC17 => exact fun _ _ _ h => h
                                    case hybC17 => exact Or.inl ⟨by kernel_rfl, fun w hSw => by go_simp⟩
                                    try simp only [Act.put, List.setIfInBounds_toArray, List.set_cons_zero, List.set_cons_succ]
                                    refine wpAnyH_take (i := 18) (oi := ?oibC18) (v := .pointer (some ⟨gq, oq + j, none⟩)) ?hibC18 (by kernel_rfl) (by kernel_rfl) (by kernel_rfl) ?hqbC18 ?hybC18 hHeld ?hrbC18
                                    case hibC18 =>
                                      simp only [List.getElem?_toArray, List.getElem?_cons_succ, List.getElem?_cons_zero]
                                      rfl
                                    case hqbC18 => exact fun _ _ _ h => h
                                    case hybC18 => exact Or.inl ⟨by kernel_rfl, fun w hSw => by go_simp⟩
                                    try simp only [Act.put, List.setIfInBounds_toArray, List.set_cons_zero, List.set_cons_succ]
                                    refine wpAnyH_take (i := 19) (oi := ?oibC19) (v := .slice (some ⟨gx, ox, none⟩) p.length xc9) ?hibC19 (by kernel_rfl) (by kernel_rfl) (by kernel_rfl) ?hqbC19 ?hybC19 hHeld ?hrbC19
                                    case hibC19 =>
                                      simp only [List.getElem?_toArray, List.getElem?_cons_succ, List.getElem?_cons_zero]
                                      rfl
                                    case hqbC19 => exact fun _ _ _ h => h
                                    case hybC19 => exact Or.inl ⟨by kernel_rfl, fun w hSw => by obtain ⟨s0, s1, s2, s3, s4⟩ := hSw; go_simp⟩
                                    try simp only [Act.put, List.setIfInBounds_toArray, List.set_cons_zero, List.set_cons_succ]
                                    refine wpAnyH_take (i := 20) (oi := ?oibC20) (v := .int .i64 (m : Int)) ?hibC20 (by kernel_rfl) (by kernel_rfl) (by kernel_rfl) ?hqbC20 ?hybC20 hHeld ?hrbC20
                                    case hibC20 =>
                                      simp only [List.getElem?_toArray, List.getElem?_cons_succ, List.getElem?_cons_zero]
                                      rfl
                                    case hqbC20 => exact fun _ _ _ h => h
                                    case hybC20 => exact Or.inl ⟨by kernel_rfl, fun w hSw => by go_simp⟩
                                    try simp only [Act.put, List.setIfInBounds_toArray, List.set_cons_zero, List.set_cons_succ]
                                    refine wpAnyH_take (i := 21) (oi := ?oibC21) (v := .pointer (some ⟨gx, ox + m * 3, none⟩)) ?hibC21 (by kernel_rfl) (by kernel_rfl) (by kernel_rfl) ?hqbC21 ?hybC21 hHeld ?hrbC21
                                    case hibC21 =>
                                      simp only [List.getElem?_toArray, List.getElem?_cons_succ, List.getElem?_cons_zero]
                                      rfl
                                    case hqbC21 => exact fun _ _ _ h => h
                                    case hybC21 => exact Or.inl ⟨by kernel_rfl, fun w hSw => by go_simp⟩
                                    try simp only [Act.put, List.setIfInBounds_toArray, List.set_cons_zero, List.set_cons_succ]
                                    refine wpAnyH_take (i := 22) (oi := ?oibC22) (v := .pointer (some ⟨gx, ox + m * 3 + 2, none⟩)) ?hibC22 (by kernel_rfl) (by kernel_rfl) (by kernel_rfl) ?hqbC22 ?hybC22 hHeld ?hrbC22
                                    case hibC22 =>
                                      simp only [List.getElem?_toArray, List.getElem?_cons_succ, List.getElem?_cons_zero]
                                      rfl
                                    case hqbC22 => exact fun _ _ _ h => h
                                    case hybC22 => exact Or.inl ⟨by kernel_rfl, fun w hSw => by go_simp⟩
                                    try simp only [Act.put, List.setIfInBounds_toArray, List.set_cons_zero, List.set_cons_succ]
                                    refine wpAnyH_take (i := 23) (oi := ?oibC23) (v := .int .i64 s.y) ?hibC23 (by kernel_rfl) (by kernel_rfl) (by kernel_rfl) ?hqbC23 ?hybC23 hHeld ?hrbC23
                                    case hibC23 =>
                                      simp only [List.getElem?_toArray, List.getElem?_cons_succ, List.getElem?_cons_zero]
                                      rfl
                                    case hqbC23 => exact fun _ _ _ h => h
                                    case hybC23 => exact Or.inl ⟨by kernel_rfl, fun w hSw => by obtain ⟨s0, s1, s2, s3, s4⟩ := hSw; go_simp⟩
                                    try simp only [Act.put, List.setIfInBounds_toArray, List.set_cons_zero, List.set_cons_succ]
                                    refine wpAnyH_take (i := 24) (oi := ?oibC24) (v := .slice (some ⟨gc, oc, none⟩) C.length cc) ?hibC24 (by kernel_rfl) (by kernel_rfl) (by kernel_rfl) ?hqbC24 ?hybC24 hHeld ?hrbC24
                                    case hibC24 =>
                                      simp only [List.getElem?_toArray, List.getElem?_cons_succ, List.getElem?_cons_zero]
                                      rfl
                                    case hqbC24 => exact fun _ _ _ h => h
                                    case hybC24 => exact Or.inl ⟨by kernel_rfl, fun w hSw => by go_simp⟩
                                    try simp only [Act.put, List.setIfInBounds_toArray, List.set_cons_zero, List.set_cons_succ]
                                    refine wpAnyH_take (i := 25) (oi := ?oibC25) (v := .int .i64 (k : Int)) ?hibC25 (by kernel_rfl) (by kernel_rfl) (by kernel_rfl) ?hqbC25 ?hybC25 hHeld ?hrbC25
                                    case hibC25 =>
                                      simp only [List.getElem?_toArray, List.getElem?_cons_succ, List.getElem?_cons_zero]
                                      rfl
                                    case hqbC25 => exact fun _ _ _ h => h
                                    case hybC25 => exact Or.inl ⟨by kernel_rfl, fun w hSw => by go_simp⟩
                                    try simp only [Act.put, List.setIfInBounds_toArray, List.set_cons_zero, List.set_cons_succ]
                                    refine wpAnyH_take (i := 26) (oi := ?oibC26) (v := .pointer (some ⟨gc, oc + k, none⟩)) ?hibC26 (by kernel_rfl) (by kernel_rfl) (by kernel_rfl) ?hqbC26 ?hybC26 hHeld ?hrbC26
                                    case hibC26 =>
                                      simp only [List.getElem?_toArray, List.getElem?_cons_succ, List.getElem?_cons_zero]
                                      rfl
                                    case hqbC26 => exact fun _ _ _ h => h
                                    case hybC26 => exact Or.inl ⟨by kernel_rfl, fun w hSw => by go_simp⟩
                                    try simp only [Act.put, List.setIfInBounds_toArray, List.set_cons_zero, List.set_cons_succ]
                                    refine wpAnyH_take (i := 27) (oi := ?oibC27) (v := .int .i64 (C[k]'hk)) ?hibC27 (by kernel_rfl) (by kernel_rfl) (by kernel_rfl) ?hqbC27 ?hybC27 hHeld ?hrbC27
                                    case hibC27 =>
                                      simp only [List.getElem?_toArray, List.getElem?_cons_succ, List.getElem?_cons_zero]
                                      rfl
                                    case hqbC27 => exact fun _ _ _ h => h
                                    case hybC27 => exact Or.inl ⟨by kernel_rfl, fun w hSw => by obtain ⟨s0, s1, s2, s3, s4⟩ := hSw; go_simp⟩
                                    try simp only [Act.put, List.setIfInBounds_toArray, List.set_cons_zero, List.set_cons_succ]
                                    refine wpAnyH_take (i := 28) (oi := ?oibC28) (v := .bool false) ?hibC28 (by kernel_rfl) (by kernel_rfl) (by kernel_rfl) ?hqbC28 ?hybC28 hHeld ?hrbC28
                                    case hibC28 =>
                                      simp only [List.getElem?_toArray, List.getElem?_cons_succ, List.getElem?_cons_zero]
                                      rfl
                                    case hqbC28 => exact fun _ _ _ h => h
                                    case hybC28 => exact Or.inl ⟨by kernel_rfl, fun w hSw => by go_simp⟩
                                    try simp only [Act.put, List.setIfInBounds_toArray, List.set_cons_zero, List.set_cons_succ]
                                    refine wpAnyH_take (i := 29) (oi := ?oibC29) (v := .bool false) ?hibC29 (by kernel_rfl) (by kernel_rfl) (by kernel_rfl) ?hqbC29 ?hybC29 hHeld ?hrbC29
                                    case hibC29 =>
                                      simp only [List.getElem?_toArray, List.getElem?_cons_succ, List.getElem?_cons_zero]
                                      rfl
                                    case hqbC29 => exact fun _ _ _ h => h
                                    case hybC29 => exact Or.inl ⟨by kernel_rfl, fun w hSw => by go_simp⟩
                                    try simp only [Act.put, List.setIfInBounds_toArray, List.set_cons_zero, List.set_cons_succ]
                                    refine wpAnyH_take (i := 30) (oi := ?oibC30) (v := .bool false) ?hibC30 (by kernel_rfl) (by kernel_rfl) (by kernel_rfl) ?hqbC30 ?hybC30 hHeld ?hrbC30
                                    case hibC30 =>
                                      simp only [List.getElem?_toArray, List.getElem?_cons_succ, List.getElem?_cons_zero]
                                      rfl
                                    case hqbC30 => exact fun _ _ _ h => h
                                    case hybC30 => exact Or.inl ⟨by kernel_rfl, fun w hSw => by go_simp⟩
                                    try simp only [Act.put, List.setIfInBounds_toArray, List.set_cons_zero, List.set_cons_succ]
                                    refine wpAnyH_take (i := 31) (oi := ?oibC31) (v := .bool false) ?hibC31 (by kernel_rfl) (by kernel_rfl) (by kernel_rfl) ?hqbC31 ?hybC31 hHeld ?hrbC31
                                    case hibC31 =>
                                      simp only [List.getElem?_toArray, List.getElem?_cons_succ, List.getElem?_cons_zero]
                                      rfl
                                    case hqbC31 => exact fun _ _ _ h => h
                                    case hybC31 => exact Or.inl ⟨by kernel_rfl, fun w hSw => by go_simp⟩
                                    try simp only [Act.put, List.setIfInBounds_toArray, List.set_cons_zero, List.set_cons_succ]
                                    refine wpAnyH_done (by kernel_rfl) ?_ _
                                    go_wp2
                                    go_roundw
                                    case rel => exact ⟨m + 1, by omega, by go_num, HF1.out, HBR.out.drew⟩
                                    case measure => simp [intOf]; omega
                                · have h8' : (s.k == 8) = false := by simpa using h8
                                  have HF1 : Hid (Value.bool false = .bool (called (p.take (m + 1)) (C[k]'hk))) := by
                                    show Value.bool false = _
                                    rw [HSN.out, decide_eq_false h8]; rfl
                                  clear HSN
                                  go_wp2_with fail
                                  refine wp_region_held_drew (S := fun X => X.cell? ⟨bQ, 0, none⟩ = some (.slice (some ⟨gq, oq, none⟩) qs.length qc) ∧ X.cell? ⟨gq, oq + j, none⟩ = some (.slice (some ⟨gx, ox, none⟩) p.length xc9) ∧ X.cell? ⟨gx, ox + m * 3, none⟩ = some (.int .i64 s.k) ∧ X.cell? ⟨gx, ox + m * 3 + 2, none⟩ = some (.int .i64 s.y) ∧ X.cell? ⟨gc, oc + k, none⟩ = some (.int .i64 (C[k]'hk))) (by kernel_rfl) hS9 (fun hHeld => ?_)
                                  refine wpAnyH_take (i := 0) (oi := ?oibD0) (v := .bool false) ?hibD0 (by kernel_rfl) (by kernel_rfl) (by kernel_rfl) ?hqbD0 ?hybD0 hHeld ?hrbD0
                                  case hibD0 =>
                                    simp only [List.getElem?_toArray, List.getElem?_cons_succ, List.getElem?_cons_zero]
                                    rfl
                                  case hqbD0 => exact fun _ _ _ h => h
                                  case hybD0 => exact Or.inl ⟨by kernel_rfl, fun w hSw => by go_simp⟩
                                  try simp only [Act.put, List.setIfInBounds_toArray, List.set_cons_zero, List.set_cons_succ]
                                  refine wpAnyH_take (i := 1) (oi := ?oibD1) (v := .bool false) ?hibD1 (by kernel_rfl) (by kernel_rfl) (by kernel_rfl) ?hqbD1 ?hybD1 hHeld ?hrbD1
                                  case hibD1 =>
                                    simp only [List.getElem?_toArray, List.getElem?_cons_succ, List.getElem?_cons_zero]
                                    rfl
                                  case hqbD1 => exact fun _ _ _ h => h
                                  case hybD1 => exact Or.inl ⟨by kernel_rfl, fun w hSw => by go_simp⟩
                                  try simp only [Act.put, List.setIfInBounds_toArray, List.set_cons_zero, List.set_cons_succ]
                                  refine wpAnyH_take (i := 2) (oi := ?oibD2) (v := .pointer (some ⟨bQ, 0, none⟩)) ?hibD2 (by kernel_rfl) (by kernel_rfl) (by kernel_rfl) ?hqbD2 ?hybD2 hHeld ?hrbD2
                                  case hibD2 =>
                                    simp only [List.getElem?_toArray, List.getElem?_cons_succ, List.getElem?_cons_zero]
                                    rfl
                                  case hqbD2 => exact fun _ _ _ h => h
                                  case hybD2 => exact Or.inl ⟨by kernel_rfl, fun w hSw => by go_simp⟩
                                  try simp only [Act.put, List.setIfInBounds_toArray, List.set_cons_zero, List.set_cons_succ]
                                  refine wpAnyH_take (i := 3) (oi := ?oibD3) (v := .slice (some ⟨gq, oq, none⟩) qs.length qc) ?hibD3 (by kernel_rfl) (by kernel_rfl) (by kernel_rfl) ?hqbD3 ?hybD3 hHeld ?hrbD3
                                  case hibD3 =>
                                    simp only [List.getElem?_toArray, List.getElem?_cons_succ, List.getElem?_cons_zero]
                                    rfl
                                  case hqbD3 => exact fun _ _ _ h => h
                                  case hybD3 => exact Or.inl ⟨by kernel_rfl, fun w hSw => by obtain ⟨s0, s1, s2, s3, s4⟩ := hSw; go_simp⟩
                                  try simp only [Act.put, List.setIfInBounds_toArray, List.set_cons_zero, List.set_cons_succ]
                                  refine wpAnyH_take (i := 4) (oi := ?oibD4) (v := .int .i64 (j : Int)) ?hibD4 (by kernel_rfl) (by kernel_rfl) (by kernel_rfl) ?hqbD4 ?hybD4 hHeld ?hrbD4
                                  case hibD4 =>
                                    simp only [List.getElem?_toArray, List.getElem?_cons_succ, List.getElem?_cons_zero]
                                    rfl
                                  case hqbD4 => exact fun _ _ _ h => h
                                  case hybD4 => exact Or.inl ⟨by kernel_rfl, fun w hSw => by go_simp⟩
                                  try simp only [Act.put, List.setIfInBounds_toArray, List.set_cons_zero, List.set_cons_succ]
                                  refine wpAnyH_take (i := 5) (oi := ?oibD5) (v := .pointer (some ⟨gq, oq + j, none⟩)) ?hibD5 (by kernel_rfl) (by kernel_rfl) (by kernel_rfl) ?hqbD5 ?hybD5 hHeld ?hrbD5
                                  case hibD5 =>
                                    simp only [List.getElem?_toArray, List.getElem?_cons_succ, List.getElem?_cons_zero]
                                    rfl
                                  case hqbD5 => exact fun _ _ _ h => h
                                  case hybD5 => exact Or.inl ⟨by kernel_rfl, fun w hSw => by go_simp⟩
                                  try simp only [Act.put, List.setIfInBounds_toArray, List.set_cons_zero, List.set_cons_succ]
                                  refine wpAnyH_take (i := 6) (oi := ?oibD6) (v := .pointer (some ⟨gq, oq + j, none⟩)) ?hibD6 (by kernel_rfl) (by kernel_rfl) (by kernel_rfl) ?hqbD6 ?hybD6 hHeld ?hrbD6
                                  case hibD6 =>
                                    simp only [List.getElem?_toArray, List.getElem?_cons_succ, List.getElem?_cons_zero]
                                    rfl
                                  case hqbD6 => exact fun _ _ _ h => h
                                  case hybD6 => exact Or.inl ⟨by kernel_rfl, fun w hSw => by go_simp⟩
                                  try simp only [Act.put, List.setIfInBounds_toArray, List.set_cons_zero, List.set_cons_succ]
                                  refine wpAnyH_take (i := 7) (oi := ?oibD7) (v := .slice (some ⟨gx, ox, none⟩) p.length xc9) ?hibD7 (by kernel_rfl) (by kernel_rfl) (by kernel_rfl) ?hqbD7 ?hybD7 hHeld ?hrbD7
                                  case hibD7 =>
                                    simp only [List.getElem?_toArray, List.getElem?_cons_succ, List.getElem?_cons_zero]
                                    rfl
                                  case hqbD7 => exact fun _ _ _ h => h
                                  case hybD7 => exact Or.inl ⟨by kernel_rfl, fun w hSw => by obtain ⟨s0, s1, s2, s3, s4⟩ := hSw; go_simp⟩
                                  try simp only [Act.put, List.setIfInBounds_toArray, List.set_cons_zero, List.set_cons_succ]
                                  refine wpAnyH_take (i := 8) (oi := ?oibD8) (v := .int .i64 (m : Int)) ?hibD8 (by kernel_rfl) (by kernel_rfl) (by kernel_rfl) ?hqbD8 ?hybD8 hHeld ?hrbD8
                                  case hibD8 =>
                                    simp only [List.getElem?_toArray, List.getElem?_cons_succ, List.getElem?_cons_zero]
                                    rfl
                                  case hqbD8 => exact fun _ _ _ h => h
                                  case hybD8 => exact Or.inl ⟨by kernel_rfl, fun w hSw => by go_simp⟩
                                  try simp only [Act.put, List.setIfInBounds_toArray, List.set_cons_zero, List.set_cons_succ]
                                  refine wpAnyH_take (i := 9) (oi := ?oibD9) (v := .pointer (some ⟨gx, ox + m * 3, none⟩)) ?hibD9 (by kernel_rfl) (by kernel_rfl) (by kernel_rfl) ?hqbD9 ?hybD9 hHeld ?hrbD9
                                  case hibD9 =>
                                    simp only [List.getElem?_toArray, List.getElem?_cons_succ, List.getElem?_cons_zero]
                                    rfl
                                  case hqbD9 => exact fun _ _ _ h => h
                                  case hybD9 => exact Or.inl ⟨by kernel_rfl, fun w hSw => by go_simp⟩
                                  try simp only [Act.put, List.setIfInBounds_toArray, List.set_cons_zero, List.set_cons_succ]
                                  refine wpAnyH_take (i := 10) (oi := ?oibD10) (v := .pointer (some ⟨gx, ox + m * 3, none⟩)) ?hibD10 (by kernel_rfl) (by kernel_rfl) (by kernel_rfl) ?hqbD10 ?hybD10 hHeld ?hrbD10
                                  case hibD10 =>
                                    simp only [List.getElem?_toArray, List.getElem?_cons_succ, List.getElem?_cons_zero]
                                    rfl
                                  case hqbD10 => exact fun _ _ _ h => h
                                  case hybD10 => exact Or.inl ⟨by kernel_rfl, fun w hSw => by go_simp⟩
                                  try simp only [Act.put, List.setIfInBounds_toArray, List.set_cons_zero, List.set_cons_succ]
                                  refine wpAnyH_take (i := 11) (oi := ?oibD11) (v := .int .i64 s.k) ?hibD11 (by kernel_rfl) (by kernel_rfl) (by kernel_rfl) ?hqbD11 ?hybD11 hHeld ?hrbD11
                                  case hibD11 =>
                                    simp only [List.getElem?_toArray, List.getElem?_cons_succ, List.getElem?_cons_zero]
                                    rfl
                                  case hqbD11 => exact fun _ _ _ h => h
                                  case hybD11 => exact Or.inl ⟨by kernel_rfl, fun w hSw => by obtain ⟨s0, s1, s2, s3, s4⟩ := hSw; go_simp⟩
                                  try simp only [Act.put, List.setIfInBounds_toArray, List.set_cons_zero, List.set_cons_succ]
                                  refine wpAnyH_take (i := 12) (oi := ?oibD12) (v := .bool false) ?hibD12 (by kernel_rfl) (by kernel_rfl) (by kernel_rfl) ?hqbD12 ?hybD12 hHeld ?hrbD12
                                  case hibD12 =>
                                    simp only [List.getElem?_toArray, List.getElem?_cons_succ, List.getElem?_cons_zero]
                                    rfl
                                  case hqbD12 => exact fun _ _ _ h => h
                                  case hybD12 => exact Or.inl ⟨by kernel_rfl, fun w hSw => by go_simp⟩
                                  try simp only [Act.put, List.setIfInBounds_toArray, List.set_cons_zero, List.set_cons_succ]
                                  refine wpAnyH_take (i := 13) (oi := ?oibD13) (v := .bool false) ?hibD13 (by kernel_rfl) (by kernel_rfl) (by kernel_rfl) ?hqbD13 ?hybD13 hHeld ?hrbD13
                                  case hibD13 =>
                                    simp only [List.getElem?_toArray, List.getElem?_cons_succ, List.getElem?_cons_zero]
                                    rfl
                                  case hqbD13 => exact fun _ _ _ h => h
                                  case hybD13 => exact Or.inl ⟨by kernel_rfl, fun w hSw => by go_simp⟩
                                  try simp only [Act.put, List.setIfInBounds_toArray, List.set_cons_zero, List.set_cons_succ]
                                  refine wpAnyH_take (i := 14) (oi := ?oibD14) (v := undef) ?hibD14 (by kernel_rfl) (by kernel_rfl) (by kernel_rfl) ?hqbD14 ?hybD14 hHeld ?hrbD14
                                  case hibD14 =>
                                    simp only [List.getElem?_toArray, List.getElem?_cons_succ, List.getElem?_cons_zero]
                                    rfl
                                  case hqbD14 => exact fun _ _ _ h => h
                                  case hybD14 => exact Or.inr ⟨by kernel_rfl, rfl⟩
                                  try simp only [Act.put, List.setIfInBounds_toArray, List.set_cons_zero, List.set_cons_succ]
                                  refine wpAnyH_take (i := 15) (oi := ?oibD15) (v := undef) ?hibD15 (by kernel_rfl) (by kernel_rfl) (by kernel_rfl) ?hqbD15 ?hybD15 hHeld ?hrbD15
                                  case hibD15 =>
                                    simp only [List.getElem?_toArray, List.getElem?_cons_succ, List.getElem?_cons_zero]
                                    rfl
                                  case hqbD15 => exact fun _ _ _ h => h
                                  case hybD15 => exact Or.inr ⟨by kernel_rfl, rfl⟩
                                  try simp only [Act.put, List.setIfInBounds_toArray, List.set_cons_zero, List.set_cons_succ]
                                  refine wpAnyH_take (i := 16) (oi := ?oibD16) (v := undef) ?hibD16 (by kernel_rfl) (by kernel_rfl) (by kernel_rfl) ?hqbD16 ?hybD16 hHeld ?hrbD16
                                  case hibD16 =>
                                    simp only [List.getElem?_toArray, List.getElem?_cons_succ, List.getElem?_cons_zero]
                                    rfl
                                  case hqbD16 => exact fun _ _ _ h => h
                                  case hybD16 => exact Or.inr ⟨by kernel_rfl, rfl⟩
                                  try simp only [Act.put, List.setIfInBounds_toArray, List.set_cons_zero, List.set_cons_succ]
                                  refine wpAnyH_take (i := 17) (oi := ?oibD17) (v := undef) ?hibD17 (by kernel_rfl) (by kernel_rfl) (by kernel_rfl) ?hqbD17 ?hybD17 hHeld ?hrbD17
                                  case hibD17 =>
                                    simp only [List.getElem?_toArray, List.getElem?_cons_succ, List.getElem?_cons_zero]
                                    rfl
                                  case hqbD17 => exact fun _ _ _ h => h
                                  case hybD17 => exact Or.inr ⟨by kernel_rfl, rfl⟩
                                  try simp only [Act.put, List.setIfInBounds_toArray, List.set_cons_zero, List.set_cons_succ]
                                  refine wpAnyH_take (i := 18) (oi := ?oibD18) (v := undef) ?hibD18 (by kernel_rfl) (by kernel_rfl) (by kernel_rfl) ?hqbD18 ?hybD18 hHeld ?hrbD18
                                  case hibD18 =>
                                    simp only [List.getElem?_toArray, List.getElem?_cons_succ, List.getElem?_cons_zero]
                                    rfl
                                  case hqbD18 => exact fun _ _ _ h => h
                                  case hybD18 => exact Or.inr ⟨by kernel_rfl, rfl⟩
                                  try simp only [Act.put, List.setIfInBounds_toArray, List.set_cons_zero, List.set_cons_succ]
                                  refine wpAnyH_take (i := 19) (oi := ?oibD19) (v := undef) ?hibD19 (by kernel_rfl) (by kernel_rfl) (by kernel_rfl) ?hqbD19 ?hybD19 hHeld ?hrbD19
                                  case hibD19 =>
                                    simp only [List.getElem?_toArray, List.getElem?_cons_succ, List.getElem?_cons_zero]
                                    rfl
                                  case hqbD19 => exact fun _ _ _ h => h
                                  case hybD19 => exact Or.inr ⟨by kernel_rfl, rfl⟩
                                  try simp only [Act.put, List.setIfInBounds_toArray, List.set_cons_zero, List.set_cons_succ]
                                  refine wpAnyH_take (i := 20) (oi := ?oibD20) (v := undef) ?hibD20 (by kernel_rfl) (by kernel_rfl) (by kernel_rfl) ?hqbD20 ?hybD20 hHeld ?hrbD20
                                  case hibD20 =>
                                    simp only [List.getElem?_toArray, List.getElem?_cons_succ, List.getElem?_cons_zero]
                                    rfl
                                  case hqbD20 => exact fun _ _ _ h => h
                                  case hybD20 => exact Or.inr ⟨by kernel_rfl, rfl⟩
                                  try simp only [Act.put, List.setIfInBounds_toArray, List.set_cons_zero, List.set_cons_succ]
                                  refine wpAnyH_take (i := 21) (oi := ?oibD21) (v := undef) ?hibD21 (by kernel_rfl) (by kernel_rfl) (by kernel_rfl) ?hqbD21 ?hybD21 hHeld ?hrbD21
                                  case hibD21 =>
                                    simp only [List.getElem?_toArray, List.getElem?_cons_succ, List.getElem?_cons_zero]
                                    rfl
                                  case hqbD21 => exact fun _ _ _ h => h
                                  case hybD21 => exact Or.inr ⟨by kernel_rfl, rfl⟩
                                  try simp only [Act.put, List.setIfInBounds_toArray, List.set_cons_zero, List.set_cons_succ]
                                  refine wpAnyH_take (i := 22) (oi := ?oibD22) (v := undef) ?hibD22 (by kernel_rfl) (by kernel_rfl) (by kernel_rfl) ?hqbD22 ?hybD22 hHeld ?hrbD22
                                  case hibD22 =>
                                    simp only [List.getElem?_toArray, List.getElem?_cons_succ, List.getElem?_cons_zero]
                                    rfl
                                  case hqbD22 => exact fun _ _ _ h => h
                                  case hybD22 => exact Or.inr ⟨by kernel_rfl, rfl⟩
                                  try simp only [Act.put, List.setIfInBounds_toArray, List.set_cons_zero, List.set_cons_succ]
                                  refine wpAnyH_take (i := 23) (oi := ?oibD23) (v := undef) ?hibD23 (by kernel_rfl) (by kernel_rfl) (by kernel_rfl) ?hqbD23 ?hybD23 hHeld ?hrbD23
                                  case hibD23 =>
                                    simp only [List.getElem?_toArray, List.getElem?_cons_succ, List.getElem?_cons_zero]
                                    rfl
                                  case hqbD23 => exact fun _ _ _ h => h
                                  case hybD23 => exact Or.inr ⟨by kernel_rfl, rfl⟩
                                  try simp only [Act.put, List.setIfInBounds_toArray, List.set_cons_zero, List.set_cons_succ]
                                  refine wpAnyH_take (i := 24) (oi := ?oibD24) (v := undef) ?hibD24 (by kernel_rfl) (by kernel_rfl) (by kernel_rfl) ?hqbD24 ?hybD24 hHeld ?hrbD24
                                  case hibD24 =>
                                    simp only [List.getElem?_toArray, List.getElem?_cons_succ, List.getElem?_cons_zero]
                                    rfl
                                  case hqbD24 => exact fun _ _ _ h => h
                                  case hybD24 => exact Or.inr ⟨by kernel_rfl, rfl⟩
                                  try simp only [Act.put, List.setIfInBounds_toArray, List.set_cons_zero, List.set_cons_succ]
                                  refine wpAnyH_take (i := 25) (oi := ?oibD25) (v := undef) ?hibD25 (by kernel_rfl) (by kernel_rfl) (by kernel_rfl) ?hqbD25 ?hybD25 hHeld ?hrbD25
                                  case hibD25 =>
                                    simp only [List.getElem?_toArray, List.getElem?_cons_succ, List.getElem?_cons_zero]
                                    rfl
                                  case hqbD25 => exact fun _ _ _ h => h
                                  case hybD25 => exact Or.inr ⟨by kernel_rfl, rfl⟩
                                  try simp only [Act.put, List.setIfInBounds_toArray, List.set_cons_zero, List.set_cons_succ]
                                  refine wpAnyH_take (i := 26) (oi := ?oibD26) (v := undef) ?hibD26 (by kernel_rfl) (by kernel_rfl) (by kernel_rfl) ?hqbD26 ?hybD26 hHeld ?hrbD26
                                  case hibD26 =>
                                    simp only [List.getElem?_toArray, List.getElem?_cons_succ, List.getElem?_cons_zero]
                                    rfl
                                  case hqbD26 => exact fun _ _ _ h => h
                                  case hybD26 => exact Or.inr ⟨by kernel_rfl, rfl⟩
                                  try simp only [Act.put, List.setIfInBounds_toArray, List.set_cons_zero, List.set_cons_succ]
                                  refine wpAnyH_take (i := 27) (oi := ?oibD27) (v := undef) ?hibD27 (by kernel_rfl) (by kernel_rfl) (by kernel_rfl) ?hqbD27 ?hybD27 hHeld ?hrbD27
                                  case hibD27 =>
                                    simp only [List.getElem?_toArray, List.getElem?_cons_succ, List.getElem?_cons_zero]
                                    rfl
                                  case hqbD27 => exact fun _ _ _ h => h
                                  case hybD27 => exact Or.inr ⟨by kernel_rfl, rfl⟩
                                  try simp only [Act.put, List.setIfInBounds_toArray, List.set_cons_zero, List.set_cons_succ]
                                  refine wpAnyH_take (i := 28) (oi := ?oibD28) (v := undef) ?hibD28 (by kernel_rfl) (by kernel_rfl) (by kernel_rfl) ?hqbD28 ?hybD28 hHeld ?hrbD28
                                  case hibD28 =>
                                    simp only [List.getElem?_toArray, List.getElem?_cons_succ, List.getElem?_cons_zero]
                                    rfl
                                  case hqbD28 => exact fun _ _ _ h => h
                                  case hybD28 => exact Or.inr ⟨by kernel_rfl, rfl⟩
                                  try simp only [Act.put, List.setIfInBounds_toArray, List.set_cons_zero, List.set_cons_succ]
                                  refine wpAnyH_take (i := 29) (oi := ?oibD29) (v := .bool false) ?hibD29 (by kernel_rfl) (by kernel_rfl) (by kernel_rfl) ?hqbD29 ?hybD29 hHeld ?hrbD29
                                  case hibD29 =>
                                    simp only [List.getElem?_toArray, List.getElem?_cons_succ, List.getElem?_cons_zero]
                                    rfl
                                  case hqbD29 => exact fun _ _ _ h => h
                                  case hybD29 => exact Or.inl ⟨by kernel_rfl, fun w hSw => by go_simp⟩
                                  try simp only [Act.put, List.setIfInBounds_toArray, List.set_cons_zero, List.set_cons_succ]
                                  refine wpAnyH_take (i := 30) (oi := ?oibD30) (v := .bool false) ?hibD30 (by kernel_rfl) (by kernel_rfl) (by kernel_rfl) ?hqbD30 ?hybD30 hHeld ?hrbD30
                                  case hibD30 =>
                                    simp only [List.getElem?_toArray, List.getElem?_cons_succ, List.getElem?_cons_zero]
                                    rfl
                                  case hqbD30 => exact fun _ _ _ h => h
                                  case hybD30 => exact Or.inl ⟨by kernel_rfl, fun w hSw => by go_simp⟩
                                  try simp only [Act.put, List.setIfInBounds_toArray, List.set_cons_zero, List.set_cons_succ]
                                  refine wpAnyH_take (i := 31) (oi := ?oibD31) (v := .bool false) ?hibD31 (by kernel_rfl) (by kernel_rfl) (by kernel_rfl) ?hqbD31 ?hybD31 hHeld ?hrbD31
                                  case hibD31 =>
                                    simp only [List.getElem?_toArray, List.getElem?_cons_succ, List.getElem?_cons_zero]
                                    rfl
                                  case hqbD31 => exact fun _ _ _ h => h
                                  case hybD31 => exact Or.inl ⟨by kernel_rfl, fun w hSw => by go_simp⟩
                                  try simp only [Act.put, List.setIfInBounds_toArray, List.set_cons_zero, List.set_cons_succ]
                                  refine wpAnyH_done (by kernel_rfl) ?_ _
                                  go_wp2
                                  go_roundw
                                  case rel => exact ⟨m + 1, by omega, by go_num, HF1.out, HBR.out.drew⟩
                                  case measure => simp [intOf]; omega
                            · obtain rfl : m = p.length := by omega
                              have hnm : ¬ (p.length : Int) < (p.length : Int) := by omega
                              rw [List.take_length, HCL.out]
                              obtain ⟨hx0, hxq⟩ := HXB.out
                              have hx0' : ¬ C[k]'hk < 0 := by omega
                              have hxq' : ¬ (qs.length : Int) ≤ C[k]'hk := by omega
                              have hS9 : wr.cell? ⟨bQ, 0, none⟩ = some (.slice (some ⟨gq, oq, none⟩) qs.length qc) ∧ wr.cell? ⟨gc, oc + k, none⟩ = some (.int .i64 (C[k]'hk)) := ⟨cQ, cC⟩
                              clear hbr
                              go_wp2_with fail
                              refine wp_region_held_drew (S := fun X => X.cell? ⟨bQ, 0, none⟩ = some (.slice (some ⟨gq, oq, none⟩) qs.length qc) ∧ X.cell? ⟨gc, oc + k, none⟩ = some (.int .i64 (C[k]'hk))) (by kernel_rfl) hS9 (fun hHeld => ?_)
                              refine wpAnyH_take (i := 0) (oi := ?oic0) (v := .bool true) ?hic0 (by kernel_rfl) (by kernel_rfl) (by kernel_rfl) ?hqc0 ?hyc0 hHeld ?hrc0
                              case hic0 =>
                                simp only [List.getElem?_toArray, List.getElem?_cons_succ, List.getElem?_cons_zero]
                                rfl
                              case hqc0 => exact fun _ _ _ h => h
                              case hyc0 => exact Or.inl ⟨by kernel_rfl, fun w hSw => by go_simp⟩
                              try simp only [Act.put, List.setIfInBounds_toArray, List.set_cons_zero, List.set_cons_succ]
                              refine wpAnyH_take (i := 1) (oi := ?oic1) (v := .bool false) ?hic1 (by kernel_rfl) (by kernel_rfl) (by kernel_rfl) ?hqc1 ?hyc1 hHeld ?hrc1
                              case hic1 =>
                                simp only [List.getElem?_toArray, List.getElem?_cons_succ, List.getElem?_cons_zero]
                                rfl
                              case hqc1 => exact fun _ _ _ h => h
                              case hyc1 => exact Or.inl ⟨by kernel_rfl, fun w hSw => by go_simp⟩
                              try simp only [Act.put, List.setIfInBounds_toArray, List.set_cons_zero, List.set_cons_succ]
                              refine wpAnyH_take (i := 2) (oi := ?oic2) (v := .bool false) ?hic2 (by kernel_rfl) (by kernel_rfl) (by kernel_rfl) ?hqc2 ?hyc2 hHeld ?hrc2
                              case hic2 =>
                                simp only [List.getElem?_toArray, List.getElem?_cons_succ, List.getElem?_cons_zero]
                                rfl
                              case hqc2 => exact fun _ _ _ h => h
                              case hyc2 => exact Or.inl ⟨by kernel_rfl, fun w hSw => by go_simp⟩
                              try simp only [Act.put, List.setIfInBounds_toArray, List.set_cons_zero, List.set_cons_succ]
                              refine wpAnyH_take (i := 3) (oi := ?oic3) (v := .slice (some ⟨gc, oc, none⟩) C.length cc) ?hic3 (by kernel_rfl) (by kernel_rfl) (by kernel_rfl) ?hqc3 ?hyc3 hHeld ?hrc3
                              case hic3 =>
                                simp only [List.getElem?_toArray, List.getElem?_cons_succ, List.getElem?_cons_zero]
                                rfl
                              case hqc3 => exact fun _ _ _ h => h
                              case hyc3 => exact Or.inl ⟨by kernel_rfl, fun w hSw => by go_simp⟩
                              try simp only [Act.put, List.setIfInBounds_toArray, List.set_cons_zero, List.set_cons_succ]
                              refine wpAnyH_take (i := 4) (oi := ?oic4) (v := .int .i64 (k : Int)) ?hic4 (by kernel_rfl) (by kernel_rfl) (by kernel_rfl) ?hqc4 ?hyc4 hHeld ?hrc4
                              case hic4 =>
                                simp only [List.getElem?_toArray, List.getElem?_cons_succ, List.getElem?_cons_zero]
                                rfl
                              case hqc4 => exact fun _ _ _ h => h
                              case hyc4 => exact Or.inl ⟨by kernel_rfl, fun w hSw => by go_simp⟩
                              try simp only [Act.put, List.setIfInBounds_toArray, List.set_cons_zero, List.set_cons_succ]
                              refine wpAnyH_take (i := 5) (oi := ?oic5) (v := .pointer (some ⟨gc, oc + k, none⟩)) ?hic5 (by kernel_rfl) (by kernel_rfl) (by kernel_rfl) ?hqc5 ?hyc5 hHeld ?hrc5
                              case hic5 =>
                                simp only [List.getElem?_toArray, List.getElem?_cons_succ, List.getElem?_cons_zero]
                                rfl
                              case hqc5 => exact fun _ _ _ h => h
                              case hyc5 => exact Or.inl ⟨by kernel_rfl, fun w hSw => by go_simp⟩
                              try simp only [Act.put, List.setIfInBounds_toArray, List.set_cons_zero, List.set_cons_succ]
                              refine wpAnyH_take (i := 6) (oi := ?oic6) (v := .int .i64 (C[k]'hk)) ?hic6 (by kernel_rfl) (by kernel_rfl) (by kernel_rfl) ?hqc6 ?hyc6 hHeld ?hrc6
                              case hic6 =>
                                simp only [List.getElem?_toArray, List.getElem?_cons_succ, List.getElem?_cons_zero]
                                rfl
                              case hqc6 => exact fun _ _ _ h => h
                              case hyc6 => exact Or.inl ⟨by kernel_rfl, fun w hSw => by obtain ⟨s0, s1⟩ := hSw; go_simp⟩
                              try simp only [Act.put, List.setIfInBounds_toArray, List.set_cons_zero, List.set_cons_succ]
                              refine wpAnyH_take (i := 7) (oi := ?oic7) (v := .bool false) ?hic7 (by kernel_rfl) (by kernel_rfl) (by kernel_rfl) ?hqc7 ?hyc7 hHeld ?hrc7
                              case hic7 =>
                                simp only [List.getElem?_toArray, List.getElem?_cons_succ, List.getElem?_cons_zero]
                                rfl
                              case hqc7 => exact fun _ _ _ h => h
                              case hyc7 => exact Or.inl ⟨by kernel_rfl, fun w hSw => by go_simp⟩
                              try simp only [Act.put, List.setIfInBounds_toArray, List.set_cons_zero, List.set_cons_succ]
                              refine wpAnyH_take (i := 8) (oi := ?oic8) (v := .bool false) ?hic8 (by kernel_rfl) (by kernel_rfl) (by kernel_rfl) ?hqc8 ?hyc8 hHeld ?hrc8
                              case hic8 =>
                                simp only [List.getElem?_toArray, List.getElem?_cons_succ, List.getElem?_cons_zero]
                                rfl
                              case hqc8 => exact fun _ _ _ h => h
                              case hyc8 => exact Or.inl ⟨by kernel_rfl, fun w hSw => by go_simp⟩
                              try simp only [Act.put, List.setIfInBounds_toArray, List.set_cons_zero, List.set_cons_succ]
                              refine wpAnyH_take (i := 9) (oi := ?oic9) (v := .bool false) ?hic9 (by kernel_rfl) (by kernel_rfl) (by kernel_rfl) ?hqc9 ?hyc9 hHeld ?hrc9
                              case hic9 =>
                                simp only [List.getElem?_toArray, List.getElem?_cons_succ, List.getElem?_cons_zero]
                                rfl
                              case hqc9 => exact fun _ _ _ h => h
                              case hyc9 => exact Or.inl ⟨by kernel_rfl, fun w hSw => by go_simp⟩
                              try simp only [Act.put, List.setIfInBounds_toArray, List.set_cons_zero, List.set_cons_succ]
                              refine wpAnyH_take (i := 10) (oi := ?oic10) (v := .slice (some ⟨gc, oc, none⟩) C.length cc) ?hic10 (by kernel_rfl) (by kernel_rfl) (by kernel_rfl) ?hqc10 ?hyc10 hHeld ?hrc10
                              case hic10 =>
                                simp only [List.getElem?_toArray, List.getElem?_cons_succ, List.getElem?_cons_zero]
                                rfl
                              case hqc10 => exact fun _ _ _ h => h
                              case hyc10 => exact Or.inl ⟨by kernel_rfl, fun w hSw => by go_simp⟩
                              try simp only [Act.put, List.setIfInBounds_toArray, List.set_cons_zero, List.set_cons_succ]
                              refine wpAnyH_take (i := 11) (oi := ?oic11) (v := .int .i64 (k : Int)) ?hic11 (by kernel_rfl) (by kernel_rfl) (by kernel_rfl) ?hqc11 ?hyc11 hHeld ?hrc11
                              case hic11 =>
                                simp only [List.getElem?_toArray, List.getElem?_cons_succ, List.getElem?_cons_zero]
                                rfl
                              case hqc11 => exact fun _ _ _ h => h
                              case hyc11 => exact Or.inl ⟨by kernel_rfl, fun w hSw => by go_simp⟩
                              try simp only [Act.put, List.setIfInBounds_toArray, List.set_cons_zero, List.set_cons_succ]
                              refine wpAnyH_take (i := 12) (oi := ?oic12) (v := .pointer (some ⟨gc, oc + k, none⟩)) ?hic12 (by kernel_rfl) (by kernel_rfl) (by kernel_rfl) ?hqc12 ?hyc12 hHeld ?hrc12
                              case hic12 =>
                                simp only [List.getElem?_toArray, List.getElem?_cons_succ, List.getElem?_cons_zero]
                                rfl
                              case hqc12 => exact fun _ _ _ h => h
                              case hyc12 => exact Or.inl ⟨by kernel_rfl, fun w hSw => by go_simp⟩
                              try simp only [Act.put, List.setIfInBounds_toArray, List.set_cons_zero, List.set_cons_succ]
                              refine wpAnyH_take (i := 13) (oi := ?oic13) (v := .int .i64 (C[k]'hk)) ?hic13 (by kernel_rfl) (by kernel_rfl) (by kernel_rfl) ?hqc13 ?hyc13 hHeld ?hrc13
                              case hic13 =>
                                simp only [List.getElem?_toArray, List.getElem?_cons_succ, List.getElem?_cons_zero]
                                rfl
                              case hqc13 => exact fun _ _ _ h => h
                              case hyc13 => exact Or.inl ⟨by kernel_rfl, fun w hSw => by obtain ⟨s0, s1⟩ := hSw; go_simp⟩
                              try simp only [Act.put, List.setIfInBounds_toArray, List.set_cons_zero, List.set_cons_succ]
                              refine wpAnyH_take (i := 14) (oi := ?oic14) (v := .pointer (some ⟨bQ, 0, none⟩)) ?hic14 (by kernel_rfl) (by kernel_rfl) (by kernel_rfl) ?hqc14 ?hyc14 hHeld ?hrc14
                              case hic14 =>
                                simp only [List.getElem?_toArray, List.getElem?_cons_succ, List.getElem?_cons_zero]
                                rfl
                              case hqc14 => exact fun _ _ _ h => h
                              case hyc14 => exact Or.inl ⟨by kernel_rfl, fun w hSw => by go_simp⟩
                              try simp only [Act.put, List.setIfInBounds_toArray, List.set_cons_zero, List.set_cons_succ]
                              refine wpAnyH_take (i := 15) (oi := ?oic15) (v := .slice (some ⟨gq, oq, none⟩) qs.length qc) ?hic15 (by kernel_rfl) (by kernel_rfl) (by kernel_rfl) ?hqc15 ?hyc15 hHeld ?hrc15
                              case hic15 =>
                                simp only [List.getElem?_toArray, List.getElem?_cons_succ, List.getElem?_cons_zero]
                                rfl
                              case hqc15 => exact fun _ _ _ h => h
                              case hyc15 => exact Or.inl ⟨by kernel_rfl, fun w hSw => by obtain ⟨s0, s1⟩ := hSw; go_simp⟩
                              try simp only [Act.put, List.setIfInBounds_toArray, List.set_cons_zero, List.set_cons_succ]
                              refine wpAnyH_take (i := 16) (oi := ?oic16) (v := .int .i64 (qs.length : Int)) ?hic16 (by kernel_rfl) (by kernel_rfl) (by kernel_rfl) ?hqc16 ?hyc16 hHeld ?hrc16
                              case hic16 =>
                                simp only [List.getElem?_toArray, List.getElem?_cons_succ, List.getElem?_cons_zero]
                                rfl
                              case hqc16 => exact fun _ _ _ h => h
                              case hyc16 => exact Or.inl ⟨by kernel_rfl, fun w hSw => by go_simp⟩
                              try simp only [Act.put, List.setIfInBounds_toArray, List.set_cons_zero, List.set_cons_succ]
                              refine wpAnyH_take (i := 17) (oi := ?oic17) (v := .bool false) ?hic17 (by kernel_rfl) (by kernel_rfl) (by kernel_rfl) ?hqc17 ?hyc17 hHeld ?hrc17
                              case hic17 =>
                                simp only [List.getElem?_toArray, List.getElem?_cons_succ, List.getElem?_cons_zero]
                                rfl
                              case hqc17 => exact fun _ _ _ h => h
                              case hyc17 => exact Or.inl ⟨by kernel_rfl, fun w hSw => by go_simp⟩
                              try simp only [Act.put, List.setIfInBounds_toArray, List.set_cons_zero, List.set_cons_succ]
                              refine wpAnyH_take (i := 18) (oi := ?oic18) (v := .bool false) ?hic18 (by kernel_rfl) (by kernel_rfl) (by kernel_rfl) ?hqc18 ?hyc18 hHeld ?hrc18
                              case hic18 =>
                                simp only [List.getElem?_toArray, List.getElem?_cons_succ, List.getElem?_cons_zero]
                                rfl
                              case hqc18 => exact fun _ _ _ h => h
                              case hyc18 => exact Or.inl ⟨by kernel_rfl, fun w hSw => by go_simp⟩
                              try simp only [Act.put, List.setIfInBounds_toArray, List.set_cons_zero, List.set_cons_succ]
                              refine wpAnyH_done (by kernel_rfl) ?_ _
                              go_wp2
                              go_roundw
                              case rel => exact ⟨k + 1, by omega, by go_num, HBR.out.drew⟩
                              case measure => simp [intOf]; omega
                        · obtain rfl : k = C.length := by omega
                          have hnk : ¬ (C.length : Int) < (C.length : Int) := by omega
                          have HBk : Hid (Below x10.heap.size x10 wr) := hbr
                          have HLk : Hid (Below w.heap.size w wr) := low_step LWx.out hbr
                          obtain ⟨cP, -⟩ := one_cell (box_step Px.out hbr)
                          have hzk := hzix wr hbr
                          clear hbr
                          cases hok : ok with
                          | false =>
                            subst hok
                            have hz1 : zz = -1 := by rw [← HZZ.out]; unfold sizeOf3; rw [HOK.out]; rfl
                            subst hz1
                            go_wp2_with fail
                            go_at_call 20
                            refine hzk.mono ?_
                            rintro e y1 ⟨rfl, b1⟩
                            have HE : Hid (Below w.heap.size w y1) := low_step HLk.out b1
                            clear b1 hzk
                            go_wp2
                            go_ret
                            exact ⟨rfl, HE.out⟩
                          | true =>
                            subst hok
                            have hz1 : zz = (sumLen ps : Int) := by rw [← HZZ.out]; unfold sizeOf3; rw [HOK.out]; rfl
                            obtain ⟨hp4, hp1, hpr⟩ := programOk_len HOK.out
                            have HPR : Hid (∀ p ∈ ps, procOk p = true ∧ p.length ≤ 12) := fun p hp => ⟨(hpr p hp).1, (procOk_parts (hpr p hp).1).2.1⟩
                            have hs48 : sumLen ps ≤ 48 := by
                              have := sumLen_small ps (fun p hp => (HPR.out p hp).2)
                              omega
                            obtain ⟨gp, op, hpa⟩ := readsP_some RPx.out (by omega)
                            subst hpa
                            clear hpr hzk
                            go_wp2_with fail
                            obtain ⟨wo, hwo⟩ : ∃ x, x = wr := ⟨_, rfl⟩
                            subst hwo
                            go_loopw [13, 14] (fun t q wr => ∃ i : Nat, i ≤ ps.length ∧ q = .int .i64 i ∧ t = .int .i64 ((sumLen (ps.take i) : Nat) : Int) ∧ Below x10.heap.size x10 wr) (fun _ q _ => ps.length - (intOf q).toNat)
                            case atStart => exact ⟨0, Nat.zero_le _, rfl, by simp [sumLen], HBk.out⟩
                            case round =>
                              obtain ⟨i, hil, rfl, rfl, hbr⟩ := hrel
                              have HBR : Hid (Below x10.heap.size x10 wr) := hbr
                              clear cP
                              obtain ⟨cP, -⟩ := one_cell (box_step Px.out hbr)
                              by_cases hi : i < ps.length
                              · have hi' : (i : Int) < (ps.length : Int) := by omega
                                have hi0 : (0 : Int) ≤ (i : Int) := by omega
                                obtain ⟨xi, hxi0, hx3⟩ := readsP_cell RPx.out (j := i) (p := ps[i]) (by simp [hi])
                                obtain ⟨ia, ic, rfl⟩ := reads3_form hx3
                                have cI := cell_step hxi0 hbr
                                have hsn := sumLen_snoc ps i hi
                                obtain ⟨hpo, hpl⟩ := HPR.out ps[i] (List.getElem_mem hi)
                                have hpk := implProcOk ps[i] _ wr (by unfold maxLen; omega) (reads3_below hx3 hbr)
                                rw [hpo] at hpk
                                have hs1 : sumLen (ps.take i) ≤ 48 := by
                                  have := sumLen_small (ps.take i) (fun p hp => (HPR.out p (List.mem_of_mem_take hp)).2)
                                  have h9 := List.length_take (i := i) (l := ps)
                                  omega
                                have HSN : Hid (sumLen (ps.take (i + 1)) = sumLen (ps.take i) + ps[i].length) := hsn
                                clear hbr hx3 hxi0 hsn hpo
                                generalize hg1 : sumLen (ps.take i) = t1 at *
                                obtain ⟨n1, hn1⟩ : ∃ n, ps[i].length = n := ⟨_, rfl⟩
                                rw [hn1] at HSN hpl cI hpk
                                have hw1 : IntKind.i64.wrap ((t1 : Int) + (n1 : Int)) = (t1 : Int) + (n1 : Int) := IntWalk.i64_in _ (by omega)
                                go_wp2_with fail
                                go_at_call 16
                                refine hpk.mono ?_
                                rintro e y1 ⟨rfl, b1⟩
                                have BZ : Hid (Below x10.heap.size x10 y1) := low_step HBR.out b1
                                have HT : Hid (Value.int .i64 ((t1 : Int) + (n1 : Int)) = .int .i64 ((sumLen (ps.take (i + 1)) : Nat) : Int)) := by
                                  show Value.int .i64 ((t1 : Int) + (n1 : Int)) = _
                                  rw [HSN.out]; simp
                                clear b1 hpk HSN hg1 hn1
                                go_wp2
                                go_roundw
                                case rel => exact ⟨i + 1, by omega, by go_num, HT.out, BZ.out⟩
                                case measure => simp [intOf]; omega
                              · obtain rfl : i = ps.length := by omega
                                have hni : ¬ (ps.length : Int) < (ps.length : Int) := by omega
                                rw [List.take_length]
                                clear hbr
                                go_wp2_with fail
                                obtain ⟨wo2, hwo2⟩ : ∃ x, x = wr := ⟨_, rfl⟩
                                subst hwo2
                                go_loopw [15] (fun q wr => ∃ i : Nat, i ≤ ps.length ∧ q = .int .i64 i ∧ Below x10.heap.size x10 wr) (fun q _ => ps.length - (intOf q).toNat)
                                case atStart => exact ⟨0, Nat.zero_le _, rfl, HBR.out⟩
                                case round =>
                                  obtain ⟨i, hil, rfl, hbr⟩ := hrel
                                  have HBI : Hid (Below x10.heap.size x10 wr) := hbr
                                  clear cP
                                  obtain ⟨cP, -⟩ := one_cell (box_step Px.out hbr)
                                  by_cases hi : i < ps.length
                                  · have hi' : (i : Int) < (ps.length : Int) := by omega
                                    clear hbr
                                    go_wp2_with fail
                                    obtain ⟨wo3, hwo3⟩ : ∃ x, x = wr := ⟨_, rfl⟩
                                    subst hwo3
                                    go_loopw [16] (fun q wr => ∃ k : Nat, k ≤ ps.length ∧ q = .int .i64 k ∧ Below x10.heap.size x10 wr) (fun q _ => ps.length - (intOf q).toNat)
                                    case atStart => exact ⟨0, Nat.zero_le _, rfl, HBI.out⟩
                                    case round =>
                                      obtain ⟨k, hkl, rfl, hbr⟩ := hrel
                                      have HBR : Hid (Below x10.heap.size x10 wr) := hbr
                                      clear cP
                                      obtain ⟨cP, -⟩ := one_cell (box_step Px.out hbr)
                                      by_cases hk : k < ps.length
                                      · have hk' : (k : Int) < (ps.length : Int) := by omega
                                        have hhb := has_both HOK.out hi hk
                                        have hCL := callersAns_length ps (i : Int)
                                        have hCA := callsAns_length ps (k : Int)
                                        have hcl := fun X (hX : Below wr.heap.size wr X) => implCallers ps (i : Int) (.slice (some ⟨gp, op, none⟩) ps.length pc) X hps hpe (readsP_below RPx.out (low_step HBR.out hX))
                                        have hca := fun X (hX : Below wr.heap.size wr X) => implCalls ps (k : Int) (.slice (some ⟨gp, op, none⟩) ps.length pc) X hps hpe (readsP_below RPx.out (low_step HBR.out hX))
                                        obtain ⟨CL, hCLe⟩ : ∃ x, callersAns ps (i : Int) = x := ⟨_, rfl⟩
                                        obtain ⟨CA, hCAe⟩ : ∃ x, callsAns ps (k : Int) = x := ⟨_, rfl⟩
                                        rw [hCLe, hCAe] at hhb
                                        rw [hCLe] at hCL hcl
                                        rw [hCAe] at hCA hca
                                        replace hCL : CL.length ≤ maxLen := by unfold maxLen; omega
                                        replace hCA : CA.length ≤ maxLen := by unfold maxLen; omega
                                        obtain ⟨hb9, hh2⟩ : ∃ b, CA.any (fun x => decide (x = (i : Int))) = b := ⟨_, rfl⟩
                                        have hh1 : CL.any (fun x => decide (x = (k : Int))) = hb9 := hhb.trans hh2
                                        have HS9 : Hid (∀ X, Below wr.heap.size wr X → X.cell? ⟨bP, 0, none⟩ = some (.slice (some ⟨gp, op, none⟩) ps.length pc)) := fun X hX => cell_step cP hX
                                        have cPr := cP
                                        clear hhb hCLe hCAe hbr
                                        go_wp2_with fail
                                        refine wp_region_held_drew (S := fun X => X.cell? ⟨bP, 0, none⟩ = some (.slice (some ⟨gp, op, none⟩) ps.length pc)) (by kernel_rfl) cPr (fun hHeld => ?_)
                                        refine wpAnyH_take (i := 0) (oi := ?oid0) (v := .agg #[.slice (some ⟨gp, op, none⟩) ps.length pc]) ?hid0 (by kernel_rfl) (by kernel_rfl) (by kernel_rfl) ?hqd0 ?hyd0 hHeld ?hrd0
                                        case hid0 =>
                                          simp only [List.getElem?_toArray, List.getElem?_cons_succ, List.getElem?_cons_zero]
                                          rfl
                                        case hqd0 => exact fun _ _ _ h => h
                                        case hyd0 => exact Or.inl ⟨by kernel_rfl, fun w hSw => by go_simp⟩
                                        try simp only [Act.put, List.setIfInBounds_toArray, List.set_cons_zero, List.set_cons_succ]
                                        refine wpAnyH_take (i := 1) (oi := ?oid1) (v := .int .i64 (i : Int)) ?hid1 (by kernel_rfl) (by kernel_rfl) (by kernel_rfl) ?hqd1 ?hyd1 hHeld ?hrd1
                                        case hid1 =>
                                          simp only [List.getElem?_toArray, List.getElem?_cons_succ, List.getElem?_cons_zero]
                                          rfl
                                        case hqd1 => exact fun _ _ _ h => h
                                        case hyd1 => exact Or.inl ⟨by kernel_rfl, fun w hSw => by go_simp⟩
                                        try simp only [Act.put, List.setIfInBounds_toArray, List.set_cons_zero, List.set_cons_succ]
                                        refine wpAnyH_take (i := 3) (oi := ?oid3) (v := .int .i64 (k : Int)) ?hid3 (by kernel_rfl) (by kernel_rfl) (by kernel_rfl) ?hqd3 ?hyd3 hHeld ?hrd3
                                        case hid3 =>
                                          simp only [List.getElem?_toArray, List.getElem?_cons_succ, List.getElem?_cons_zero]
                                          rfl
                                        case hqd3 => exact fun _ _ _ h => h
                                        case hyd3 => exact Or.inl ⟨by kernel_rfl, fun w hSw => by go_simp⟩
                                        try simp only [Act.put, List.setIfInBounds_toArray, List.set_cons_zero, List.set_cons_succ]
                                        refine wpAnyH_take (i := 5) (oi := ?oid5) (v := .agg #[.slice (some ⟨gp, op, none⟩) ps.length pc]) ?hid5 (by kernel_rfl) (by kernel_rfl) (by kernel_rfl) ?hqd5 ?hyd5 hHeld ?hrd5
                                        case hid5 =>
                                          simp only [List.getElem?_toArray, List.getElem?_cons_succ, List.getElem?_cons_zero]
                                          rfl
                                        case hqd5 => exact fun _ _ _ h => h
                                        case hyd5 => exact Or.inl ⟨by kernel_rfl, fun w hSw => by go_simp⟩
                                        try simp only [Act.put, List.setIfInBounds_toArray, List.set_cons_zero, List.set_cons_succ]
                                        refine wpAnyH_take (i := 6) (oi := ?oid6) (v := .int .i64 (k : Int)) ?hid6 (by kernel_rfl) (by kernel_rfl) (by kernel_rfl) ?hqd6 ?hyd6 hHeld ?hrd6
                                        case hid6 =>
                                          simp only [List.getElem?_toArray, List.getElem?_cons_succ, List.getElem?_cons_zero]
                                          rfl
                                        case hqd6 => exact fun _ _ _ h => h
                                        case hyd6 => exact Or.inl ⟨by kernel_rfl, fun w hSw => by go_simp⟩
                                        try simp only [Act.put, List.setIfInBounds_toArray, List.set_cons_zero, List.set_cons_succ]
                                        refine wpAnyH_take (i := 8) (oi := ?oid8) (v := .int .i64 (i : Int)) ?hid8 (by kernel_rfl) (by kernel_rfl) (by kernel_rfl) ?hqd8 ?hyd8 hHeld ?hrd8
                                        case hid8 =>
                                          simp only [List.getElem?_toArray, List.getElem?_cons_succ, List.getElem?_cons_zero]
                                          rfl
                                        case hqd8 => exact fun _ _ _ h => h
                                        case hyd8 => exact Or.inl ⟨by kernel_rfl, fun w hSw => by go_simp⟩
                                        try simp only [Act.put, List.setIfInBounds_toArray, List.set_cons_zero, List.set_cons_succ]
                                        refine wpAnyH_ready (rs := [2]) (by kernel_rfl) (by simp) ?_
                                        refine (AllReadyH.cons (o := ?ood2) ?hod2 (fun K hK => ?hkd2) AllReadyH.nil)
                                        case hod2 =>
                                          simp only [List.getElem?_toArray, List.getElem?_cons_succ, List.getElem?_cons_zero]
                                          rfl
                                        case hkd2 =>
                                          go_simp
                                          go_at_call 24
                                          refine (hcl wr.drew (Below.drew (Below.refl _ _))).mono ?_
                                          rintro e y1 ⟨av, rfl, oa, bq⟩
                                          have Y1 : Hid (Below wr.heap.size wr y1) := Below.trans (Below.drew (Below.refl _ _)) bq
                                          have RA : Hid (Reads y1 av (ints CL)) := reads_own oa
                                          clear bq oa
                                          try go_wp2_with fail
                                          refine hK.out _ _ (HS9.out _ Y1.out) (fun hHeld => ?_)
                                          clear hK K
                                          try simp only [Act.put, List.setIfInBounds_toArray, List.set_cons_zero, List.set_cons_succ]
                                          refine wpAnyH_ready (rs := [4]) (by kernel_rfl) (by simp) ?_
                                          refine (AllReadyH.cons (o := ?ood4) ?hod4 (fun K hK => ?hkd4) AllReadyH.nil)
                                          case hod4 =>
                                            simp only [List.getElem?_toArray, List.getElem?_cons_succ, List.getElem?_cons_zero]
                                            rfl
                                          case hkd4 =>
                                            go_simp
                                            go_at_call 23
                                            refine (lawHas CL (k : Int) av y1 hCL RA.out).mono ?_
                                            rintro e y2 ⟨rfl, bq⟩
                                            have Y2 : Hid (Below wr.heap.size wr y2) := low_step Y1.out bq
                                            rw [hh1]
                                            clear bq RA
                                            try go_wp2_with fail
                                            refine hK.out _ _ (HS9.out _ Y2.out) (fun hHeld => ?_)
                                            clear hK K
                                            try simp only [Act.put, List.setIfInBounds_toArray, List.set_cons_zero, List.set_cons_succ]
                                            refine wpAnyH_ready (rs := [7]) (by kernel_rfl) (by simp) ?_
                                            refine (AllReadyH.cons (o := ?ood7) ?hod7 (fun K hK => ?hkd7) AllReadyH.nil)
                                            case hod7 =>
                                              simp only [List.getElem?_toArray, List.getElem?_cons_succ, List.getElem?_cons_zero]
                                              rfl
                                            case hkd7 =>
                                              go_simp
                                              go_at_call 9
                                              refine (hca y2 Y2.out).mono ?_
                                              rintro e y3 ⟨dv, rfl, od, bq⟩
                                              have Y3 : Hid (Below wr.heap.size wr y3) := low_step Y2.out bq
                                              have RD : Hid (Reads y3 dv (ints CA)) := reads_own od
                                              clear bq od
                                              try go_wp2_with fail
                                              refine hK.out _ _ (HS9.out _ Y3.out) (fun hHeld => ?_)
                                              clear hK K
                                              try simp only [Act.put, List.setIfInBounds_toArray, List.set_cons_zero, List.set_cons_succ]
                                              refine wpAnyH_ready (rs := [9]) (by kernel_rfl) (by simp) ?_
                                              refine (AllReadyH.cons (o := ?ood9) ?hod9 (fun K hK => ?hkd9) AllReadyH.nil)
                                              case hod9 =>
                                                simp only [List.getElem?_toArray, List.getElem?_cons_succ, List.getElem?_cons_zero]
                                                rfl
                                              case hkd9 =>
                                                go_simp
                                                go_at_call 23
                                                refine (lawHas CA (i : Int) dv y3 hCA RD.out).mono ?_
                                                rintro e y4 ⟨rfl, bq⟩
                                                have Y4 : Hid (Below wr.heap.size wr y4) := low_step Y3.out bq
                                                rw [hh2]
                                                clear bq RD
                                                try go_wp2_with fail
                                                refine hK.out _ _ (HS9.out _ Y4.out) (fun hHeld => ?_)
                                                clear hK K
                                                try simp only [Act.put, List.setIfInBounds_toArray, List.set_cons_zero, List.set_cons_succ]
                                                refine wpAnyH_take (i := 10) (oi := ?oid10) (v := .bool false) ?hid10 (by kernel_rfl) (by kernel_rfl) (by kernel_rfl) ?hqd10 ?hyd10 hHeld ?hrd10
                                                case hid10 =>
                                                  simp only [List.getElem?_toArray, List.getElem?_cons_succ, List.getElem?_cons_zero]
                                                  rfl
                                                case hqd10 => exact fun _ _ _ h => h
                                                case hyd10 => exact Or.inl ⟨by kernel_rfl, fun w hSw => by go_simp; (try cases hb9 <;> rfl)⟩
                                                try simp only [Act.put, List.setIfInBounds_toArray, List.set_cons_zero, List.set_cons_succ]
                                                refine wpAnyH_done (by kernel_rfl) ?_ _
                                                have BZ : Hid (Below x10.heap.size x10 y4) := low_step HBR.out Y4.out
                                                go_wp2
                                                go_roundw
                                                case rel => exact ⟨k + 1, by omega, by go_num, BZ.out⟩
                                                case measure => simp [intOf]; omega
                                      · obtain rfl : k = ps.length := by omega
                                        have hnk : ¬ (ps.length : Int) < (ps.length : Int) := by omega
                                        clear hbr
                                        go_wp2
                                        go_roundw
                                        case rel => exact ⟨i + 1, by omega, by go_num, HBR.out⟩
                                        case measure => simp [intOf]; omega
                                  · obtain rfl : i = ps.length := by omega
                                    have hni : ¬ (ps.length : Int) < (ps.length : Int) := by omega
                                    have hzk := hzix wr hbr
                                    have HLk2 : Hid (Below w.heap.size w wr) := low_step LWx.out hbr
                                    rw [hz1] at hzk
                                    clear hbr
                                    go_wp2_with fail
                                    go_at_call 20
                                    refine hzk.mono ?_
                                    rintro e y1 ⟨rfl, b1⟩
                                    have HE : Hid (Below w.heap.size w y1) := low_step HLk2.out b1
                                    clear b1 hzk
                                    go_wp2
                                    go_ret
                                    exact ⟨rfl, HE.out⟩

set_option maxRecDepth 100000 in
theorem liftedFnPrograms (os : Os) (started : os.Started) (H : Type) (enc : TypeId × Value → H) :
    ReturnsInHanded {} Try.checked os 3 .any (Rows.fnProgramsSpec.pre6 enc Try.prog Try.f3 Rows.fnProgramsRow.domain false) (Rows.fnProgramsSpec.post enc Try.prog Try.f3 false true false false) := by
  refine returnsInHanded_of_change (C := Try.checked) own started (by kernel_rfl) Try.func3
    (ChangeSpec.witness6 (enc := enc) (C := Try.checked) false ⟨#[], #[.slice none 0 0], []⟩ 8 (by kernel_rfl) (by kernel_rfl) (by kernel_rfl) (by kernel_rfl)) ?_
  intro W base args ds gs before hval0 hW hcnd _
  have hval : ∀ (j : Nat) t v, Try.f3.params[j]? = some t → args[j]? = some v → Value.okWide Try.prog W .any base t v := hval0
  have hW' := hW
  obtain ⟨p, q, hA0, hV, rfl, hfz, hnd⟩ := hW
  have hA : DataW.TrodAll enc Try.prog W 0 (fun _ => true) true Try.f3.params.toList args.toList ds p := hA0
  rw [Try.params3] at hA hval
  obtain ⟨v0, vs0, d0, ds0, p0, q0, hargs, rfl, rfl, h0, r0⟩ := trodAll_cons hA
  obtain ⟨rfl, rfl, rfl⟩ := trodAll_nil r0
  obtain rfl : args = #[v0] := by cases args; simp_all
  obtain ⟨rfl, rfl⟩ := trodVars_none hV
  obtain ⟨bs, hr, hl, hs⟩ := open_code Try.underlying22 Try.underlying5 cellsByte (hval 0 22 v0 rfl rfl) h0
  refine (walkFnPrograms bs v0 W hl hr).mono fun e W' ⟨he, hb⟩ => ?_
  subst he
  refine ⟨_, rfl, law_post (tb := 4) laidOut ?_ hW' rfl Try.underlying4 rfl rfl hb⟩
  exact all_readable (P := Try.prog) (by kernel_rfl)

theorem overFnPrograms : Rows.fnProgramsRow.holds Try.pinned (OpenSpec.ofChange Rows.fnProgramsSpec) :=
  OpenClaim.holds_of_wide 3 Try.f3 rfl rfl rfl rfl rfl rfl rfl ⟨rfl, rfl, rfl, rfl, rfl⟩ rfl rfl rfl rfl rfl (by kernel_rfl) Try.func3 (by kernel_rfl)
    (of_decide_eq_true (by kernel_rfl)) (by unfold Func.isWrapper; first | (rw [if_pos (by decide +kernel)]; kernel_rfl) | (rw [if_neg (by decide +kernel)]; exact ⟨rfl, rfl⟩))
    (fun os started H enc _ => liftedFnPrograms os started H enc)

/-- ████ THE STATEMENT ████ -/
theorem fnProgramsHolds : Rows.FnProgramsSaid :=
  overFnPrograms
#print axioms fnProgramsHolds

end Go.Proofs.Ytmloeldgeegddaa
