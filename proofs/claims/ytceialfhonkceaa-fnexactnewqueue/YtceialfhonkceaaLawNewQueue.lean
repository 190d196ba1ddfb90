/-
  The law FnExactNewQueue: at every argument NewQueue answers as the specification, writes into no argument, and its answer owns its memory.
-/
import Derived.Test.YtceialfhonkceaaQueStep
import Derived.Test.YtceialfhonkceaaQueMark
import Derived.Test.YtceialfhonkceaaLift
namespace Go.Proofs.Ytceialfhonkceaa
open Go.ChangeShapes Go.WideShapes Go.ChangeAt Go.RowKit
set_option linter.unusedVariables false
set_option linter.unusedSimpArgs false
set_option maxHeartbeats 8000000
set_option maxRecDepth 20000

theorem walkNewQueue (w : World) : Calls Try.prog 5 #[] w fun e w' => e = .returned (.bool true) ∧ Below w.heap.size w w' := by
  have hl8 : (List.replicate 8 ([] : List Int)).length ≤ maxLen := by unfold maxLen; simp
  have hx8 : ∀ xs ∈ List.replicate 8 ([] : List Int), xs.length ≤ maxLen := fun xs h => by rw [List.eq_of_mem_replicate h]; simp
  have ht8 : tot (List.replicate 8 ([] : List Int)) = 0 := by decide
  have hl9 : (List.replicate 8 ([] : List Int)).length ≤ 1048576 := by simp
  obtain ⟨Y, hY⟩ : ∃ Y, List.replicate 8 ([] : List Int) = Y := ⟨_, rfl⟩
  have hsp := specNewQueue
  have him := implNewQueue
  rw [hY] at hl8 hx8 ht8 hl9 hsp him
  clear hY
  have ht1 : (1 : Int) + tot Y ≤ 1099511627776 := by omega
  obtain ⟨N, hN⟩ : ∃ N : Int, (1 : Int) + tot Y = N := ⟨_, rfl⟩
  have hN0 : decide (N < 0) = false := by simp; omega
  have HT8 : Hid _ := ht8
  clear ht8
  go_enter Try.func5, Try.ntmps5
  have LOW : Hid (Below w.heap.size w w) := Below.refl _ _
  have hcall := hsp w
  go_wp2_with fail
  go_at_call 15
  refine hcall.mono ?_
  rintro r w1 ⟨u1, us1, rfl, ou1, ap1, bc⟩
  clear hcall
  have LOWx : Hid (Below w.heap.size w w1) := low_stepQ LOW.out bc
  clear LOW
  have LOW : Hid (Below w.heap.size w w1) := LOWx.out
  clear LOWx
  have zw1 : Hid (w.heap.size ≤ w1.heap.size) := (bc).size
  obtain ⟨ua1, um1, uc1, rfl⟩ := own_sliceQ ou1.row
  have QS : Hid (QAt w1 w.heap.size w1.heap.size (.slice ua1 um1 uc1) us1 Y) := qat_of ou1 ap1
  clear ou1 ap1 bc
  obtain ⟨w2, hAw2⟩ : ∃ W, w1.alloc (.cells #[.int .i64 0, .slice ua1 um1 uc1] 27) = W := ⟨_, rfl⟩
  have bb : Below w1.heap.size w1 w2 := by rw [← hAw2]; go_grown
  have szBS : w1.heap.size < w2.heap.size := by rw [← hAw2]; simp
  obtain ⟨bBS, hBw2⟩ : ∃ n, w1.heap.size = n := ⟨_, rfl⟩
  have eBS : Hid (w1.heap.size = bBS) := hBw2
  have BSn : Hid (w2.heap[bBS]? = some (.cells #[.int .i64 0, .slice ua1 um1 uc1] 27 (0, 0))) := by
    show w2.heap[bBS]? = _
    rw [← hAw2, ← hBw2]; exact heap_alloc_new w1 _
  have oBS : Hid (bBS < w2.heap.size) := by show bBS < _; rw [← hBw2]; exact szBS
  clear szBS
  have LOWx : Hid (Below w.heap.size w w2) := low_stepQ LOW.out bb
  have QSx : Hid (QAt w2 w.heap.size w1.heap.size (.slice ua1 um1 uc1) us1 Y) := qat_step QS.out bb
  clear LOW QS
  have LOW : Hid (Below w.heap.size w w2) := LOWx.out
  have QS : Hid (QAt w2 w.heap.size w1.heap.size (.slice ua1 um1 uc1) us1 Y) := QSx.out
  clear LOWx QSx
  have zw2 : Hid (w1.heap.size ≤ w2.heap.size) := (bb).size
  clear bb
  have BS : Hid (w2.heap[bBS]? = some (.cells #[.int .i64 0, .slice ua1 um1 uc1] 27 (0, 0))) := BSn.out
  clear BSn
  have hcall := him w2
  go_wp2_with fail
  go_at_call 16
  clear hAw2 hBw2
  refine hcall.mono ?_
  rintro r w3 ⟨u2, us2, rfl, ou2, ap2, bc⟩
  clear hcall
  have LOWx : Hid (Below w.heap.size w w3) := low_stepQ LOW.out bc
  have QSx : Hid (QAt w3 w.heap.size w1.heap.size (.slice ua1 um1 uc1) us1 Y) := qat_step QS.out bc
  have BSx : Hid (w3.heap[bBS]? = some (.cells #[.int .i64 0, .slice ua1 um1 uc1] 27 (0, 0))) := box_stepQ BS.out bc
  clear LOW QS BS
  have LOW : Hid (Below w.heap.size w w3) := LOWx.out
  have QS : Hid (QAt w3 w.heap.size w1.heap.size (.slice ua1 um1 uc1) us1 Y) := QSx.out
  have BS : Hid (w3.heap[bBS]? = some (.cells #[.int .i64 0, .slice ua1 um1 uc1] 27 (0, 0))) := BSx.out
  clear LOWx QSx BSx
  have zw3 : Hid (w2.heap.size ≤ w3.heap.size) := (bc).size
  obtain ⟨ua2, um2, uc2, rfl⟩ := own_sliceQ ou2.row
  have QG : Hid (QAt w3 w2.heap.size w3.heap.size (.slice ua2 um2 uc2) us2 Y) := qat_of ou2 ap2
  clear ou2 ap2 bc
  obtain ⟨w4, hAw4⟩ : ∃ W, w3.alloc (.cells #[.int .i64 0, .slice ua2 um2 uc2] 27) = W := ⟨_, rfl⟩
  have bb : Below w3.heap.size w3 w4 := by rw [← hAw4]; go_grown
  have szBG : w3.heap.size < w4.heap.size := by rw [← hAw4]; simp
  obtain ⟨bBG, hBw4⟩ : ∃ n, w3.heap.size = n := ⟨_, rfl⟩
  have eBG : Hid (w3.heap.size = bBG) := hBw4
  have BGn : Hid (w4.heap[bBG]? = some (.cells #[.int .i64 0, .slice ua2 um2 uc2] 27 (0, 0))) := by
    show w4.heap[bBG]? = _
    rw [← hAw4, ← hBw4]; exact heap_alloc_new w3 _
  have oBG : Hid (bBG < w4.heap.size) := by show bBG < _; rw [← hBw4]; exact szBG
  clear szBG
  have LOWx : Hid (Below w.heap.size w w4) := low_stepQ LOW.out bb
  have QSx : Hid (QAt w4 w.heap.size w1.heap.size (.slice ua1 um1 uc1) us1 Y) := qat_step QS.out bb
  have BSx : Hid (w4.heap[bBS]? = some (.cells #[.int .i64 0, .slice ua1 um1 uc1] 27 (0, 0))) := box_stepQ BS.out bb
  have QGx : Hid (QAt w4 w2.heap.size w3.heap.size (.slice ua2 um2 uc2) us2 Y) := qat_step QG.out bb
  clear LOW QS BS QG
  have LOW : Hid (Below w.heap.size w w4) := LOWx.out
  have QS : Hid (QAt w4 w.heap.size w1.heap.size (.slice ua1 um1 uc1) us1 Y) := QSx.out
  have BS : Hid (w4.heap[bBS]? = some (.cells #[.int .i64 0, .slice ua1 um1 uc1] 27 (0, 0))) := BSx.out
  have QG : Hid (QAt w4 w2.heap.size w3.heap.size (.slice ua2 um2 uc2) us2 Y) := QGx.out
  clear LOWx QSx BSx QGx
  have zw4 : Hid (w3.heap.size ≤ w4.heap.size) := (bb).size
  clear bb
  have BG : Hid (w4.heap[bBG]? = some (.cells #[.int .i64 0, .slice ua2 um2 uc2] 27 (0, 0))) := BGn.out
  clear BGn
  obtain ⟨cg0, cg1, -, -⟩ := two_cellsQ BG.out
  obtain ⟨cs0, cs1, -, -⟩ := two_cellsQ BS.out
  have hcall := eqQueue 0 Y (.slice ua2 um2 uc2) (.slice ua1 um1 uc1) w4 hl8 hx8 QG.out.own.reads QS.out.own.reads
  go_wp2_with fail
  go_at_call 12
  clear hAw4 hBw4
  refine hcall.mono ?_
  rintro r w5 ⟨rfl, bc⟩
  clear hcall cg0 cg1 cs0 cs1
  have LOWx : Hid (Below w.heap.size w w5) := low_stepQ LOW.out bc
  have QSx : Hid (QAt w5 w.heap.size w1.heap.size (.slice ua1 um1 uc1) us1 Y) := qat_step QS.out bc
  have BSx : Hid (w5.heap[bBS]? = some (.cells #[.int .i64 0, .slice ua1 um1 uc1] 27 (0, 0))) := box_stepQ BS.out bc
  have QGx : Hid (QAt w5 w2.heap.size w3.heap.size (.slice ua2 um2 uc2) us2 Y) := qat_step QG.out bc
  have BGx : Hid (w5.heap[bBG]? = some (.cells #[.int .i64 0, .slice ua2 um2 uc2] 27 (0, 0))) := box_stepQ BG.out bc
  clear LOW QS BS QG BG
  have LOW : Hid (Below w.heap.size w w5) := LOWx.out
  have QS : Hid (QAt w5 w.heap.size w1.heap.size (.slice ua1 um1 uc1) us1 Y) := QSx.out
  have BS : Hid (w5.heap[bBS]? = some (.cells #[.int .i64 0, .slice ua1 um1 uc1] 27 (0, 0))) := BSx.out
  have QG : Hid (QAt w5 w2.heap.size w3.heap.size (.slice ua2 um2 uc2) us2 Y) := QGx.out
  have BG : Hid (w5.heap[bBG]? = some (.cells #[.int .i64 0, .slice ua2 um2 uc2] 27 (0, 0))) := BGx.out
  clear LOWx QSx BSx QGx BGx
  have zw5 : Hid (w4.heap.size ≤ w5.heap.size) := (bc).size
  obtain ⟨cg0, cg1, -, -⟩ := two_cellsQ BG.out
  have hcall := markQueue 0 Y (.slice ua2 um2 uc2) us2 w2.heap.size w3.heap.size 1 w5 (by omega) hl9 ht1 (by have n0 := zw1.out; have n1 := zw2.out; have n2 := eBS.out; have n3 := oBS.out; have n4 := zw3.out; have n5 := zw4.out; have n6 := eBG.out; have n7 := oBG.out; have n8 := zw5.out; omega) QG.out.own QG.out.apart QG.out.tu
  go_wp2_with fail
  go_at_call 17
  refine hcall.mono ?_
  rintro r w6 ⟨rfl, m1, m2, m3, m4⟩
  clear hcall cg0 cg1
  have LOWx : Hid (Below w.heap.size w w6) := LOW.out.trans (m3.mono (by have n0 := zw1.out; have n1 := zw2.out; have n2 := eBS.out; have n3 := oBS.out; have n4 := zw3.out; have n5 := zw4.out; have n6 := eBG.out; have n7 := oBG.out; have n8 := zw5.out; omega))
  have QSx : Hid (QAt w6 w.heap.size w1.heap.size (.slice ua1 um1 uc1) us1 Y) := qat_low QS.out m3 (by have n0 := zw1.out; have n1 := zw2.out; have n2 := eBS.out; have n3 := oBS.out; have n4 := zw3.out; have n5 := zw4.out; have n6 := eBG.out; have n7 := oBG.out; have n8 := zw5.out; omega)
  have BSx : Hid (w6.heap[bBS]? = some (.cells #[.int .i64 0, .slice ua1 um1 uc1] 27 (0, 0))) := box_lowQ BS.out m3 (by have n0 := zw1.out; have n1 := zw2.out; have n2 := eBS.out; have n3 := oBS.out; have n4 := zw3.out; have n5 := zw4.out; have n6 := eBG.out; have n7 := oBG.out; have n8 := zw5.out; omega)
  have BGx : Hid (w6.heap[bBG]? = some (.cells #[.int .i64 0, .slice ua2 um2 uc2] 27 (0, 0))) := box_highQ BG.out m4 (by have n0 := zw1.out; have n1 := zw2.out; have n2 := eBS.out; have n3 := oBS.out; have n4 := zw3.out; have n5 := zw4.out; have n6 := eBG.out; have n7 := oBG.out; have n8 := zw5.out; omega)
  clear LOW QS BS QG BG
  have LOW : Hid (Below w.heap.size w w6) := LOWx.out
  have QS : Hid (QAt w6 w.heap.size w1.heap.size (.slice ua1 um1 uc1) us1 Y) := QSx.out
  have BS : Hid (w6.heap[bBS]? = some (.cells #[.int .i64 0, .slice ua1 um1 uc1] 27 (0, 0))) := BSx.out
  have BG : Hid (w6.heap[bBG]? = some (.cells #[.int .i64 0, .slice ua2 um2 uc2] 27 (0, 0))) := BGx.out
  clear LOWx QSx BSx BGx
  have MG : Hid (MAt w6 w2.heap.size (.slice ua2 um2 uc2) us2 Y) := ⟨m1, m2⟩
  have zw6 : Hid (w5.heap.size ≤ w6.heap.size) := m4.1
  clear m1 m2 m3 m4
  rw [hN]
  obtain ⟨cg0, cg1, -, -⟩ := two_cellsQ BG.out
  have hheld := heldQueue 0 Y (.slice ua2 um2 uc2) us2 w2.heap.size 1 w6 (by omega) hl9 ht1 MG.out.1 MG.out.2
  rw [hN] at hheld
  have hcall := hheld
  go_wp2_with fail
  go_at_call 18
  refine hcall.mono ?_
  rintro r w7 ⟨rfl, bc⟩
  clear hcall cg0 cg1
  have LOWx : Hid (Below w.heap.size w w7) := low_stepQ LOW.out bc
  have QSx : Hid (QAt w7 w.heap.size w1.heap.size (.slice ua1 um1 uc1) us1 Y) := qat_step QS.out bc
  have BSx : Hid (w7.heap[bBS]? = some (.cells #[.int .i64 0, .slice ua1 um1 uc1] 27 (0, 0))) := box_stepQ BS.out bc
  have BGx : Hid (w7.heap[bBG]? = some (.cells #[.int .i64 0, .slice ua2 um2 uc2] 27 (0, 0))) := box_stepQ BG.out bc
  have MGx : Hid (MAt w7 w2.heap.size (.slice ua2 um2 uc2) us2 Y) := mat_step MG.out bc
  clear LOW QS BS BG MG
  have LOW : Hid (Below w.heap.size w w7) := LOWx.out
  have QS : Hid (QAt w7 w.heap.size w1.heap.size (.slice ua1 um1 uc1) us1 Y) := QSx.out
  have BS : Hid (w7.heap[bBS]? = some (.cells #[.int .i64 0, .slice ua1 um1 uc1] 27 (0, 0))) := BSx.out
  have BG : Hid (w7.heap[bBG]? = some (.cells #[.int .i64 0, .slice ua2 um2 uc2] 27 (0, 0))) := BGx.out
  have MG : Hid (MAt w7 w2.heap.size (.slice ua2 um2 uc2) us2 Y) := MGx.out
  clear LOWx QSx BSx BGx MGx
  have zw7 : Hid (w6.heap.size ≤ w7.heap.size) := (bc).size
  clear hheld
  have hcall := him w7
  go_wp2_with fail
  go_at_call 16
  refine hcall.mono ?_
  rintro r w8 ⟨u3, us3, rfl, ou3, ap3, bc⟩
  clear hcall
  have LOWx : Hid (Below w.heap.size w w8) := low_stepQ LOW.out bc
  have QSx : Hid (QAt w8 w.heap.size w1.heap.size (.slice ua1 um1 uc1) us1 Y) := qat_step QS.out bc
  have BSx : Hid (w8.heap[bBS]? = some (.cells #[.int .i64 0, .slice ua1 um1 uc1] 27 (0, 0))) := box_stepQ BS.out bc
  have BGx : Hid (w8.heap[bBG]? = some (.cells #[.int .i64 0, .slice ua2 um2 uc2] 27 (0, 0))) := box_stepQ BG.out bc
  have MGx : Hid (MAt w8 w2.heap.size (.slice ua2 um2 uc2) us2 Y) := mat_step MG.out bc
  clear LOW QS BS BG MG
  have LOW : Hid (Below w.heap.size w w8) := LOWx.out
  have QS : Hid (QAt w8 w.heap.size w1.heap.size (.slice ua1 um1 uc1) us1 Y) := QSx.out
  have BS : Hid (w8.heap[bBS]? = some (.cells #[.int .i64 0, .slice ua1 um1 uc1] 27 (0, 0))) := BSx.out
  have BG : Hid (w8.heap[bBG]? = some (.cells #[.int .i64 0, .slice ua2 um2 uc2] 27 (0, 0))) := BGx.out
  have MG : Hid (MAt w8 w2.heap.size (.slice ua2 um2 uc2) us2 Y) := MGx.out
  clear LOWx QSx BSx BGx MGx
  have zw8 : Hid (w7.heap.size ≤ w8.heap.size) := (bc).size
  obtain ⟨ua3, um3, uc3, rfl⟩ := own_sliceQ ou3.row
  have QH : Hid (ReadsSS w8 (.slice ua3 um3 uc3) Y) := ou3.reads
  clear ou3 ap3 bc
  obtain ⟨w9, hAw9⟩ : ∃ W, w8.alloc (.cells #[.int .i64 0, .slice ua3 um3 uc3] 27) = W := ⟨_, rfl⟩
  have bb : Below w8.heap.size w8 w9 := by rw [← hAw9]; go_grown
  have szBH : w8.heap.size < w9.heap.size := by rw [← hAw9]; simp
  obtain ⟨bBH, hBw9⟩ : ∃ n, w8.heap.size = n := ⟨_, rfl⟩
  have eBH : Hid (w8.heap.size = bBH) := hBw9
  have BHn : Hid (w9.heap[bBH]? = some (.cells #[.int .i64 0, .slice ua3 um3 uc3] 27 (0, 0))) := by
    show w9.heap[bBH]? = _
    rw [← hAw9, ← hBw9]; exact heap_alloc_new w8 _
  have oBH : Hid (bBH < w9.heap.size) := by show bBH < _; rw [← hBw9]; exact szBH
  clear szBH
  have LOWx : Hid (Below w.heap.size w w9) := low_stepQ LOW.out bb
  have QSx : Hid (QAt w9 w.heap.size w1.heap.size (.slice ua1 um1 uc1) us1 Y) := qat_step QS.out bb
  have BSx : Hid (w9.heap[bBS]? = some (.cells #[.int .i64 0, .slice ua1 um1 uc1] 27 (0, 0))) := box_stepQ BS.out bb
  have BGx : Hid (w9.heap[bBG]? = some (.cells #[.int .i64 0, .slice ua2 um2 uc2] 27 (0, 0))) := box_stepQ BG.out bb
  have MGx : Hid (MAt w9 w2.heap.size (.slice ua2 um2 uc2) us2 Y) := mat_step MG.out bb
  have QHx : Hid (ReadsSS w9 (.slice ua3 um3 uc3) Y) := readsSS_below QH.out bb
  clear LOW QS BS BG MG QH
  have LOW : Hid (Below w.heap.size w w9) := LOWx.out
  have QS : Hid (QAt w9 w.heap.size w1.heap.size (.slice ua1 um1 uc1) us1 Y) := QSx.out
  have BS : Hid (w9.heap[bBS]? = some (.cells #[.int .i64 0, .slice ua1 um1 uc1] 27 (0, 0))) := BSx.out
  have BG : Hid (w9.heap[bBG]? = some (.cells #[.int .i64 0, .slice ua2 um2 uc2] 27 (0, 0))) := BGx.out
  have MG : Hid (MAt w9 w2.heap.size (.slice ua2 um2 uc2) us2 Y) := MGx.out
  have QH : Hid (ReadsSS w9 (.slice ua3 um3 uc3) Y) := QHx.out
  clear LOWx QSx BSx BGx MGx QHx
  have zw9 : Hid (w8.heap.size ≤ w9.heap.size) := (bb).size
  clear bb
  have BH : Hid (w9.heap[bBH]? = some (.cells #[.int .i64 0, .slice ua3 um3 uc3] 27 (0, 0))) := BHn.out
  clear BHn
  obtain ⟨ch0, ch1, -, -⟩ := two_cellsQ BH.out
  obtain ⟨cs0, cs1, -, -⟩ := two_cellsQ BS.out
  have hcall := eqQueue 0 Y (.slice ua3 um3 uc3) (.slice ua1 um1 uc1) w9 hl8 hx8 QH.out QS.out.own.reads
  go_wp2_with fail
  go_at_call 12
  clear hAw9 hBw9
  refine hcall.mono ?_
  rintro r w10 ⟨rfl, bc⟩
  clear hcall ch0 ch1 cs0 cs1
  have LOWx : Hid (Below w.heap.size w w10) := low_stepQ LOW.out bc
  have QSx : Hid (QAt w10 w.heap.size w1.heap.size (.slice ua1 um1 uc1) us1 Y) := qat_step QS.out bc
  have BSx : Hid (w10.heap[bBS]? = some (.cells #[.int .i64 0, .slice ua1 um1 uc1] 27 (0, 0))) := box_stepQ BS.out bc
  have BGx : Hid (w10.heap[bBG]? = some (.cells #[.int .i64 0, .slice ua2 um2 uc2] 27 (0, 0))) := box_stepQ BG.out bc
  have MGx : Hid (MAt w10 w2.heap.size (.slice ua2 um2 uc2) us2 Y) := mat_step MG.out bc
  have QHx : Hid (ReadsSS w10 (.slice ua3 um3 uc3) Y) := readsSS_below QH.out bc
  have BHx : Hid (w10.heap[bBH]? = some (.cells #[.int .i64 0, .slice ua3 um3 uc3] 27 (0, 0))) := box_stepQ BH.out bc
  clear LOW QS BS BG MG QH BH
  have LOW : Hid (Below w.heap.size w w10) := LOWx.out
  have QS : Hid (QAt w10 w.heap.size w1.heap.size (.slice ua1 um1 uc1) us1 Y) := QSx.out
  have BS : Hid (w10.heap[bBS]? = some (.cells #[.int .i64 0, .slice ua1 um1 uc1] 27 (0, 0))) := BSx.out
  have BG : Hid (w10.heap[bBG]? = some (.cells #[.int .i64 0, .slice ua2 um2 uc2] 27 (0, 0))) := BGx.out
  have MG : Hid (MAt w10 w2.heap.size (.slice ua2 um2 uc2) us2 Y) := MGx.out
  have QH : Hid (ReadsSS w10 (.slice ua3 um3 uc3) Y) := QHx.out
  have BH : Hid (w10.heap[bBH]? = some (.cells #[.int .i64 0, .slice ua3 um3 uc3] 27 (0, 0))) := BHx.out
  clear LOWx QSx BSx BGx MGx QHx BHx
  have zw10 : Hid (w9.heap.size ≤ w10.heap.size) := (bc).size
  obtain ⟨cg0, cg1, -, -⟩ := two_cellsQ BG.out
  have hheld := heldQueue 0 Y (.slice ua2 um2 uc2) us2 w2.heap.size 1 w10 (by omega) hl9 ht1 MG.out.1 MG.out.2
  rw [hN] at hheld
  have hcall := hheld
  go_wp2_with fail
  go_at_call 18
  refine hcall.mono ?_
  rintro r w11 ⟨rfl, bc⟩
  clear hcall cg0 cg1
  have LOWx : Hid (Below w.heap.size w w11) := low_stepQ LOW.out bc
  have QSx : Hid (QAt w11 w.heap.size w1.heap.size (.slice ua1 um1 uc1) us1 Y) := qat_step QS.out bc
  have BSx : Hid (w11.heap[bBS]? = some (.cells #[.int .i64 0, .slice ua1 um1 uc1] 27 (0, 0))) := box_stepQ BS.out bc
  have BGx : Hid (w11.heap[bBG]? = some (.cells #[.int .i64 0, .slice ua2 um2 uc2] 27 (0, 0))) := box_stepQ BG.out bc
  have MGx : Hid (MAt w11 w2.heap.size (.slice ua2 um2 uc2) us2 Y) := mat_step MG.out bc
  have QHx : Hid (ReadsSS w11 (.slice ua3 um3 uc3) Y) := readsSS_below QH.out bc
  have BHx : Hid (w11.heap[bBH]? = some (.cells #[.int .i64 0, .slice ua3 um3 uc3] 27 (0, 0))) := box_stepQ BH.out bc
  clear LOW QS BS BG MG QH BH
  have LOW : Hid (Below w.heap.size w w11) := LOWx.out
  have QS : Hid (QAt w11 w.heap.size w1.heap.size (.slice ua1 um1 uc1) us1 Y) := QSx.out
  have BS : Hid (w11.heap[bBS]? = some (.cells #[.int .i64 0, .slice ua1 um1 uc1] 27 (0, 0))) := BSx.out
  have BG : Hid (w11.heap[bBG]? = some (.cells #[.int .i64 0, .slice ua2 um2 uc2] 27 (0, 0))) := BGx.out
  have MG : Hid (MAt w11 w2.heap.size (.slice ua2 um2 uc2) us2 Y) := MGx.out
  have QH : Hid (ReadsSS w11 (.slice ua3 um3 uc3) Y) := QHx.out
  have BH : Hid (w11.heap[bBH]? = some (.cells #[.int .i64 0, .slice ua3 um3 uc3] 27 (0, 0))) := BHx.out
  clear LOWx QSx BSx BGx MGx QHx BHx
  have zw11 : Hid (w10.heap.size ≤ w11.heap.size) := (bc).size
  clear hheld
  go_wp2
  go_ret
  exact ⟨rfl, LOW.out⟩

set_option maxRecDepth 100000 in
theorem liftedFnExactNewQueue (os : Os) (started : os.Started) (H : Type) (enc : TypeId × Value → H) :
    ReturnsInHanded {} Try.checked os 5 .any (Rows.fnExactNewQueueSpec.pre6 enc Try.prog Try.f5 Rows.fnExactNewQueueRow.domain false) (Rows.fnExactNewQueueSpec.post enc Try.prog Try.f5 false true false false) := by
  refine returnsInHanded_of_change (C := Try.checked) own started (by kernel_rfl) Try.func5
    (ChangeSpec.witness6 (enc := enc) (C := Try.checked) false ⟨#[], #[], []⟩ 8 (by kernel_rfl) (by kernel_rfl) (by kernel_rfl) (by kernel_rfl)) ?_
  intro W base args ds gs before hval0 hW hcnd _
  have hval : ∀ (j : Nat) t v, Try.f5.params[j]? = some t → args[j]? = some v → Value.okWide Try.prog W .any base t v := hval0
  have hW' := hW
  obtain ⟨p, q, hA0, hV, rfl, hfz, hnd⟩ := hW
  have hA : DataW.TrodAll enc Try.prog W 0 (fun _ => true) true Try.f5.params.toList args.toList ds p := hA0
  rw [Try.params5] at hA hval
  obtain ⟨hargs, rfl, rfl⟩ := trodAll_nil hA
  obtain rfl : args = #[] := by cases args; simp_all
  obtain ⟨rfl, rfl⟩ := trodVars_none hV
  refine (walkNewQueue W).mono fun e W' ⟨he, hb⟩ => ?_
  subst he
  refine ⟨_, rfl, law_post (tb := 4) laidOut ?_ hW' rfl Try.underlying4 rfl rfl hb⟩
  exact all_readable (P := Try.prog) (by kernel_rfl)

theorem overFnExactNewQueue : Rows.fnExactNewQueueRow.holds Try.pinned (OpenSpec.ofChange Rows.fnExactNewQueueSpec) :=
  OpenClaim.holds_of_wide 5 Try.f5 rfl rfl rfl rfl rfl rfl rfl ⟨rfl, rfl, rfl, rfl, rfl⟩ rfl rfl rfl rfl rfl (by kernel_rfl) Try.func5 (by kernel_rfl)
    (of_decide_eq_true (by kernel_rfl)) (by unfold Func.isWrapper; first | (rw [if_pos (by decide +kernel)]; kernel_rfl) | (rw [if_neg (by decide +kernel)]; exact ⟨rfl, rfl⟩))
    (fun os started H enc _ => liftedFnExactNewQueue os started H enc)

/-- ████ THE STATEMENT ████ -/
theorem newQueueHolds : Rows.FnExactNewQueueSaid :=
  overFnExactNewQueue
#print axioms newQueueHolds

end Go.Proofs.Ytceialfhonkceaa
