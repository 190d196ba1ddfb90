/-
  The law FnExactServed: at every argument Served answers as the specification, writes into no argument, and its answer owns its memory.
-/
import Derived.Test.YtceialfhonkceaaQueServ
import Derived.Test.YtceialfhonkceaaQueMark
import Derived.Test.YtceialfhonkceaaLift
namespace Go.Proofs.Ytceialfhonkceaa
open Go.ChangeShapes Go.WideShapes Go.ChangeAt Go.RowKit
set_option linter.unusedVariables false
set_option linter.unusedSimpArgs false
set_option maxHeartbeats 8000000
set_option maxRecDepth 20000

theorem walkServed (t  : Int) (X : List (List Int)) (v : Value) (w : World) (hl : X.length ≤ maxLen) (hx : ∀ p ∈ X, p.length ≤ maxLen) (hv : ReadsSS w v X) :
    Calls Try.prog 7 #[.agg #[.int .i64 t, v]] w fun e w' => e = .returned (.bool true) ∧ Below w.heap.size w w' := by
  have hsp := fun u W => specServed t  X u W hl hx
  have him := fun u W => implServed t  X u W hl hx
  obtain ⟨T9, Y9, r9, m9, hA9⟩ : ∃ a b c d, servA t X = (a, b, c, d) := ⟨_, _, _, _, rfl⟩
  rw [hA9] at hsp him
  obtain ⟨h8, h6⟩ := serv_small hA9
  have ht1 := tot_small h8 h6
  have hl9 : Y9.length ≤ 1048576 := by omega
  have hlY : Y9.length ≤ maxLen := by unfold maxLen; omega
  have hxY : ∀ y ∈ Y9, y.length ≤ maxLen := fun y hy => by have := h6 y hy; unfold maxLen; omega
  obtain ⟨N, hN⟩ : ∃ N : Int, (1 : Int) + tot Y9 = N := ⟨_, rfl⟩
  have hN0 : decide (N < 0) = false := by simp; omega
  clear hA9 h8 h6
  simp only at hsp him
  obtain ⟨va, vm, vc, hvv⟩ : ∃ a m c, v = .slice a m c := by obtain ⟨a, c, e, _⟩ := hv; exact ⟨_, _, _, e⟩
  subst hvv
  go_enter Try.func7, Try.ntmps7
  have LOW : Hid (Below w.heap.size w w) := Below.refl _ _
  obtain ⟨w1, hAw1⟩ : ∃ W, w.alloc (.cells #[.int .i64 t, .slice va vm vc] 24) = W := ⟨_, rfl⟩
  have bb : Below w.heap.size w w1 := by rw [← hAw1]; go_grown
  have szA : w.heap.size < w1.heap.size := by rw [← hAw1]; simp
  obtain ⟨bA, hBw1⟩ : ∃ n, w.heap.size = n := ⟨_, rfl⟩
  have eA : Hid (w.heap.size = bA) := hBw1
  have An : Hid (w1.heap[bA]? = some (.cells #[.int .i64 t, .slice va vm vc] 24 (0, 0))) := by
    show w1.heap[bA]? = _
    rw [← hAw1, ← hBw1]; exact heap_alloc_new w _
  have oA : Hid (bA < w1.heap.size) := by show bA < _; rw [← hBw1]; exact szA
  clear szA
  have LOWx : Hid (Below w.heap.size w w1) := low_stepQ LOW.out bb
  clear LOW
  have LOW : Hid (Below w.heap.size w w1) := LOWx.out
  clear LOWx
  have zw1 : Hid (w.heap.size ≤ w1.heap.size) := (bb).size
  clear bb
  have A : Hid (w1.heap[bA]? = some (.cells #[.int .i64 t, .slice va vm vc] 24 (0, 0))) := An.out
  clear An
  obtain ⟨pa0, pa1, -, -⟩ := two_cellsQ A.out
  have hcall := szQueue t X (.slice va vm vc) 1048576 w1 (by omega) (by omega) hl hx (readsSS_below hv LOW.out)
  go_wp2_with fail
  go_at_call 8
  clear hAw1 hBw1
  refine hcall.mono ?_
  rintro r w2 ⟨z, rfl, hz, bc⟩
  clear hcall pa0 pa1
  have LOWx : Hid (Below w.heap.size w w2) := low_stepQ LOW.out bc
  have Ax : Hid (w2.heap[bA]? = some (.cells #[.int .i64 t, .slice va vm vc] 24 (0, 0))) := box_stepQ A.out bc
  clear LOW A
  have LOW : Hid (Below w.heap.size w w2) := LOWx.out
  have A : Hid (w2.heap[bA]? = some (.cells #[.int .i64 t, .slice va vm vc] 24 (0, 0))) := Ax.out
  clear LOWx Ax
  have zw2 : Hid (w1.heap.size ≤ w2.heap.size) := (bc).size
  by_cases h0 : z < 0
  · have hx0 : (decide (z < 0)) = true := by simpa using h0
    clear hz hsp him
    go_wp2
    go_ret
    exact ⟨rfl, LOW.out⟩
  have hx0 : (decide (z < 0)) = false := by simpa using h0
  obtain ⟨hl', hp'⟩ := hz (by omega)
  have htX := tot_big hl' hp'
  obtain ⟨M, hM⟩ : ∃ M : Int, (1 : Int) + tot X = M := ⟨_, rfl⟩
  have hM0 : decide (M < 0) = false := by simp; omega
  have htq := fun W hW => toQueue t X (.slice va vm vc) W hl' hp' hW
  clear hz bc
  obtain ⟨pa0, pa1, -, -⟩ := two_cellsQ A.out
  have hcall := htq w2 (readsSS_below hv LOW.out)
  go_wp2_with fail
  go_at_call 10
  refine hcall.mono ?_
  rintro r w3 ⟨u1, us1, rfl, ou1, ap1, bc⟩
  clear hcall pa0 pa1
  have LOWx : Hid (Below w.heap.size w w3) := low_stepQ LOW.out bc
  have Ax : Hid (w3.heap[bA]? = some (.cells #[.int .i64 t, .slice va vm vc] 24 (0, 0))) := box_stepQ A.out bc
  clear LOW A
  have LOW : Hid (Below w.heap.size w w3) := LOWx.out
  have A : Hid (w3.heap[bA]? = some (.cells #[.int .i64 t, .slice va vm vc] 24 (0, 0))) := Ax.out
  clear LOWx Ax
  have zw3 : Hid (w2.heap.size ≤ w3.heap.size) := (bc).size
  obtain ⟨ua1, um1, uc1, rfl⟩ := own_sliceQ ou1.row
  clear ap1 bc
  have RU1 : Hid _ := ou1.reads
  clear ou1
  have hcall := hsp _ w3 (RU1.out)
  go_wp2_with fail
  go_at_call 21
  refine hcall.mono ?_
  rintro r w4 ⟨u2, us2, rfl, ou2, ap2, bc⟩
  clear hcall
  have LOWx : Hid (Below w.heap.size w w4) := low_stepQ LOW.out bc
  have Ax : Hid (w4.heap[bA]? = some (.cells #[.int .i64 t, .slice va vm vc] 24 (0, 0))) := box_stepQ A.out bc
  clear LOW A
  have LOW : Hid (Below w.heap.size w w4) := LOWx.out
  have A : Hid (w4.heap[bA]? = some (.cells #[.int .i64 t, .slice va vm vc] 24 (0, 0))) := Ax.out
  clear LOWx Ax
  have zw4 : Hid (w3.heap.size ≤ w4.heap.size) := (bc).size
  obtain ⟨ua2, um2, uc2, rfl⟩ := own_sliceQ ou2.row
  clear RU1
  have QS : Hid (QAt w4 w3.heap.size w4.heap.size (.slice ua2 um2 uc2) us2 Y9) := qat_of ou2 ap2
  clear ou2 ap2 bc
  obtain ⟨w5, hAw5⟩ : ∃ W, w4.alloc (.cells #[.int .i64 T9, .slice ua2 um2 uc2] 27) = W := ⟨_, rfl⟩
  have bb : Below w4.heap.size w4 w5 := by rw [← hAw5]; go_grown
  have szS : w4.heap.size < w5.heap.size := by rw [← hAw5]; simp
  obtain ⟨bS, hBw5⟩ : ∃ n, w4.heap.size = n := ⟨_, rfl⟩
  have eS : Hid (w4.heap.size = bS) := hBw5
  have Sn : Hid (w5.heap[bS]? = some (.cells #[.int .i64 T9, .slice ua2 um2 uc2] 27 (0, 0))) := by
    show w5.heap[bS]? = _
    rw [← hAw5, ← hBw5]; exact heap_alloc_new w4 _
  have oS : Hid (bS < w5.heap.size) := by show bS < _; rw [← hBw5]; exact szS
  clear szS
  have LOWx : Hid (Below w.heap.size w w5) := low_stepQ LOW.out bb
  have Ax : Hid (w5.heap[bA]? = some (.cells #[.int .i64 t, .slice va vm vc] 24 (0, 0))) := box_stepQ A.out bb
  have QSx : Hid (QAt w5 w3.heap.size w4.heap.size (.slice ua2 um2 uc2) us2 Y9) := qat_step QS.out bb
  clear LOW A QS
  have LOW : Hid (Below w.heap.size w w5) := LOWx.out
  have A : Hid (w5.heap[bA]? = some (.cells #[.int .i64 t, .slice va vm vc] 24 (0, 0))) := Ax.out
  have QS : Hid (QAt w5 w3.heap.size w4.heap.size (.slice ua2 um2 uc2) us2 Y9) := QSx.out
  clear LOWx Ax QSx
  have zw5 : Hid (w4.heap.size ≤ w5.heap.size) := (bb).size
  clear bb
  have S : Hid (w5.heap[bS]? = some (.cells #[.int .i64 T9, .slice ua2 um2 uc2] 27 (0, 0))) := Sn.out
  clear Sn
  obtain ⟨pa0, pa1, -, -⟩ := two_cellsQ A.out
  have hcall := htq w5 (readsSS_below hv LOW.out)
  go_wp2_with fail
  go_at_call 10
  clear hAw5 hBw5
  refine hcall.mono ?_
  rintro r w6 ⟨u3, us3, rfl, ou3, ap3, bc⟩
  clear hcall pa0 pa1
  have LOWx : Hid (Below w.heap.size w w6) := low_stepQ LOW.out bc
  have Ax : Hid (w6.heap[bA]? = some (.cells #[.int .i64 t, .slice va vm vc] 24 (0, 0))) := box_stepQ A.out bc
  have QSx : Hid (QAt w6 w3.heap.size w4.heap.size (.slice ua2 um2 uc2) us2 Y9) := qat_step QS.out bc
  have Sx : Hid (w6.heap[bS]? = some (.cells #[.int .i64 T9, .slice ua2 um2 uc2] 27 (0, 0))) := box_stepQ S.out bc
  clear LOW A QS S
  have LOW : Hid (Below w.heap.size w w6) := LOWx.out
  have A : Hid (w6.heap[bA]? = some (.cells #[.int .i64 t, .slice va vm vc] 24 (0, 0))) := Ax.out
  have QS : Hid (QAt w6 w3.heap.size w4.heap.size (.slice ua2 um2 uc2) us2 Y9) := QSx.out
  have S : Hid (w6.heap[bS]? = some (.cells #[.int .i64 T9, .slice ua2 um2 uc2] 27 (0, 0))) := Sx.out
  clear LOWx Ax QSx Sx
  have zw6 : Hid (w5.heap.size ≤ w6.heap.size) := (bc).size
  obtain ⟨ua3, um3, uc3, rfl⟩ := own_sliceQ ou3.row
  have QX : Hid (QAt w6 w5.heap.size w6.heap.size (.slice ua3 um3 uc3) us3 X) := qat_of (OwnQ.of_own ou3) ap3
  clear ou3 ap3 bc
  obtain ⟨w7, hAw7⟩ : ∃ W, w6.alloc (.cells #[.int .i64 t, .slice ua3 um3 uc3] 27) = W := ⟨_, rfl⟩
  have bb : Below w6.heap.size w6 w7 := by rw [← hAw7]; go_grown
  have szBX : w6.heap.size < w7.heap.size := by rw [← hAw7]; simp
  obtain ⟨bBX, hBw7⟩ : ∃ n, w6.heap.size = n := ⟨_, rfl⟩
  have eBX : Hid (w6.heap.size = bBX) := hBw7
  have BXn : Hid (w7.heap[bBX]? = some (.cells #[.int .i64 t, .slice ua3 um3 uc3] 27 (0, 0))) := by
    show w7.heap[bBX]? = _
    rw [← hAw7, ← hBw7]; exact heap_alloc_new w6 _
  have oBX : Hid (bBX < w7.heap.size) := by show bBX < _; rw [← hBw7]; exact szBX
  clear szBX
  have LOWx : Hid (Below w.heap.size w w7) := low_stepQ LOW.out bb
  have Ax : Hid (w7.heap[bA]? = some (.cells #[.int .i64 t, .slice va vm vc] 24 (0, 0))) := box_stepQ A.out bb
  have QSx : Hid (QAt w7 w3.heap.size w4.heap.size (.slice ua2 um2 uc2) us2 Y9) := qat_step QS.out bb
  have Sx : Hid (w7.heap[bS]? = some (.cells #[.int .i64 T9, .slice ua2 um2 uc2] 27 (0, 0))) := box_stepQ S.out bb
  have QXx : Hid (QAt w7 w5.heap.size w6.heap.size (.slice ua3 um3 uc3) us3 X) := qat_step QX.out bb
  clear LOW A QS S QX
  have LOW : Hid (Below w.heap.size w w7) := LOWx.out
  have A : Hid (w7.heap[bA]? = some (.cells #[.int .i64 t, .slice va vm vc] 24 (0, 0))) := Ax.out
  have QS : Hid (QAt w7 w3.heap.size w4.heap.size (.slice ua2 um2 uc2) us2 Y9) := QSx.out
  have S : Hid (w7.heap[bS]? = some (.cells #[.int .i64 T9, .slice ua2 um2 uc2] 27 (0, 0))) := Sx.out
  have QX : Hid (QAt w7 w5.heap.size w6.heap.size (.slice ua3 um3 uc3) us3 X) := QXx.out
  clear LOWx Ax QSx Sx QXx
  have zw7 : Hid (w6.heap.size ≤ w7.heap.size) := (bb).size
  clear bb
  have BX : Hid (w7.heap[bBX]? = some (.cells #[.int .i64 t, .slice ua3 um3 uc3] 27 (0, 0))) := BXn.out
  clear BXn
  obtain ⟨px0, px1, -, -⟩ := two_cellsQ BX.out
  have hcall := him _ w7 (QX.out.own.reads)
  go_wp2_with fail
  go_at_call 22
  clear hAw7 hBw7
  refine hcall.mono ?_
  rintro r w8 ⟨u4, us4, rfl, ou4, ap4, bc⟩
  clear hcall px0 px1
  have LOWx : Hid (Below w.heap.size w w8) := low_stepQ LOW.out bc
  have Ax : Hid (w8.heap[bA]? = some (.cells #[.int .i64 t, .slice va vm vc] 24 (0, 0))) := box_stepQ A.out bc
  have QSx : Hid (QAt w8 w3.heap.size w4.heap.size (.slice ua2 um2 uc2) us2 Y9) := qat_step QS.out bc
  have Sx : Hid (w8.heap[bS]? = some (.cells #[.int .i64 T9, .slice ua2 um2 uc2] 27 (0, 0))) := box_stepQ S.out bc
  have QXx : Hid (QAt w8 w5.heap.size w6.heap.size (.slice ua3 um3 uc3) us3 X) := qat_step QX.out bc
  have BXx : Hid (w8.heap[bBX]? = some (.cells #[.int .i64 t, .slice ua3 um3 uc3] 27 (0, 0))) := box_stepQ BX.out bc
  clear LOW A QS S QX BX
  have LOW : Hid (Below w.heap.size w w8) := LOWx.out
  have A : Hid (w8.heap[bA]? = some (.cells #[.int .i64 t, .slice va vm vc] 24 (0, 0))) := Ax.out
  have QS : Hid (QAt w8 w3.heap.size w4.heap.size (.slice ua2 um2 uc2) us2 Y9) := QSx.out
  have S : Hid (w8.heap[bS]? = some (.cells #[.int .i64 T9, .slice ua2 um2 uc2] 27 (0, 0))) := Sx.out
  have QX : Hid (QAt w8 w5.heap.size w6.heap.size (.slice ua3 um3 uc3) us3 X) := QXx.out
  have BX : Hid (w8.heap[bBX]? = some (.cells #[.int .i64 t, .slice ua3 um3 uc3] 27 (0, 0))) := BXx.out
  clear LOWx Ax QSx Sx QXx BXx
  have zw8 : Hid (w7.heap.size ≤ w8.heap.size) := (bc).size
  obtain ⟨ua4, um4, uc4, rfl⟩ := own_sliceQ ou4.row
  have QG : Hid (QAt w8 w7.heap.size w8.heap.size (.slice ua4 um4 uc4) us4 Y9) := qat_of ou4 ap4
  clear ou4 ap4 bc
  obtain ⟨w9, hAw9⟩ : ∃ W, w8.alloc (.cells #[.int .i64 T9, .slice ua4 um4 uc4] 27) = W := ⟨_, rfl⟩
  have bb : Below w8.heap.size w8 w9 := by rw [← hAw9]; go_grown
  have szG : w8.heap.size < w9.heap.size := by rw [← hAw9]; simp
  obtain ⟨bG, hBw9⟩ : ∃ n, w8.heap.size = n := ⟨_, rfl⟩
  have eG : Hid (w8.heap.size = bG) := hBw9
  have Gn : Hid (w9.heap[bG]? = some (.cells #[.int .i64 T9, .slice ua4 um4 uc4] 27 (0, 0))) := by
    show w9.heap[bG]? = _
    rw [← hAw9, ← hBw9]; exact heap_alloc_new w8 _
  have oG : Hid (bG < w9.heap.size) := by show bG < _; rw [← hBw9]; exact szG
  clear szG
  have LOWx : Hid (Below w.heap.size w w9) := low_stepQ LOW.out bb
  have Ax : Hid (w9.heap[bA]? = some (.cells #[.int .i64 t, .slice va vm vc] 24 (0, 0))) := box_stepQ A.out bb
  have QSx : Hid (QAt w9 w3.heap.size w4.heap.size (.slice ua2 um2 uc2) us2 Y9) := qat_step QS.out bb
  have Sx : Hid (w9.heap[bS]? = some (.cells #[.int .i64 T9, .slice ua2 um2 uc2] 27 (0, 0))) := box_stepQ S.out bb
  have QXx : Hid (QAt w9 w5.heap.size w6.heap.size (.slice ua3 um3 uc3) us3 X) := qat_step QX.out bb
  have BXx : Hid (w9.heap[bBX]? = some (.cells #[.int .i64 t, .slice ua3 um3 uc3] 27 (0, 0))) := box_stepQ BX.out bb
  have QGx : Hid (QAt w9 w7.heap.size w8.heap.size (.slice ua4 um4 uc4) us4 Y9) := qat_step QG.out bb
  clear LOW A QS S QX BX QG
  have LOW : Hid (Below w.heap.size w w9) := LOWx.out
  have A : Hid (w9.heap[bA]? = some (.cells #[.int .i64 t, .slice va vm vc] 24 (0, 0))) := Ax.out
  have QS : Hid (QAt w9 w3.heap.size w4.heap.size (.slice ua2 um2 uc2) us2 Y9) := QSx.out
  have S : Hid (w9.heap[bS]? = some (.cells #[.int .i64 T9, .slice ua2 um2 uc2] 27 (0, 0))) := Sx.out
  have QX : Hid (QAt w9 w5.heap.size w6.heap.size (.slice ua3 um3 uc3) us3 X) := QXx.out
  have BX : Hid (w9.heap[bBX]? = some (.cells #[.int .i64 t, .slice ua3 um3 uc3] 27 (0, 0))) := BXx.out
  have QG : Hid (QAt w9 w7.heap.size w8.heap.size (.slice ua4 um4 uc4) us4 Y9) := QGx.out
  clear LOWx Ax QSx Sx QXx BXx QGx
  have zw9 : Hid (w8.heap.size ≤ w9.heap.size) := (bb).size
  clear bb
  have G : Hid (w9.heap[bG]? = some (.cells #[.int .i64 T9, .slice ua4 um4 uc4] 27 (0, 0))) := Gn.out
  clear Gn
  obtain ⟨pg0, pg1, -, -⟩ := two_cellsQ G.out
  obtain ⟨ps0, ps1, -, -⟩ := two_cellsQ S.out
  have hcall := eqQueue T9 Y9 (.slice ua4 um4 uc4) (.slice ua2 um2 uc2) w9 hlY hxY QG.out.own.reads QS.out.own.reads
  go_wp2_with fail
  go_at_call 12
  clear hAw9 hBw9
  refine hcall.mono ?_
  rintro r w10 ⟨rfl, bc⟩
  clear hcall pg0 pg1 ps0 ps1
  have LOWx : Hid (Below w.heap.size w w10) := low_stepQ LOW.out bc
  have Ax : Hid (w10.heap[bA]? = some (.cells #[.int .i64 t, .slice va vm vc] 24 (0, 0))) := box_stepQ A.out bc
  have QSx : Hid (QAt w10 w3.heap.size w4.heap.size (.slice ua2 um2 uc2) us2 Y9) := qat_step QS.out bc
  have Sx : Hid (w10.heap[bS]? = some (.cells #[.int .i64 T9, .slice ua2 um2 uc2] 27 (0, 0))) := box_stepQ S.out bc
  have QXx : Hid (QAt w10 w5.heap.size w6.heap.size (.slice ua3 um3 uc3) us3 X) := qat_step QX.out bc
  have BXx : Hid (w10.heap[bBX]? = some (.cells #[.int .i64 t, .slice ua3 um3 uc3] 27 (0, 0))) := box_stepQ BX.out bc
  have QGx : Hid (QAt w10 w7.heap.size w8.heap.size (.slice ua4 um4 uc4) us4 Y9) := qat_step QG.out bc
  have Gx : Hid (w10.heap[bG]? = some (.cells #[.int .i64 T9, .slice ua4 um4 uc4] 27 (0, 0))) := box_stepQ G.out bc
  clear LOW A QS S QX BX QG G
  have LOW : Hid (Below w.heap.size w w10) := LOWx.out
  have A : Hid (w10.heap[bA]? = some (.cells #[.int .i64 t, .slice va vm vc] 24 (0, 0))) := Ax.out
  have QS : Hid (QAt w10 w3.heap.size w4.heap.size (.slice ua2 um2 uc2) us2 Y9) := QSx.out
  have S : Hid (w10.heap[bS]? = some (.cells #[.int .i64 T9, .slice ua2 um2 uc2] 27 (0, 0))) := Sx.out
  have QX : Hid (QAt w10 w5.heap.size w6.heap.size (.slice ua3 um3 uc3) us3 X) := QXx.out
  have BX : Hid (w10.heap[bBX]? = some (.cells #[.int .i64 t, .slice ua3 um3 uc3] 27 (0, 0))) := BXx.out
  have QG : Hid (QAt w10 w7.heap.size w8.heap.size (.slice ua4 um4 uc4) us4 Y9) := QGx.out
  have G : Hid (w10.heap[bG]? = some (.cells #[.int .i64 T9, .slice ua4 um4 uc4] 27 (0, 0))) := Gx.out
  clear LOWx Ax QSx Sx QXx BXx QGx Gx
  have zw10 : Hid (w9.heap.size ≤ w10.heap.size) := (bc).size
  clear bc
  obtain ⟨pa0, pa1, -, -⟩ := two_cellsQ A.out
  obtain ⟨px0, px1, -, -⟩ := two_cellsQ BX.out
  have lA9 : bA < w10.heap.size := (Array.getElem?_eq_some_iff.1 A.out).1
  have lX9 : bBX < w10.heap.size := (Array.getElem?_eq_some_iff.1 BX.out).1
  go_wp2_with fail
  refine wp_region_held_drew (S := fun w' => (w'.cell? ⟨bA, 0, none⟩ = some (.int .i64 t) ∧ w'.cell? ⟨bA, 1, none⟩ = some (.slice va vm vc)) ∧ (w'.cell? ⟨bBX, 0, none⟩ = some (.int .i64 t) ∧ w'.cell? ⟨bBX, 1, none⟩ = some (.slice ua3 um3 uc3))) (by kernel_rfl) ⟨⟨pa0, pa1⟩, px0, px1⟩ (fun hHeld => ?_)
  refine wpAnyH_take (i := 0) (oi := ?oidr0) (v := .agg #[.int .i64 t, .slice ua3 um3 uc3]) ?hidr0 (by kernel_rfl) (by kernel_rfl) (by kernel_rfl) ?hqdr0 ?hydr0 hHeld ?hrdr0
  case hidr0 =>
    simp only [List.getElem?_toArray, List.getElem?_cons_succ, List.getElem?_cons_zero]
    rfl
  case hqdr0 => exact fun _ _ _ h => h
  case hydr0 => exact Or.inl ⟨by kernel_rfl, fun w hSw => by obtain ⟨⟨s0, s1⟩, s2, s3⟩ := hSw; go_simp⟩
  try simp only [Act.put, List.setIfInBounds_toArray, List.set_cons_zero, List.set_cons_succ]
  refine wpAnyH_take (i := 1) (oi := ?oidr1) (v := .agg #[.int .i64 t, .slice va vm vc]) ?hidr1 (by kernel_rfl) (by kernel_rfl) (by kernel_rfl) ?hqdr1 ?hydr1 hHeld ?hrdr1
  case hidr1 =>
    simp only [List.getElem?_toArray, List.getElem?_cons_succ, List.getElem?_cons_zero]
    rfl
  case hqdr1 => exact fun _ _ _ h => h
  case hydr1 => exact Or.inl ⟨by kernel_rfl, fun w hSw => by obtain ⟨⟨s0, s1⟩, s2, s3⟩ := hSw; go_simp⟩
  try simp only [Act.put, List.setIfInBounds_toArray, List.set_cons_zero, List.set_cons_succ]
  refine wpAnyH_ready (rs := [2]) (by kernel_rfl) (by simp) ?_
  refine (AllReadyH.cons (o := ?oodr2) ?hodr2 (fun K hK => ?hkdr2) AllReadyH.nil)
  case hodr2 =>
    simp only [List.getElem?_toArray, List.getElem?_cons_succ, List.getElem?_cons_zero]
    rfl
  case hkdr2 =>
    go_simp
    go_at_call 10
    refine (htq _ (readsSS_below hv LOW.out.drew)).mono ?_
    rintro r w11a ⟨y, ys, rfl, oy, _, b12⟩
    have B12 : Hid (Below w10.heap.size w10 w11a) := Below.trans (Below.drew (Below.refl _ _)) b12
    have OY : Hid _ := oy.reads
    clear oy b12
    try go_wp2_with fail
    refine hK.out _ _ ⟨⟨(B12.out.cell lA9).trans pa0, (B12.out.cell lA9).trans pa1⟩, (B12.out.cell lX9).trans px0, (B12.out.cell lX9).trans px1⟩ (fun hHeld => ?_)
    clear hK K
    try simp only [Act.put, List.setIfInBounds_toArray, List.set_cons_zero, List.set_cons_succ]
    refine wpAnyH_ready (rs := [3]) (by kernel_rfl) (by simp) ?_
    refine (AllReadyH.cons (o := ?oodr3) ?hodr3 (fun K hK => ?hkdr3) AllReadyH.nil)
    case hodr3 =>
      simp only [List.getElem?_toArray, List.getElem?_cons_succ, List.getElem?_cons_zero]
      rfl
    case hkdr3 =>
      go_simp
      go_at_call 12
      refine (eqQueue t X _ _ w11a hl hx (readsSS_below (QX.out.own.reads) B12.out) OY.out).mono ?_
      rintro r w11 ⟨rfl, b13⟩
      have B13 : Hid (Below w10.heap.size w10 w11) := B12.out.trans (b13.mono B12.out.size)
      try go_wp2_with fail
      refine hK.out _ _ ⟨⟨(B13.out.cell lA9).trans pa0, (B13.out.cell lA9).trans pa1⟩, (B13.out.cell lX9).trans px0, (B13.out.cell lX9).trans px1⟩ (fun hHeld => ?_)
      clear hK K
      try simp only [Act.put, List.setIfInBounds_toArray, List.set_cons_zero, List.set_cons_succ]
      refine wpAnyH_take (i := 4) (oi := ?oidr4) (v := .bool false) ?hidr4 (by kernel_rfl) (by kernel_rfl) (by kernel_rfl) ?hqdr4 ?hydr4 hHeld ?hrdr4
      case hidr4 =>
        simp only [List.getElem?_toArray, List.getElem?_cons_succ, List.getElem?_cons_zero]
        rfl
      case hqdr4 => exact fun _ _ _ h => h
      case hydr4 => exact Or.inl ⟨by kernel_rfl, fun w hSw => by go_simp⟩
      try simp only [Act.put, List.setIfInBounds_toArray, List.set_cons_zero, List.set_cons_succ]
      refine wpAnyH_done (by kernel_rfl) ?_ _
      clear b13 B12 OY lA9 lX9 pa0 pa1 px0 px1
      have LOWx : Hid (Below w.heap.size w w11) := low_stepQ LOW.out B13.out
      have Ax : Hid (w11.heap[bA]? = some (.cells #[.int .i64 t, .slice va vm vc] 24 (0, 0))) := box_stepQ A.out B13.out
      have QSx : Hid (QAt w11 w3.heap.size w4.heap.size (.slice ua2 um2 uc2) us2 Y9) := qat_step QS.out B13.out
      have Sx : Hid (w11.heap[bS]? = some (.cells #[.int .i64 T9, .slice ua2 um2 uc2] 27 (0, 0))) := box_stepQ S.out B13.out
      have QXx : Hid (QAt w11 w5.heap.size w6.heap.size (.slice ua3 um3 uc3) us3 X) := qat_step QX.out B13.out
      have BXx : Hid (w11.heap[bBX]? = some (.cells #[.int .i64 t, .slice ua3 um3 uc3] 27 (0, 0))) := box_stepQ BX.out B13.out
      have QGx : Hid (QAt w11 w7.heap.size w8.heap.size (.slice ua4 um4 uc4) us4 Y9) := qat_step QG.out B13.out
      have Gx : Hid (w11.heap[bG]? = some (.cells #[.int .i64 T9, .slice ua4 um4 uc4] 27 (0, 0))) := box_stepQ G.out B13.out
      clear LOW A QS S QX BX QG G
      have LOW : Hid (Below w.heap.size w w11) := LOWx.out
      have A : Hid (w11.heap[bA]? = some (.cells #[.int .i64 t, .slice va vm vc] 24 (0, 0))) := Ax.out
      have QS : Hid (QAt w11 w3.heap.size w4.heap.size (.slice ua2 um2 uc2) us2 Y9) := QSx.out
      have S : Hid (w11.heap[bS]? = some (.cells #[.int .i64 T9, .slice ua2 um2 uc2] 27 (0, 0))) := Sx.out
      have QX : Hid (QAt w11 w5.heap.size w6.heap.size (.slice ua3 um3 uc3) us3 X) := QXx.out
      have BX : Hid (w11.heap[bBX]? = some (.cells #[.int .i64 t, .slice ua3 um3 uc3] 27 (0, 0))) := BXx.out
      have QG : Hid (QAt w11 w7.heap.size w8.heap.size (.slice ua4 um4 uc4) us4 Y9) := QGx.out
      have G : Hid (w11.heap[bG]? = some (.cells #[.int .i64 T9, .slice ua4 um4 uc4] 27 (0, 0))) := Gx.out
      clear LOWx Ax QSx Sx QXx BXx QGx Gx
      have zw11 : Hid (w10.heap.size ≤ w11.heap.size) := (B13.out).size
      clear B13
      obtain ⟨px0, px1, -, -⟩ := two_cellsQ BX.out
      have hcall := markQueue t X (.slice ua3 um3 uc3) us3 w5.heap.size w6.heap.size 1 w11 (by omega) hl' htX (by have n0 := zw1.out; have n1 := eA.out; have n2 := oA.out; have n3 := zw2.out; have n4 := zw3.out; have n5 := zw4.out; have n6 := zw5.out; have n7 := eS.out; have n8 := oS.out; have n9 := zw6.out; have n10 := zw7.out; have n11 := eBX.out; have n12 := oBX.out; have n13 := zw8.out; have n14 := zw9.out; have n15 := eG.out; have n16 := oG.out; have n17 := zw10.out; have n18 := zw11.out; omega) QX.out.own QX.out.apart QX.out.tu
      go_wp2_with fail
      go_at_call 17
      refine hcall.mono ?_
      rintro r w12 ⟨rfl, m1, m2, m3, m4⟩
      clear hcall px0 px1
      have LOWx : Hid (Below w.heap.size w w12) := LOW.out.trans (m3.mono (by have n0 := zw1.out; have n1 := eA.out; have n2 := oA.out; have n3 := zw2.out; have n4 := zw3.out; have n5 := zw4.out; have n6 := zw5.out; have n7 := eS.out; have n8 := oS.out; have n9 := zw6.out; have n10 := zw7.out; have n11 := eBX.out; have n12 := oBX.out; have n13 := zw8.out; have n14 := zw9.out; have n15 := eG.out; have n16 := oG.out; have n17 := zw10.out; have n18 := zw11.out; omega))
      have Ax : Hid (w12.heap[bA]? = some (.cells #[.int .i64 t, .slice va vm vc] 24 (0, 0))) := box_lowQ A.out m3 (by have n0 := zw1.out; have n1 := eA.out; have n2 := oA.out; have n3 := zw2.out; have n4 := zw3.out; have n5 := zw4.out; have n6 := zw5.out; have n7 := eS.out; have n8 := oS.out; have n9 := zw6.out; have n10 := zw7.out; have n11 := eBX.out; have n12 := oBX.out; have n13 := zw8.out; have n14 := zw9.out; have n15 := eG.out; have n16 := oG.out; have n17 := zw10.out; have n18 := zw11.out; omega)
      have QSx : Hid (QAt w12 w3.heap.size w4.heap.size (.slice ua2 um2 uc2) us2 Y9) := qat_low QS.out m3 (by have n0 := zw1.out; have n1 := eA.out; have n2 := oA.out; have n3 := zw2.out; have n4 := zw3.out; have n5 := zw4.out; have n6 := zw5.out; have n7 := eS.out; have n8 := oS.out; have n9 := zw6.out; have n10 := zw7.out; have n11 := eBX.out; have n12 := oBX.out; have n13 := zw8.out; have n14 := zw9.out; have n15 := eG.out; have n16 := oG.out; have n17 := zw10.out; have n18 := zw11.out; omega)
      have Sx : Hid (w12.heap[bS]? = some (.cells #[.int .i64 T9, .slice ua2 um2 uc2] 27 (0, 0))) := box_lowQ S.out m3 (by have n0 := zw1.out; have n1 := eA.out; have n2 := oA.out; have n3 := zw2.out; have n4 := zw3.out; have n5 := zw4.out; have n6 := zw5.out; have n7 := eS.out; have n8 := oS.out; have n9 := zw6.out; have n10 := zw7.out; have n11 := eBX.out; have n12 := oBX.out; have n13 := zw8.out; have n14 := zw9.out; have n15 := eG.out; have n16 := oG.out; have n17 := zw10.out; have n18 := zw11.out; omega)
      have BXx : Hid (w12.heap[bBX]? = some (.cells #[.int .i64 t, .slice ua3 um3 uc3] 27 (0, 0))) := box_highQ BX.out m4 (by have n0 := zw1.out; have n1 := eA.out; have n2 := oA.out; have n3 := zw2.out; have n4 := zw3.out; have n5 := zw4.out; have n6 := zw5.out; have n7 := eS.out; have n8 := oS.out; have n9 := zw6.out; have n10 := zw7.out; have n11 := eBX.out; have n12 := oBX.out; have n13 := zw8.out; have n14 := zw9.out; have n15 := eG.out; have n16 := oG.out; have n17 := zw10.out; have n18 := zw11.out; omega)
      have QGx : Hid (QAt w12 w7.heap.size w8.heap.size (.slice ua4 um4 uc4) us4 Y9) := qat_high QG.out m4 (by have n0 := zw1.out; have n1 := eA.out; have n2 := oA.out; have n3 := zw2.out; have n4 := zw3.out; have n5 := zw4.out; have n6 := zw5.out; have n7 := eS.out; have n8 := oS.out; have n9 := zw6.out; have n10 := zw7.out; have n11 := eBX.out; have n12 := oBX.out; have n13 := zw8.out; have n14 := zw9.out; have n15 := eG.out; have n16 := oG.out; have n17 := zw10.out; have n18 := zw11.out; omega)
      have Gx : Hid (w12.heap[bG]? = some (.cells #[.int .i64 T9, .slice ua4 um4 uc4] 27 (0, 0))) := box_highQ G.out m4 (by have n0 := zw1.out; have n1 := eA.out; have n2 := oA.out; have n3 := zw2.out; have n4 := zw3.out; have n5 := zw4.out; have n6 := zw5.out; have n7 := eS.out; have n8 := oS.out; have n9 := zw6.out; have n10 := zw7.out; have n11 := eBX.out; have n12 := oBX.out; have n13 := zw8.out; have n14 := zw9.out; have n15 := eG.out; have n16 := oG.out; have n17 := zw10.out; have n18 := zw11.out; omega)
      clear LOW A QS S QX BX QG G
      have LOW : Hid (Below w.heap.size w w12) := LOWx.out
      have A : Hid (w12.heap[bA]? = some (.cells #[.int .i64 t, .slice va vm vc] 24 (0, 0))) := Ax.out
      have QS : Hid (QAt w12 w3.heap.size w4.heap.size (.slice ua2 um2 uc2) us2 Y9) := QSx.out
      have S : Hid (w12.heap[bS]? = some (.cells #[.int .i64 T9, .slice ua2 um2 uc2] 27 (0, 0))) := Sx.out
      have BX : Hid (w12.heap[bBX]? = some (.cells #[.int .i64 t, .slice ua3 um3 uc3] 27 (0, 0))) := BXx.out
      have QG : Hid (QAt w12 w7.heap.size w8.heap.size (.slice ua4 um4 uc4) us4 Y9) := QGx.out
      have G : Hid (w12.heap[bG]? = some (.cells #[.int .i64 T9, .slice ua4 um4 uc4] 27 (0, 0))) := Gx.out
      clear LOWx Ax QSx Sx BXx QGx Gx
      have zw12 : Hid (w11.heap.size ≤ w12.heap.size) := m4.1
      clear m1 m2 m3 m4
      rw [hM]
      obtain ⟨pg0, pg1, -, -⟩ := two_cellsQ G.out
      obtain ⟨ps0, ps1, -, -⟩ := two_cellsQ S.out
      have hcall := eqQueue T9 Y9 (.slice ua4 um4 uc4) (.slice ua2 um2 uc2) w12 hlY hxY QG.out.own.reads QS.out.own.reads
      go_wp2_with fail
      go_at_call 12
      refine hcall.mono ?_
      rintro r w13 ⟨rfl, bc⟩
      clear hcall pg0 pg1 ps0 ps1
      have LOWx : Hid (Below w.heap.size w w13) := low_stepQ LOW.out bc
      have Ax : Hid (w13.heap[bA]? = some (.cells #[.int .i64 t, .slice va vm vc] 24 (0, 0))) := box_stepQ A.out bc
      have QSx : Hid (QAt w13 w3.heap.size w4.heap.size (.slice ua2 um2 uc2) us2 Y9) := qat_step QS.out bc
      have Sx : Hid (w13.heap[bS]? = some (.cells #[.int .i64 T9, .slice ua2 um2 uc2] 27 (0, 0))) := box_stepQ S.out bc
      have BXx : Hid (w13.heap[bBX]? = some (.cells #[.int .i64 t, .slice ua3 um3 uc3] 27 (0, 0))) := box_stepQ BX.out bc
      have QGx : Hid (QAt w13 w7.heap.size w8.heap.size (.slice ua4 um4 uc4) us4 Y9) := qat_step QG.out bc
      have Gx : Hid (w13.heap[bG]? = some (.cells #[.int .i64 T9, .slice ua4 um4 uc4] 27 (0, 0))) := box_stepQ G.out bc
      clear LOW A QS S BX QG G
      have LOW : Hid (Below w.heap.size w w13) := LOWx.out
      have A : Hid (w13.heap[bA]? = some (.cells #[.int .i64 t, .slice va vm vc] 24 (0, 0))) := Ax.out
      have QS : Hid (QAt w13 w3.heap.size w4.heap.size (.slice ua2 um2 uc2) us2 Y9) := QSx.out
      have S : Hid (w13.heap[bS]? = some (.cells #[.int .i64 T9, .slice ua2 um2 uc2] 27 (0, 0))) := Sx.out
      have BX : Hid (w13.heap[bBX]? = some (.cells #[.int .i64 t, .slice ua3 um3 uc3] 27 (0, 0))) := BXx.out
      have QG : Hid (QAt w13 w7.heap.size w8.heap.size (.slice ua4 um4 uc4) us4 Y9) := QGx.out
      have G : Hid (w13.heap[bG]? = some (.cells #[.int .i64 T9, .slice ua4 um4 uc4] 27 (0, 0))) := Gx.out
      clear LOWx Ax QSx Sx BXx QGx Gx
      have zw13 : Hid (w12.heap.size ≤ w13.heap.size) := (bc).size
      clear bc
      obtain ⟨pg0, pg1, -, -⟩ := two_cellsQ G.out
      have hcall := markQueue T9 Y9 (.slice ua4 um4 uc4) us4 w7.heap.size w8.heap.size 1 w13 (by omega) hl9 (by omega) (by have n0 := zw1.out; have n1 := eA.out; have n2 := oA.out; have n3 := zw2.out; have n4 := zw3.out; have n5 := zw4.out; have n6 := zw5.out; have n7 := eS.out; have n8 := oS.out; have n9 := zw6.out; have n10 := zw7.out; have n11 := eBX.out; have n12 := oBX.out; have n13 := zw8.out; have n14 := zw9.out; have n15 := eG.out; have n16 := oG.out; have n17 := zw10.out; have n18 := zw11.out; have n19 := zw12.out; have n20 := zw13.out; omega) QG.out.own QG.out.apart QG.out.tu
      go_wp2_with fail
      go_at_call 17
      refine hcall.mono ?_
      rintro r w14 ⟨rfl, m1, m2, m3, m4⟩
      clear hcall pg0 pg1
      have LOWx : Hid (Below w.heap.size w w14) := LOW.out.trans (m3.mono (by have n0 := zw1.out; have n1 := eA.out; have n2 := oA.out; have n3 := zw2.out; have n4 := zw3.out; have n5 := zw4.out; have n6 := zw5.out; have n7 := eS.out; have n8 := oS.out; have n9 := zw6.out; have n10 := zw7.out; have n11 := eBX.out; have n12 := oBX.out; have n13 := zw8.out; have n14 := zw9.out; have n15 := eG.out; have n16 := oG.out; have n17 := zw10.out; have n18 := zw11.out; have n19 := zw12.out; have n20 := zw13.out; omega))
      have Ax : Hid (w14.heap[bA]? = some (.cells #[.int .i64 t, .slice va vm vc] 24 (0, 0))) := box_lowQ A.out m3 (by have n0 := zw1.out; have n1 := eA.out; have n2 := oA.out; have n3 := zw2.out; have n4 := zw3.out; have n5 := zw4.out; have n6 := zw5.out; have n7 := eS.out; have n8 := oS.out; have n9 := zw6.out; have n10 := zw7.out; have n11 := eBX.out; have n12 := oBX.out; have n13 := zw8.out; have n14 := zw9.out; have n15 := eG.out; have n16 := oG.out; have n17 := zw10.out; have n18 := zw11.out; have n19 := zw12.out; have n20 := zw13.out; omega)
      have QSx : Hid (QAt w14 w3.heap.size w4.heap.size (.slice ua2 um2 uc2) us2 Y9) := qat_low QS.out m3 (by have n0 := zw1.out; have n1 := eA.out; have n2 := oA.out; have n3 := zw2.out; have n4 := zw3.out; have n5 := zw4.out; have n6 := zw5.out; have n7 := eS.out; have n8 := oS.out; have n9 := zw6.out; have n10 := zw7.out; have n11 := eBX.out; have n12 := oBX.out; have n13 := zw8.out; have n14 := zw9.out; have n15 := eG.out; have n16 := oG.out; have n17 := zw10.out; have n18 := zw11.out; have n19 := zw12.out; have n20 := zw13.out; omega)
      have Sx : Hid (w14.heap[bS]? = some (.cells #[.int .i64 T9, .slice ua2 um2 uc2] 27 (0, 0))) := box_lowQ S.out m3 (by have n0 := zw1.out; have n1 := eA.out; have n2 := oA.out; have n3 := zw2.out; have n4 := zw3.out; have n5 := zw4.out; have n6 := zw5.out; have n7 := eS.out; have n8 := oS.out; have n9 := zw6.out; have n10 := zw7.out; have n11 := eBX.out; have n12 := oBX.out; have n13 := zw8.out; have n14 := zw9.out; have n15 := eG.out; have n16 := oG.out; have n17 := zw10.out; have n18 := zw11.out; have n19 := zw12.out; have n20 := zw13.out; omega)
      have BXx : Hid (w14.heap[bBX]? = some (.cells #[.int .i64 t, .slice ua3 um3 uc3] 27 (0, 0))) := box_lowQ BX.out m3 (by have n0 := zw1.out; have n1 := eA.out; have n2 := oA.out; have n3 := zw2.out; have n4 := zw3.out; have n5 := zw4.out; have n6 := zw5.out; have n7 := eS.out; have n8 := oS.out; have n9 := zw6.out; have n10 := zw7.out; have n11 := eBX.out; have n12 := oBX.out; have n13 := zw8.out; have n14 := zw9.out; have n15 := eG.out; have n16 := oG.out; have n17 := zw10.out; have n18 := zw11.out; have n19 := zw12.out; have n20 := zw13.out; omega)
      have Gx : Hid (w14.heap[bG]? = some (.cells #[.int .i64 T9, .slice ua4 um4 uc4] 27 (0, 0))) := box_highQ G.out m4 (by have n0 := zw1.out; have n1 := eA.out; have n2 := oA.out; have n3 := zw2.out; have n4 := zw3.out; have n5 := zw4.out; have n6 := zw5.out; have n7 := eS.out; have n8 := oS.out; have n9 := zw6.out; have n10 := zw7.out; have n11 := eBX.out; have n12 := oBX.out; have n13 := zw8.out; have n14 := zw9.out; have n15 := eG.out; have n16 := oG.out; have n17 := zw10.out; have n18 := zw11.out; have n19 := zw12.out; have n20 := zw13.out; omega)
      clear LOW A QS S BX QG G
      have LOW : Hid (Below w.heap.size w w14) := LOWx.out
      have A : Hid (w14.heap[bA]? = some (.cells #[.int .i64 t, .slice va vm vc] 24 (0, 0))) := Ax.out
      have QS : Hid (QAt w14 w3.heap.size w4.heap.size (.slice ua2 um2 uc2) us2 Y9) := QSx.out
      have S : Hid (w14.heap[bS]? = some (.cells #[.int .i64 T9, .slice ua2 um2 uc2] 27 (0, 0))) := Sx.out
      have BX : Hid (w14.heap[bBX]? = some (.cells #[.int .i64 t, .slice ua3 um3 uc3] 27 (0, 0))) := BXx.out
      have G : Hid (w14.heap[bG]? = some (.cells #[.int .i64 T9, .slice ua4 um4 uc4] 27 (0, 0))) := Gx.out
      clear LOWx Ax QSx Sx BXx Gx
      have MG : Hid (MAt w14 w7.heap.size (.slice ua4 um4 uc4) us4 Y9) := ⟨m1, m2⟩
      have zw14 : Hid (w13.heap.size ≤ w14.heap.size) := m4.1
      clear m1 m2 m3 m4
      rw [hN]
      obtain ⟨pg0, pg1, -, -⟩ := two_cellsQ G.out
      have hheld := heldQueue T9 Y9 (.slice ua4 um4 uc4) us4 w7.heap.size 1 w14 (by omega) hl9 ht1 MG.out.1 MG.out.2
      rw [hN] at hheld
      have hcall := hheld
      go_wp2_with fail
      go_at_call 18
      refine hcall.mono ?_
      rintro r w15 ⟨rfl, bc⟩
      clear hcall pg0 pg1
      have LOWx : Hid (Below w.heap.size w w15) := low_stepQ LOW.out bc
      have Ax : Hid (w15.heap[bA]? = some (.cells #[.int .i64 t, .slice va vm vc] 24 (0, 0))) := box_stepQ A.out bc
      have QSx : Hid (QAt w15 w3.heap.size w4.heap.size (.slice ua2 um2 uc2) us2 Y9) := qat_step QS.out bc
      have Sx : Hid (w15.heap[bS]? = some (.cells #[.int .i64 T9, .slice ua2 um2 uc2] 27 (0, 0))) := box_stepQ S.out bc
      have BXx : Hid (w15.heap[bBX]? = some (.cells #[.int .i64 t, .slice ua3 um3 uc3] 27 (0, 0))) := box_stepQ BX.out bc
      have Gx : Hid (w15.heap[bG]? = some (.cells #[.int .i64 T9, .slice ua4 um4 uc4] 27 (0, 0))) := box_stepQ G.out bc
      have MGx : Hid (MAt w15 w7.heap.size (.slice ua4 um4 uc4) us4 Y9) := mat_step MG.out bc
      clear LOW A QS S BX G MG
      have LOW : Hid (Below w.heap.size w w15) := LOWx.out
      have A : Hid (w15.heap[bA]? = some (.cells #[.int .i64 t, .slice va vm vc] 24 (0, 0))) := Ax.out
      have QS : Hid (QAt w15 w3.heap.size w4.heap.size (.slice ua2 um2 uc2) us2 Y9) := QSx.out
      have S : Hid (w15.heap[bS]? = some (.cells #[.int .i64 T9, .slice ua2 um2 uc2] 27 (0, 0))) := Sx.out
      have BX : Hid (w15.heap[bBX]? = some (.cells #[.int .i64 t, .slice ua3 um3 uc3] 27 (0, 0))) := BXx.out
      have G : Hid (w15.heap[bG]? = some (.cells #[.int .i64 T9, .slice ua4 um4 uc4] 27 (0, 0))) := Gx.out
      have MG : Hid (MAt w15 w7.heap.size (.slice ua4 um4 uc4) us4 Y9) := MGx.out
      clear LOWx Ax QSx Sx BXx Gx MGx
      have zw15 : Hid (w14.heap.size ≤ w15.heap.size) := (bc).size
      clear hheld bc
      obtain ⟨pa0, pa1, -, -⟩ := two_cellsQ A.out
      have hcall := htq w15 (readsSS_below hv LOW.out)
      go_wp2_with fail
      go_at_call 10
      refine hcall.mono ?_
      rintro r w16 ⟨u5, us5, rfl, ou5, ap5, bc⟩
      clear hcall pa0 pa1
      have LOWx : Hid (Below w.heap.size w w16) := low_stepQ LOW.out bc
      have Ax : Hid (w16.heap[bA]? = some (.cells #[.int .i64 t, .slice va vm vc] 24 (0, 0))) := box_stepQ A.out bc
      have QSx : Hid (QAt w16 w3.heap.size w4.heap.size (.slice ua2 um2 uc2) us2 Y9) := qat_step QS.out bc
      have Sx : Hid (w16.heap[bS]? = some (.cells #[.int .i64 T9, .slice ua2 um2 uc2] 27 (0, 0))) := box_stepQ S.out bc
      have BXx : Hid (w16.heap[bBX]? = some (.cells #[.int .i64 t, .slice ua3 um3 uc3] 27 (0, 0))) := box_stepQ BX.out bc
      have Gx : Hid (w16.heap[bG]? = some (.cells #[.int .i64 T9, .slice ua4 um4 uc4] 27 (0, 0))) := box_stepQ G.out bc
      have MGx : Hid (MAt w16 w7.heap.size (.slice ua4 um4 uc4) us4 Y9) := mat_step MG.out bc
      clear LOW A QS S BX G MG
      have LOW : Hid (Below w.heap.size w w16) := LOWx.out
      have A : Hid (w16.heap[bA]? = some (.cells #[.int .i64 t, .slice va vm vc] 24 (0, 0))) := Ax.out
      have QS : Hid (QAt w16 w3.heap.size w4.heap.size (.slice ua2 um2 uc2) us2 Y9) := QSx.out
      have S : Hid (w16.heap[bS]? = some (.cells #[.int .i64 T9, .slice ua2 um2 uc2] 27 (0, 0))) := Sx.out
      have BX : Hid (w16.heap[bBX]? = some (.cells #[.int .i64 t, .slice ua3 um3 uc3] 27 (0, 0))) := BXx.out
      have G : Hid (w16.heap[bG]? = some (.cells #[.int .i64 T9, .slice ua4 um4 uc4] 27 (0, 0))) := Gx.out
      have MG : Hid (MAt w16 w7.heap.size (.slice ua4 um4 uc4) us4 Y9) := MGx.out
      clear LOWx Ax QSx Sx BXx Gx MGx
      have zw16 : Hid (w15.heap.size ≤ w16.heap.size) := (bc).size
      obtain ⟨ua5, um5, uc5, rfl⟩ := own_sliceQ ou5.row
      have RU5 : Hid _ := ou5.reads
      clear ou5 ap5 bc
      have hcall := him _ w16 (RU5.out)
      go_wp2_with fail
      go_at_call 22
      refine hcall.mono ?_
      rintro r w17 ⟨u6, us6, rfl, ou6, ap6, bc⟩
      clear hcall
      have LOWx : Hid (Below w.heap.size w w17) := low_stepQ LOW.out bc
      have Ax : Hid (w17.heap[bA]? = some (.cells #[.int .i64 t, .slice va vm vc] 24 (0, 0))) := box_stepQ A.out bc
      have QSx : Hid (QAt w17 w3.heap.size w4.heap.size (.slice ua2 um2 uc2) us2 Y9) := qat_step QS.out bc
      have Sx : Hid (w17.heap[bS]? = some (.cells #[.int .i64 T9, .slice ua2 um2 uc2] 27 (0, 0))) := box_stepQ S.out bc
      have BXx : Hid (w17.heap[bBX]? = some (.cells #[.int .i64 t, .slice ua3 um3 uc3] 27 (0, 0))) := box_stepQ BX.out bc
      have Gx : Hid (w17.heap[bG]? = some (.cells #[.int .i64 T9, .slice ua4 um4 uc4] 27 (0, 0))) := box_stepQ G.out bc
      have MGx : Hid (MAt w17 w7.heap.size (.slice ua4 um4 uc4) us4 Y9) := mat_step MG.out bc
      clear LOW A QS S BX G MG
      have LOW : Hid (Below w.heap.size w w17) := LOWx.out
      have A : Hid (w17.heap[bA]? = some (.cells #[.int .i64 t, .slice va vm vc] 24 (0, 0))) := Ax.out
      have QS : Hid (QAt w17 w3.heap.size w4.heap.size (.slice ua2 um2 uc2) us2 Y9) := QSx.out
      have S : Hid (w17.heap[bS]? = some (.cells #[.int .i64 T9, .slice ua2 um2 uc2] 27 (0, 0))) := Sx.out
      have BX : Hid (w17.heap[bBX]? = some (.cells #[.int .i64 t, .slice ua3 um3 uc3] 27 (0, 0))) := BXx.out
      have G : Hid (w17.heap[bG]? = some (.cells #[.int .i64 T9, .slice ua4 um4 uc4] 27 (0, 0))) := Gx.out
      have MG : Hid (MAt w17 w7.heap.size (.slice ua4 um4 uc4) us4 Y9) := MGx.out
      clear LOWx Ax QSx Sx BXx Gx MGx
      have zw17 : Hid (w16.heap.size ≤ w17.heap.size) := (bc).size
      obtain ⟨ua6, um6, uc6, rfl⟩ := own_sliceQ ou6.row
      clear RU5
      have QH : Hid (ReadsSS w17 (.slice ua6 um6 uc6) Y9) := ou6.reads
      clear ou6 ap6 bc
      obtain ⟨w18, hAw18⟩ : ∃ W, w17.alloc (.cells #[.int .i64 T9, .slice ua6 um6 uc6] 27) = W := ⟨_, rfl⟩
      have bb : Below w17.heap.size w17 w18 := by rw [← hAw18]; go_grown
      have szH : w17.heap.size < w18.heap.size := by rw [← hAw18]; simp
      obtain ⟨bH, hBw18⟩ : ∃ n, w17.heap.size = n := ⟨_, rfl⟩
      have eH : Hid (w17.heap.size = bH) := hBw18
      have Hn : Hid (w18.heap[bH]? = some (.cells #[.int .i64 T9, .slice ua6 um6 uc6] 27 (0, 0))) := by
        show w18.heap[bH]? = _
        rw [← hAw18, ← hBw18]; exact heap_alloc_new w17 _
      have oH : Hid (bH < w18.heap.size) := by show bH < _; rw [← hBw18]; exact szH
      clear szH
      have LOWx : Hid (Below w.heap.size w w18) := low_stepQ LOW.out bb
      have Ax : Hid (w18.heap[bA]? = some (.cells #[.int .i64 t, .slice va vm vc] 24 (0, 0))) := box_stepQ A.out bb
      have QSx : Hid (QAt w18 w3.heap.size w4.heap.size (.slice ua2 um2 uc2) us2 Y9) := qat_step QS.out bb
      have Sx : Hid (w18.heap[bS]? = some (.cells #[.int .i64 T9, .slice ua2 um2 uc2] 27 (0, 0))) := box_stepQ S.out bb
      have BXx : Hid (w18.heap[bBX]? = some (.cells #[.int .i64 t, .slice ua3 um3 uc3] 27 (0, 0))) := box_stepQ BX.out bb
      have Gx : Hid (w18.heap[bG]? = some (.cells #[.int .i64 T9, .slice ua4 um4 uc4] 27 (0, 0))) := box_stepQ G.out bb
      have MGx : Hid (MAt w18 w7.heap.size (.slice ua4 um4 uc4) us4 Y9) := mat_step MG.out bb
      have QHx : Hid (ReadsSS w18 (.slice ua6 um6 uc6) Y9) := readsSS_below QH.out bb
      clear LOW A QS S BX G MG QH
      have LOW : Hid (Below w.heap.size w w18) := LOWx.out
      have A : Hid (w18.heap[bA]? = some (.cells #[.int .i64 t, .slice va vm vc] 24 (0, 0))) := Ax.out
      have QS : Hid (QAt w18 w3.heap.size w4.heap.size (.slice ua2 um2 uc2) us2 Y9) := QSx.out
      have S : Hid (w18.heap[bS]? = some (.cells #[.int .i64 T9, .slice ua2 um2 uc2] 27 (0, 0))) := Sx.out
      have BX : Hid (w18.heap[bBX]? = some (.cells #[.int .i64 t, .slice ua3 um3 uc3] 27 (0, 0))) := BXx.out
      have G : Hid (w18.heap[bG]? = some (.cells #[.int .i64 T9, .slice ua4 um4 uc4] 27 (0, 0))) := Gx.out
      have MG : Hid (MAt w18 w7.heap.size (.slice ua4 um4 uc4) us4 Y9) := MGx.out
      have QH : Hid (ReadsSS w18 (.slice ua6 um6 uc6) Y9) := QHx.out
      clear LOWx Ax QSx Sx BXx Gx MGx QHx
      have zw18 : Hid (w17.heap.size ≤ w18.heap.size) := (bb).size
      clear bb
      have H : Hid (w18.heap[bH]? = some (.cells #[.int .i64 T9, .slice ua6 um6 uc6] 27 (0, 0))) := Hn.out
      clear Hn
      obtain ⟨ph0, ph1, -, -⟩ := two_cellsQ H.out
      obtain ⟨ps0, ps1, -, -⟩ := two_cellsQ S.out
      have hcall := eqQueue T9 Y9 (.slice ua6 um6 uc6) (.slice ua2 um2 uc2) w18 hlY hxY QH.out QS.out.own.reads
      go_wp2_with fail
      go_at_call 12
      clear hAw18 hBw18
      refine hcall.mono ?_
      rintro r w19 ⟨rfl, bc⟩
      clear hcall ph0 ph1 ps0 ps1
      have LOWx : Hid (Below w.heap.size w w19) := low_stepQ LOW.out bc
      have Ax : Hid (w19.heap[bA]? = some (.cells #[.int .i64 t, .slice va vm vc] 24 (0, 0))) := box_stepQ A.out bc
      have QSx : Hid (QAt w19 w3.heap.size w4.heap.size (.slice ua2 um2 uc2) us2 Y9) := qat_step QS.out bc
      have Sx : Hid (w19.heap[bS]? = some (.cells #[.int .i64 T9, .slice ua2 um2 uc2] 27 (0, 0))) := box_stepQ S.out bc
      have BXx : Hid (w19.heap[bBX]? = some (.cells #[.int .i64 t, .slice ua3 um3 uc3] 27 (0, 0))) := box_stepQ BX.out bc
      have Gx : Hid (w19.heap[bG]? = some (.cells #[.int .i64 T9, .slice ua4 um4 uc4] 27 (0, 0))) := box_stepQ G.out bc
      have MGx : Hid (MAt w19 w7.heap.size (.slice ua4 um4 uc4) us4 Y9) := mat_step MG.out bc
      have QHx : Hid (ReadsSS w19 (.slice ua6 um6 uc6) Y9) := readsSS_below QH.out bc
      have Hx : Hid (w19.heap[bH]? = some (.cells #[.int .i64 T9, .slice ua6 um6 uc6] 27 (0, 0))) := box_stepQ H.out bc
      clear LOW A QS S BX G MG QH H
      have LOW : Hid (Below w.heap.size w w19) := LOWx.out
      have A : Hid (w19.heap[bA]? = some (.cells #[.int .i64 t, .slice va vm vc] 24 (0, 0))) := Ax.out
      have QS : Hid (QAt w19 w3.heap.size w4.heap.size (.slice ua2 um2 uc2) us2 Y9) := QSx.out
      have S : Hid (w19.heap[bS]? = some (.cells #[.int .i64 T9, .slice ua2 um2 uc2] 27 (0, 0))) := Sx.out
      have BX : Hid (w19.heap[bBX]? = some (.cells #[.int .i64 t, .slice ua3 um3 uc3] 27 (0, 0))) := BXx.out
      have G : Hid (w19.heap[bG]? = some (.cells #[.int .i64 T9, .slice ua4 um4 uc4] 27 (0, 0))) := Gx.out
      have MG : Hid (MAt w19 w7.heap.size (.slice ua4 um4 uc4) us4 Y9) := MGx.out
      have QH : Hid (ReadsSS w19 (.slice ua6 um6 uc6) Y9) := QHx.out
      have H : Hid (w19.heap[bH]? = some (.cells #[.int .i64 T9, .slice ua6 um6 uc6] 27 (0, 0))) := Hx.out
      clear LOWx Ax QSx Sx BXx Gx MGx QHx Hx
      have zw19 : Hid (w18.heap.size ≤ w19.heap.size) := (bc).size
      clear bc
      obtain ⟨pg0, pg1, -, -⟩ := two_cellsQ G.out
      have hheld := heldQueue T9 Y9 (.slice ua4 um4 uc4) us4 w7.heap.size 1 w19 (by omega) hl9 ht1 MG.out.1 MG.out.2
      rw [hN] at hheld
      have hcall := hheld
      go_wp2_with fail
      go_at_call 18
      refine hcall.mono ?_
      rintro r w20 ⟨rfl, bc⟩
      clear hcall pg0 pg1
      have LOWx : Hid (Below w.heap.size w w20) := low_stepQ LOW.out bc
      have Ax : Hid (w20.heap[bA]? = some (.cells #[.int .i64 t, .slice va vm vc] 24 (0, 0))) := box_stepQ A.out bc
      have QSx : Hid (QAt w20 w3.heap.size w4.heap.size (.slice ua2 um2 uc2) us2 Y9) := qat_step QS.out bc
      have Sx : Hid (w20.heap[bS]? = some (.cells #[.int .i64 T9, .slice ua2 um2 uc2] 27 (0, 0))) := box_stepQ S.out bc
      have BXx : Hid (w20.heap[bBX]? = some (.cells #[.int .i64 t, .slice ua3 um3 uc3] 27 (0, 0))) := box_stepQ BX.out bc
      have Gx : Hid (w20.heap[bG]? = some (.cells #[.int .i64 T9, .slice ua4 um4 uc4] 27 (0, 0))) := box_stepQ G.out bc
      have MGx : Hid (MAt w20 w7.heap.size (.slice ua4 um4 uc4) us4 Y9) := mat_step MG.out bc
      have QHx : Hid (ReadsSS w20 (.slice ua6 um6 uc6) Y9) := readsSS_below QH.out bc
      have Hx : Hid (w20.heap[bH]? = some (.cells #[.int .i64 T9, .slice ua6 um6 uc6] 27 (0, 0))) := box_stepQ H.out bc
      clear LOW A QS S BX G MG QH H
      have LOW : Hid (Below w.heap.size w w20) := LOWx.out
      have A : Hid (w20.heap[bA]? = some (.cells #[.int .i64 t, .slice va vm vc] 24 (0, 0))) := Ax.out
      have QS : Hid (QAt w20 w3.heap.size w4.heap.size (.slice ua2 um2 uc2) us2 Y9) := QSx.out
      have S : Hid (w20.heap[bS]? = some (.cells #[.int .i64 T9, .slice ua2 um2 uc2] 27 (0, 0))) := Sx.out
      have BX : Hid (w20.heap[bBX]? = some (.cells #[.int .i64 t, .slice ua3 um3 uc3] 27 (0, 0))) := BXx.out
      have G : Hid (w20.heap[bG]? = some (.cells #[.int .i64 T9, .slice ua4 um4 uc4] 27 (0, 0))) := Gx.out
      have MG : Hid (MAt w20 w7.heap.size (.slice ua4 um4 uc4) us4 Y9) := MGx.out
      have QH : Hid (ReadsSS w20 (.slice ua6 um6 uc6) Y9) := QHx.out
      have H : Hid (w20.heap[bH]? = some (.cells #[.int .i64 T9, .slice ua6 um6 uc6] 27 (0, 0))) := Hx.out
      clear LOWx Ax QSx Sx BXx Gx MGx QHx Hx
      have zw20 : Hid (w19.heap.size ≤ w20.heap.size) := (bc).size
      clear hheld bc
      go_wp2
      go_ret
      exact ⟨rfl, LOW.out⟩

set_option maxRecDepth 100000 in
theorem liftedFnExactServed (os : Os) (started : os.Started) (H : Type) (enc : TypeId × Value → H) :
    ReturnsInHanded {} Try.checked os 7 .any (Rows.fnExactServedSpec.pre6 enc Try.prog Try.f7 Rows.fnExactServedRow.domain false) (Rows.fnExactServedSpec.post enc Try.prog Try.f7 false true false false) := by
  refine returnsInHanded_of_change (C := Try.checked) own started (by kernel_rfl) Try.func7
    (ChangeSpec.witness6 (enc := enc) (C := Try.checked) false ⟨#[], #[.agg #[.int .i64 0, .slice none 0 0]], []⟩ 8 (by kernel_rfl) (by kernel_rfl) (by kernel_rfl) (by kernel_rfl)) ?_
  intro W base args ds gs before hval0 hW hcnd _
  have hval : ∀ (j : Nat) t v, Try.f7.params[j]? = some t → args[j]? = some v → Value.okWide Try.prog W .any base t v := hval0
  have hW' := hW
  obtain ⟨p, q, hA0, hV, rfl, hfz, hnd⟩ := hW
  have hA : DataW.TrodAll enc Try.prog W 0 (fun _ => true) true Try.f7.params.toList args.toList ds p := hA0
  rw [Try.params7] at hA hval
  obtain ⟨v0, vs0, d0, ds0, p0, q0, hargs, rfl, rfl, h0, r0⟩ := trodAll_cons hA
  obtain ⟨rfl, rfl, rfl⟩ := trodAll_nil r0
  obtain rfl : args = #[v0] := by cases args; simp_all
  obtain ⟨t, v, X, rfl, hr, hl, hx⟩ := open_queue (hval 0 24 v0 rfl rfl) h0
  obtain ⟨rfl, rfl⟩ := trodVars_none hV
  refine (walkServed t  X v W hl hx hr).mono fun e W' ⟨he, hb⟩ => ?_
  subst he
  refine ⟨_, rfl, law_post (tb := 4) laidOut ?_ hW' rfl Try.underlying4 rfl rfl hb⟩
  exact all_readable (P := Try.prog) (by kernel_rfl)

theorem overFnExactServed : Rows.fnExactServedRow.holds Try.pinned (OpenSpec.ofChange Rows.fnExactServedSpec) :=
  OpenClaim.holds_of_wide 7 Try.f7 rfl rfl rfl rfl rfl rfl rfl ⟨rfl, rfl, rfl, rfl, rfl⟩ rfl rfl rfl rfl rfl (by kernel_rfl) Try.func7 (by kernel_rfl)
    (of_decide_eq_true (by kernel_rfl)) (by unfold Func.isWrapper; first | (rw [if_pos (by decide +kernel)]; kernel_rfl) | (rw [if_neg (by decide +kernel)]; exact ⟨rfl, rfl⟩))
    (fun os started H enc _ => liftedFnExactServed os started H enc)

/-- ████ THE STATEMENT ████ -/
theorem servedHolds : Rows.FnExactServedSaid :=
  overFnExactServed
#print axioms servedHolds

end Go.Proofs.Ytceialfhonkceaa
