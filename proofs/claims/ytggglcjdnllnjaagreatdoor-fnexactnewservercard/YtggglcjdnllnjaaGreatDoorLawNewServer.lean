/-
  The law FnExactNewServer: at every argument NewServer answers as the specification, and its answer owns its memory; the tied card.
-/
import Derived.Test.YtggglcjdnllnjaaGreatDoorSrvNew
import Derived.Test.YtggglcjdnllnjaaGreatDoorQueMark
import Derived.Test.YtggglcjdnllnjaaGreatDoorLift
import Derived.Test.YtggglcjdnllnjaaGreatDoorCards
import Derived.Test.YtggglcjdnllnjaaGreatDoorTie
import Derived.Test.YtggglcjdnllnjaaGreatDoorOpenProc
import Derived.Shelf.Vars
import Derived.Lib.LaidU8
import Derived.LaidMore
import Derived.Lay
import Derived.SevenTiedAt
import Derived.Stop.Joined
namespace Go.Proofs.YtggglcjdnllnjaaGreatDoor
open Go.ChangeShapes Go.WideShapes Go.ChangeAt Go.RowKit
set_option linter.unusedVariables false
set_option linter.unusedSimpArgs false
set_option maxHeartbeats 8000000
set_option maxRecDepth 20000

theorem walkNewServer (rm : Int) (w : World) : Calls Tryz.prog 3 #[.int .i64 rm] w fun e w' => e = .returned (.bool true) ∧ Below w.heap.size w w' := by
  have hlen : (lnOf rm).length ≤ 8 := by unfold lnOf; split <;> simp
  have hnil : ∀ xs ∈ lnOf rm, xs.length = 0 := fun xs h => by
    unfold lnOf at h
    split at h
    · rw [List.eq_of_mem_replicate h]; rfl
    · cases h
  have htot : tot (lnOf rm) = 0 := by unfold lnOf; split <;> decide
  have hs0 := specNewServer rm
  have hi0 := implNewServer rm
  unfold NsP at hs0 hi0
  obtain ⟨Y, hY⟩ : ∃ Y, lnOf rm = Y := ⟨_, rfl⟩
  obtain ⟨nx, hnx⟩ : ∃ z, nxOf rm = z := ⟨_, rfl⟩
  obtain ⟨rr, hrr⟩ : ∃ z, rmOf rm = z := ⟨_, rfl⟩
  obtain ⟨rb, hrb⟩ : ∃ z, roomB rm = z := ⟨_, rfl⟩
  rw [hY] at hlen hnil htot
  rw [hY, hnx, hrr, hrb] at hs0 hi0
  clear hY hnx hrr hrb
  have hne : (rb != rb) = false := by cases rb <;> rfl
  have hl8 : Y.length ≤ maxLen := by unfold maxLen; omega
  have hx8 : ∀ xs ∈ Y, xs.length ≤ maxLen := fun xs h => by have := hnil xs h; unfold maxLen; omega
  have hl9 : Y.length ≤ 1048576 := by omega
  have ht1 : (1 : Int) + tot Y ≤ 1099511627776 := by omega
  obtain ⟨N, hN⟩ : ∃ N : Int, (1 : Int) + tot Y = N := ⟨_, rfl⟩
  have hN0 : decide (N < 0) = false := by simp; omega
  have HT8 : Hid _ := htot
  clear htot hnil hlen
  go_enter Tryz.func3, Tryz.ntmps3
  have LOW : Hid (Below w.heap.size w w) := Below.refl _ _
  have hcall := hs0 w
  go_wp2_with fail
  go_at_call 4
  refine hcall.mono ?_
  rintro r w1 ⟨u1, us1, rfl, ou1, ap1, bc⟩
  clear hcall
  have LOWx : Hid (Below w.heap.size w w1) := low_stepQ LOW.out bc
  clear LOW
  have LOW : Hid (Below w.heap.size w w1) := LOWx.out
  clear LOWx
  have zw1 : Hid (w.heap.size ≤ w1.heap.size) := (bc).size
  obtain ⟨ua1, um1, uc1, rfl⟩ := own_sliceQ ou1.row
  have QS : Hid (QAt w1 w.heap.size w1.heap.size (.slice ua1 um1 uc1) us1 Y) := qat_of ou1 ap1
  clear ou1 ap1 bc
  obtain ⟨w2y, hAw2⟩ : ∃ W, w1.alloc (.cells #[.int .i64 0, .int .i64 nx, .slice none 0 0, .int .i64 rr, .slice none 0 0, .int .i64 0, .slice ua1 um1 uc1, .slice none 0 0, .slice none 0 0] 32) = W := ⟨_, rfl⟩
  have by9 : Below w1.heap.size w1 w2y := by rw [← hAw2]; go_grown
  obtain ⟨bBS, hBw2⟩ : ∃ n, w1.heap.size = n := ⟨_, rfl⟩
  have hy9 : w2y.heap[bBS]? = some (.cells #[.int .i64 0, .int .i64 nx, .slice none 0 0, .int .i64 rr, .slice none 0 0, .int .i64 0, .slice ua1 um1 uc1, .slice none 0 0, .slice none 0 0] 32 (0, 0)) := by rw [← hAw2, ← hBw2]; exact heap_alloc_new w1 _
  obtain ⟨-, -, -, -, -, -, -, f7w2, f8w2⟩ := nine_fz hy9
  obtain ⟨-, -, -, -, -, -, -, k7w2, k8w2⟩ := nine_in hy9
  obtain ⟨w2, hCw2⟩ : ∃ W, (w2y.setCell ⟨bBS, 7, none⟩ (.slice none 0 0)).setCell ⟨bBS, 8, none⟩ (.slice none 0 0) = W := ⟨_, rfl⟩
  have bb : Below w1.heap.size w1 w2 := by rw [← hCw2]; exact (by9.setCell (by simp; omega) _).setCell (by simp; omega) _
  have eBS : Hid (w1.heap.size = bBS) := hBw2
  have BSn : Hid (w2.heap[bBS]? = some (.cells #[.int .i64 0, .int .i64 nx, .slice none 0 0, .int .i64 rr, .slice none 0 0, .int .i64 0, .slice ua1 um1 uc1, .slice none 0 0, .slice none 0 0] 32 (0, 0))) := by
    show w2.heap[bBS]? = _
    rw [← hCw2]
    have h1 := heap_setCell_same w2y bBS 7 _ _ (.slice none 0 0) hy9
    have h2 := heap_setCell_same _ bBS 8 _ _ (.slice none 0 0) h1
    simpa using h2
  have oBS : Hid (bBS < w2.heap.size) := (Array.getElem?_eq_some_iff.1 BSn.out).1
  clear by9 hy9
  have LOWx : Hid (Below w.heap.size w w2) := low_stepQ LOW.out bb
  have QSx : Hid (QAt w2 w.heap.size w1.heap.size (.slice ua1 um1 uc1) us1 Y) := qat_step QS.out bb
  clear LOW QS
  have LOW : Hid (Below w.heap.size w w2) := LOWx.out
  have QS : Hid (QAt w2 w.heap.size w1.heap.size (.slice ua1 um1 uc1) us1 Y) := QSx.out
  clear LOWx QSx
  have zw2 : Hid (w1.heap.size ≤ w2.heap.size) := (bb).size
  clear bb
  have BS : Hid (w2.heap[bBS]? = some (.cells #[.int .i64 0, .int .i64 nx, .slice none 0 0, .int .i64 rr, .slice none 0 0, .int .i64 0, .slice ua1 um1 uc1, .slice none 0 0, .slice none 0 0] 32 (0, 0))) := BSn.out
  clear BSn
  have hcall := hi0 w2
  go_wp2_with fail
  go_at_call 5
  clear hAw2 hBw2 hCw2 f7w2 f8w2 k7w2 k8w2
  refine hcall.mono ?_
  rintro r w3 ⟨u2, us2, rfl, ou2, ap2, bc⟩
  clear hcall
  have LOWx : Hid (Below w.heap.size w w3) := low_stepQ LOW.out bc
  have QSx : Hid (QAt w3 w.heap.size w1.heap.size (.slice ua1 um1 uc1) us1 Y) := qat_step QS.out bc
  have BSx : Hid (w3.heap[bBS]? = some (.cells #[.int .i64 0, .int .i64 nx, .slice none 0 0, .int .i64 rr, .slice none 0 0, .int .i64 0, .slice ua1 um1 uc1, .slice none 0 0, .slice none 0 0] 32 (0, 0))) := box_stepQ BS.out bc
  clear LOW QS BS
  have LOW : Hid (Below w.heap.size w w3) := LOWx.out
  have QS : Hid (QAt w3 w.heap.size w1.heap.size (.slice ua1 um1 uc1) us1 Y) := QSx.out
  have BS : Hid (w3.heap[bBS]? = some (.cells #[.int .i64 0, .int .i64 nx, .slice none 0 0, .int .i64 rr, .slice none 0 0, .int .i64 0, .slice ua1 um1 uc1, .slice none 0 0, .slice none 0 0] 32 (0, 0))) := BSx.out
  clear LOWx QSx BSx
  have zw3 : Hid (w2.heap.size ≤ w3.heap.size) := (bc).size
  obtain ⟨ua2, um2, uc2, rfl⟩ := own_sliceQ ou2.row
  have QG : Hid (QAt w3 w2.heap.size w3.heap.size (.slice ua2 um2 uc2) us2 Y) := qat_of ou2 ap2
  clear ou2 ap2 bc
  obtain ⟨w4y, hAw4⟩ : ∃ W, w3.alloc (.cells #[.int .i64 0, .int .i64 nx, .slice none 0 0, .int .i64 rr, .slice none 0 0, .int .i64 0, .slice ua2 um2 uc2, .slice none 0 0, .slice none 0 0] 32) = W := ⟨_, rfl⟩
  have by9 : Below w3.heap.size w3 w4y := by rw [← hAw4]; go_grown
  obtain ⟨bBG, hBw4⟩ : ∃ n, w3.heap.size = n := ⟨_, rfl⟩
  have hy9 : w4y.heap[bBG]? = some (.cells #[.int .i64 0, .int .i64 nx, .slice none 0 0, .int .i64 rr, .slice none 0 0, .int .i64 0, .slice ua2 um2 uc2, .slice none 0 0, .slice none 0 0] 32 (0, 0)) := by rw [← hAw4, ← hBw4]; exact heap_alloc_new w3 _
  obtain ⟨-, -, -, -, -, -, -, f7w4, f8w4⟩ := nine_fz hy9
  obtain ⟨-, -, -, -, -, -, -, k7w4, k8w4⟩ := nine_in hy9
  obtain ⟨w4, hCw4⟩ : ∃ W, (w4y.setCell ⟨bBG, 7, none⟩ (.slice none 0 0)).setCell ⟨bBG, 8, none⟩ (.slice none 0 0) = W := ⟨_, rfl⟩
  have bb : Below w3.heap.size w3 w4 := by rw [← hCw4]; exact (by9.setCell (by simp; omega) _).setCell (by simp; omega) _
  have eBG : Hid (w3.heap.size = bBG) := hBw4
  have BGn : Hid (w4.heap[bBG]? = some (.cells #[.int .i64 0, .int .i64 nx, .slice none 0 0, .int .i64 rr, .slice none 0 0, .int .i64 0, .slice ua2 um2 uc2, .slice none 0 0, .slice none 0 0] 32 (0, 0))) := by
    show w4.heap[bBG]? = _
    rw [← hCw4]
    have h1 := heap_setCell_same w4y bBG 7 _ _ (.slice none 0 0) hy9
    have h2 := heap_setCell_same _ bBG 8 _ _ (.slice none 0 0) h1
    simpa using h2
  have oBG : Hid (bBG < w4.heap.size) := (Array.getElem?_eq_some_iff.1 BGn.out).1
  clear by9 hy9
  have LOWx : Hid (Below w.heap.size w w4) := low_stepQ LOW.out bb
  have QSx : Hid (QAt w4 w.heap.size w1.heap.size (.slice ua1 um1 uc1) us1 Y) := qat_step QS.out bb
  have BSx : Hid (w4.heap[bBS]? = some (.cells #[.int .i64 0, .int .i64 nx, .slice none 0 0, .int .i64 rr, .slice none 0 0, .int .i64 0, .slice ua1 um1 uc1, .slice none 0 0, .slice none 0 0] 32 (0, 0))) := box_stepQ BS.out bb
  have QGx : Hid (QAt w4 w2.heap.size w3.heap.size (.slice ua2 um2 uc2) us2 Y) := qat_step QG.out bb
  clear LOW QS BS QG
  have LOW : Hid (Below w.heap.size w w4) := LOWx.out
  have QS : Hid (QAt w4 w.heap.size w1.heap.size (.slice ua1 um1 uc1) us1 Y) := QSx.out
  have BS : Hid (w4.heap[bBS]? = some (.cells #[.int .i64 0, .int .i64 nx, .slice none 0 0, .int .i64 rr, .slice none 0 0, .int .i64 0, .slice ua1 um1 uc1, .slice none 0 0, .slice none 0 0] 32 (0, 0))) := BSx.out
  have QG : Hid (QAt w4 w2.heap.size w3.heap.size (.slice ua2 um2 uc2) us2 Y) := QGx.out
  clear LOWx QSx BSx QGx
  have zw4 : Hid (w3.heap.size ≤ w4.heap.size) := (bb).size
  clear bb
  have BG : Hid (w4.heap[bBG]? = some (.cells #[.int .i64 0, .int .i64 nx, .slice none 0 0, .int .i64 rr, .slice none 0 0, .int .i64 0, .slice ua2 um2 uc2, .slice none 0 0, .slice none 0 0] 32 (0, 0))) := BGn.out
  clear BGn
  obtain ⟨cg0, cg1, cg2, cg3, cg4, cg5, cg6, cg7, cg8⟩ := nine_in BG.out
  obtain ⟨cs0, cs1, cs2, cs3, cs4, cs5, cs6, cs7, cs8⟩ := nine_in BS.out
  have hcall := eqServer0 nx rr Y (.slice ua2 um2 uc2) (.slice ua1 um1 uc1) w4 hl8 hx8 QG.out.own.reads QS.out.own.reads
  go_wp2_with fail
  go_at_call 6
  clear hAw4 hBw4 hCw4 f7w4 f8w4 k7w4 k8w4
  refine hcall.mono ?_
  rintro r w5 ⟨rfl, bc⟩
  clear hcall cg0 cg1 cg2 cg3 cg4 cg5 cg6 cg7 cg8 cs0 cs1 cs2 cs3 cs4 cs5 cs6 cs7 cs8
  have LOWx : Hid (Below w.heap.size w w5) := low_stepQ LOW.out bc
  have QSx : Hid (QAt w5 w.heap.size w1.heap.size (.slice ua1 um1 uc1) us1 Y) := qat_step QS.out bc
  have BSx : Hid (w5.heap[bBS]? = some (.cells #[.int .i64 0, .int .i64 nx, .slice none 0 0, .int .i64 rr, .slice none 0 0, .int .i64 0, .slice ua1 um1 uc1, .slice none 0 0, .slice none 0 0] 32 (0, 0))) := box_stepQ BS.out bc
  have QGx : Hid (QAt w5 w2.heap.size w3.heap.size (.slice ua2 um2 uc2) us2 Y) := qat_step QG.out bc
  have BGx : Hid (w5.heap[bBG]? = some (.cells #[.int .i64 0, .int .i64 nx, .slice none 0 0, .int .i64 rr, .slice none 0 0, .int .i64 0, .slice ua2 um2 uc2, .slice none 0 0, .slice none 0 0] 32 (0, 0))) := box_stepQ BG.out bc
  clear LOW QS BS QG BG
  have LOW : Hid (Below w.heap.size w w5) := LOWx.out
  have QS : Hid (QAt w5 w.heap.size w1.heap.size (.slice ua1 um1 uc1) us1 Y) := QSx.out
  have BS : Hid (w5.heap[bBS]? = some (.cells #[.int .i64 0, .int .i64 nx, .slice none 0 0, .int .i64 rr, .slice none 0 0, .int .i64 0, .slice ua1 um1 uc1, .slice none 0 0, .slice none 0 0] 32 (0, 0))) := BSx.out
  have QG : Hid (QAt w5 w2.heap.size w3.heap.size (.slice ua2 um2 uc2) us2 Y) := QGx.out
  have BG : Hid (w5.heap[bBG]? = some (.cells #[.int .i64 0, .int .i64 nx, .slice none 0 0, .int .i64 rr, .slice none 0 0, .int .i64 0, .slice ua2 um2 uc2, .slice none 0 0, .slice none 0 0] 32 (0, 0))) := BGx.out
  clear LOWx QSx BSx QGx BGx
  have zw5 : Hid (w4.heap.size ≤ w5.heap.size) := (bc).size
  obtain ⟨cg0, cg1, cg2, cg3, cg4, cg5, cg6, cg7, cg8⟩ := nine_in BG.out
  have hcall := markServer0 nx rr Y (.slice ua2 um2 uc2) us2 w2.heap.size w3.heap.size 1 w5 (by omega) hl9 (by omega) (by have n0 := zw1.out; have n1 := zw2.out; have n2 := eBS.out; have n3 := oBS.out; have n4 := zw3.out; have n5 := zw4.out; have n6 := eBG.out; have n7 := oBG.out; have n8 := zw5.out; omega) QG.out.own QG.out.apart QG.out.tu (by have n0 := zw1.out; have n1 := zw2.out; have n2 := eBS.out; have n3 := oBS.out; have n4 := zw3.out; have n5 := zw4.out; have n6 := eBG.out; have n7 := oBG.out; have n8 := zw5.out; omega)
  go_wp2_with fail
  go_at_call 7
  refine hcall.mono ?_
  rintro r w6 ⟨rfl, m1, m2, m3, m4⟩
  clear hcall cg0 cg1 cg2 cg3 cg4 cg5 cg6 cg7 cg8
  have LOWx : Hid (Below w.heap.size w w6) := LOW.out.trans (m3.mono (by have n0 := zw1.out; have n1 := zw2.out; have n2 := eBS.out; have n3 := oBS.out; have n4 := zw3.out; have n5 := zw4.out; have n6 := eBG.out; have n7 := oBG.out; have n8 := zw5.out; omega))
  have QSx : Hid (QAt w6 w.heap.size w1.heap.size (.slice ua1 um1 uc1) us1 Y) := qat_low QS.out m3 (by have n0 := zw1.out; have n1 := zw2.out; have n2 := eBS.out; have n3 := oBS.out; have n4 := zw3.out; have n5 := zw4.out; have n6 := eBG.out; have n7 := oBG.out; have n8 := zw5.out; omega)
  have BSx : Hid (w6.heap[bBS]? = some (.cells #[.int .i64 0, .int .i64 nx, .slice none 0 0, .int .i64 rr, .slice none 0 0, .int .i64 0, .slice ua1 um1 uc1, .slice none 0 0, .slice none 0 0] 32 (0, 0))) := box_lowQ BS.out m3 (by have n0 := zw1.out; have n1 := zw2.out; have n2 := eBS.out; have n3 := oBS.out; have n4 := zw3.out; have n5 := zw4.out; have n6 := eBG.out; have n7 := oBG.out; have n8 := zw5.out; omega)
  have BGx : Hid (w6.heap[bBG]? = some (.cells #[.int .i64 0, .int .i64 nx, .slice none 0 0, .int .i64 rr, .slice none 0 0, .int .i64 0, .slice ua2 um2 uc2, .slice none 0 0, .slice none 0 0] 32 (0, 0))) := box_highQ BG.out m4 (by have n0 := zw1.out; have n1 := zw2.out; have n2 := eBS.out; have n3 := oBS.out; have n4 := zw3.out; have n5 := zw4.out; have n6 := eBG.out; have n7 := oBG.out; have n8 := zw5.out; omega)
  clear LOW QS BS QG BG
  have LOW : Hid (Below w.heap.size w w6) := LOWx.out
  have QS : Hid (QAt w6 w.heap.size w1.heap.size (.slice ua1 um1 uc1) us1 Y) := QSx.out
  have BS : Hid (w6.heap[bBS]? = some (.cells #[.int .i64 0, .int .i64 nx, .slice none 0 0, .int .i64 rr, .slice none 0 0, .int .i64 0, .slice ua1 um1 uc1, .slice none 0 0, .slice none 0 0] 32 (0, 0))) := BSx.out
  have BG : Hid (w6.heap[bBG]? = some (.cells #[.int .i64 0, .int .i64 nx, .slice none 0 0, .int .i64 rr, .slice none 0 0, .int .i64 0, .slice ua2 um2 uc2, .slice none 0 0, .slice none 0 0] 32 (0, 0))) := BGx.out
  clear LOWx QSx BSx BGx
  have MG : Hid (MAt w6 w2.heap.size (.slice ua2 um2 uc2) us2 Y) := ⟨m1, m2⟩
  have zw6 : Hid (w5.heap.size ≤ w6.heap.size) := m4.1
  clear m1 m2 m3 m4
  rw [hN]
  obtain ⟨cg0, cg1, cg2, cg3, cg4, cg5, cg6, cg7, cg8⟩ := nine_in BG.out
  have hheld := heldServer0 nx rr Y (.slice ua2 um2 uc2) us2 w2.heap.size w6 hl9 ht1 MG.out.1 MG.out.2
  rw [hN] at hheld
  have hcall := hheld
  go_wp2_with fail
  go_at_call 8
  refine hcall.mono ?_
  rintro r w7 ⟨rfl, bc⟩
  clear hcall cg0 cg1 cg2 cg3 cg4 cg5 cg6 cg7 cg8
  have LOWx : Hid (Below w.heap.size w w7) := low_stepQ LOW.out bc
  have QSx : Hid (QAt w7 w.heap.size w1.heap.size (.slice ua1 um1 uc1) us1 Y) := qat_step QS.out bc
  have BSx : Hid (w7.heap[bBS]? = some (.cells #[.int .i64 0, .int .i64 nx, .slice none 0 0, .int .i64 rr, .slice none 0 0, .int .i64 0, .slice ua1 um1 uc1, .slice none 0 0, .slice none 0 0] 32 (0, 0))) := box_stepQ BS.out bc
  have BGx : Hid (w7.heap[bBG]? = some (.cells #[.int .i64 0, .int .i64 nx, .slice none 0 0, .int .i64 rr, .slice none 0 0, .int .i64 0, .slice ua2 um2 uc2, .slice none 0 0, .slice none 0 0] 32 (0, 0))) := box_stepQ BG.out bc
  have MGx : Hid (MAt w7 w2.heap.size (.slice ua2 um2 uc2) us2 Y) := mat_step MG.out bc
  clear LOW QS BS BG MG
  have LOW : Hid (Below w.heap.size w w7) := LOWx.out
  have QS : Hid (QAt w7 w.heap.size w1.heap.size (.slice ua1 um1 uc1) us1 Y) := QSx.out
  have BS : Hid (w7.heap[bBS]? = some (.cells #[.int .i64 0, .int .i64 nx, .slice none 0 0, .int .i64 rr, .slice none 0 0, .int .i64 0, .slice ua1 um1 uc1, .slice none 0 0, .slice none 0 0] 32 (0, 0))) := BSx.out
  have BG : Hid (w7.heap[bBG]? = some (.cells #[.int .i64 0, .int .i64 nx, .slice none 0 0, .int .i64 rr, .slice none 0 0, .int .i64 0, .slice ua2 um2 uc2, .slice none 0 0, .slice none 0 0] 32 (0, 0))) := BGx.out
  have MG : Hid (MAt w7 w2.heap.size (.slice ua2 um2 uc2) us2 Y) := MGx.out
  clear LOWx QSx BSx BGx MGx
  have zw7 : Hid (w6.heap.size ≤ w7.heap.size) := (bc).size
  clear hheld
  have hcall := hi0 w7
  go_wp2_with fail
  go_at_call 5
  refine hcall.mono ?_
  rintro r w8 ⟨u3, us3, rfl, ou3, ap3, bc⟩
  clear hcall
  have LOWx : Hid (Below w.heap.size w w8) := low_stepQ LOW.out bc
  have QSx : Hid (QAt w8 w.heap.size w1.heap.size (.slice ua1 um1 uc1) us1 Y) := qat_step QS.out bc
  have BSx : Hid (w8.heap[bBS]? = some (.cells #[.int .i64 0, .int .i64 nx, .slice none 0 0, .int .i64 rr, .slice none 0 0, .int .i64 0, .slice ua1 um1 uc1, .slice none 0 0, .slice none 0 0] 32 (0, 0))) := box_stepQ BS.out bc
  have BGx : Hid (w8.heap[bBG]? = some (.cells #[.int .i64 0, .int .i64 nx, .slice none 0 0, .int .i64 rr, .slice none 0 0, .int .i64 0, .slice ua2 um2 uc2, .slice none 0 0, .slice none 0 0] 32 (0, 0))) := box_stepQ BG.out bc
  have MGx : Hid (MAt w8 w2.heap.size (.slice ua2 um2 uc2) us2 Y) := mat_step MG.out bc
  clear LOW QS BS BG MG
  have LOW : Hid (Below w.heap.size w w8) := LOWx.out
  have QS : Hid (QAt w8 w.heap.size w1.heap.size (.slice ua1 um1 uc1) us1 Y) := QSx.out
  have BS : Hid (w8.heap[bBS]? = some (.cells #[.int .i64 0, .int .i64 nx, .slice none 0 0, .int .i64 rr, .slice none 0 0, .int .i64 0, .slice ua1 um1 uc1, .slice none 0 0, .slice none 0 0] 32 (0, 0))) := BSx.out
  have BG : Hid (w8.heap[bBG]? = some (.cells #[.int .i64 0, .int .i64 nx, .slice none 0 0, .int .i64 rr, .slice none 0 0, .int .i64 0, .slice ua2 um2 uc2, .slice none 0 0, .slice none 0 0] 32 (0, 0))) := BGx.out
  have MG : Hid (MAt w8 w2.heap.size (.slice ua2 um2 uc2) us2 Y) := MGx.out
  clear LOWx QSx BSx BGx MGx
  have zw8 : Hid (w7.heap.size ≤ w8.heap.size) := (bc).size
  obtain ⟨ua3, um3, uc3, rfl⟩ := own_sliceQ ou3.row
  have QH : Hid (ReadsSS w8 (.slice ua3 um3 uc3) Y) := ou3.reads
  clear ou3 ap3 bc
  obtain ⟨w9y, hAw9⟩ : ∃ W, w8.alloc (.cells #[.int .i64 0, .int .i64 nx, .slice none 0 0, .int .i64 rr, .slice none 0 0, .int .i64 0, .slice ua3 um3 uc3, .slice none 0 0, .slice none 0 0] 32) = W := ⟨_, rfl⟩
  have by9 : Below w8.heap.size w8 w9y := by rw [← hAw9]; go_grown
  obtain ⟨bBH, hBw9⟩ : ∃ n, w8.heap.size = n := ⟨_, rfl⟩
  have hy9 : w9y.heap[bBH]? = some (.cells #[.int .i64 0, .int .i64 nx, .slice none 0 0, .int .i64 rr, .slice none 0 0, .int .i64 0, .slice ua3 um3 uc3, .slice none 0 0, .slice none 0 0] 32 (0, 0)) := by rw [← hAw9, ← hBw9]; exact heap_alloc_new w8 _
  obtain ⟨-, -, -, -, -, -, -, f7w9, f8w9⟩ := nine_fz hy9
  obtain ⟨-, -, -, -, -, -, -, k7w9, k8w9⟩ := nine_in hy9
  obtain ⟨w9, hCw9⟩ : ∃ W, (w9y.setCell ⟨bBH, 7, none⟩ (.slice none 0 0)).setCell ⟨bBH, 8, none⟩ (.slice none 0 0) = W := ⟨_, rfl⟩
  have bb : Below w8.heap.size w8 w9 := by rw [← hCw9]; exact (by9.setCell (by simp; omega) _).setCell (by simp; omega) _
  have eBH : Hid (w8.heap.size = bBH) := hBw9
  have BHn : Hid (w9.heap[bBH]? = some (.cells #[.int .i64 0, .int .i64 nx, .slice none 0 0, .int .i64 rr, .slice none 0 0, .int .i64 0, .slice ua3 um3 uc3, .slice none 0 0, .slice none 0 0] 32 (0, 0))) := by
    show w9.heap[bBH]? = _
    rw [← hCw9]
    have h1 := heap_setCell_same w9y bBH 7 _ _ (.slice none 0 0) hy9
    have h2 := heap_setCell_same _ bBH 8 _ _ (.slice none 0 0) h1
    simpa using h2
  have oBH : Hid (bBH < w9.heap.size) := (Array.getElem?_eq_some_iff.1 BHn.out).1
  clear by9 hy9
  have LOWx : Hid (Below w.heap.size w w9) := low_stepQ LOW.out bb
  have QSx : Hid (QAt w9 w.heap.size w1.heap.size (.slice ua1 um1 uc1) us1 Y) := qat_step QS.out bb
  have BSx : Hid (w9.heap[bBS]? = some (.cells #[.int .i64 0, .int .i64 nx, .slice none 0 0, .int .i64 rr, .slice none 0 0, .int .i64 0, .slice ua1 um1 uc1, .slice none 0 0, .slice none 0 0] 32 (0, 0))) := box_stepQ BS.out bb
  have BGx : Hid (w9.heap[bBG]? = some (.cells #[.int .i64 0, .int .i64 nx, .slice none 0 0, .int .i64 rr, .slice none 0 0, .int .i64 0, .slice ua2 um2 uc2, .slice none 0 0, .slice none 0 0] 32 (0, 0))) := box_stepQ BG.out bb
  have MGx : Hid (MAt w9 w2.heap.size (.slice ua2 um2 uc2) us2 Y) := mat_step MG.out bb
  have QHx : Hid (ReadsSS w9 (.slice ua3 um3 uc3) Y) := readsSS_below QH.out bb
  clear LOW QS BS BG MG QH
  have LOW : Hid (Below w.heap.size w w9) := LOWx.out
  have QS : Hid (QAt w9 w.heap.size w1.heap.size (.slice ua1 um1 uc1) us1 Y) := QSx.out
  have BS : Hid (w9.heap[bBS]? = some (.cells #[.int .i64 0, .int .i64 nx, .slice none 0 0, .int .i64 rr, .slice none 0 0, .int .i64 0, .slice ua1 um1 uc1, .slice none 0 0, .slice none 0 0] 32 (0, 0))) := BSx.out
  have BG : Hid (w9.heap[bBG]? = some (.cells #[.int .i64 0, .int .i64 nx, .slice none 0 0, .int .i64 rr, .slice none 0 0, .int .i64 0, .slice ua2 um2 uc2, .slice none 0 0, .slice none 0 0] 32 (0, 0))) := BGx.out
  have MG : Hid (MAt w9 w2.heap.size (.slice ua2 um2 uc2) us2 Y) := MGx.out
  have QH : Hid (ReadsSS w9 (.slice ua3 um3 uc3) Y) := QHx.out
  clear LOWx QSx BSx BGx MGx QHx
  have zw9 : Hid (w8.heap.size ≤ w9.heap.size) := (bb).size
  clear bb
  have BH : Hid (w9.heap[bBH]? = some (.cells #[.int .i64 0, .int .i64 nx, .slice none 0 0, .int .i64 rr, .slice none 0 0, .int .i64 0, .slice ua3 um3 uc3, .slice none 0 0, .slice none 0 0] 32 (0, 0))) := BHn.out
  clear BHn
  obtain ⟨ch0, ch1, ch2, ch3, ch4, ch5, ch6, ch7, ch8⟩ := nine_in BH.out
  obtain ⟨cs0, cs1, cs2, cs3, cs4, cs5, cs6, cs7, cs8⟩ := nine_in BS.out
  have hcall := eqServer0 nx rr Y (.slice ua3 um3 uc3) (.slice ua1 um1 uc1) w9 hl8 hx8 QH.out QS.out.own.reads
  go_wp2_with fail
  go_at_call 6
  clear hAw9 hBw9 hCw9 f7w9 f8w9 k7w9 k8w9
  refine hcall.mono ?_
  rintro r w10 ⟨rfl, bc⟩
  clear hcall ch0 ch1 ch2 ch3 ch4 ch5 ch6 ch7 ch8 cs0 cs1 cs2 cs3 cs4 cs5 cs6 cs7 cs8
  have LOWx : Hid (Below w.heap.size w w10) := low_stepQ LOW.out bc
  have QSx : Hid (QAt w10 w.heap.size w1.heap.size (.slice ua1 um1 uc1) us1 Y) := qat_step QS.out bc
  have BSx : Hid (w10.heap[bBS]? = some (.cells #[.int .i64 0, .int .i64 nx, .slice none 0 0, .int .i64 rr, .slice none 0 0, .int .i64 0, .slice ua1 um1 uc1, .slice none 0 0, .slice none 0 0] 32 (0, 0))) := box_stepQ BS.out bc
  have BGx : Hid (w10.heap[bBG]? = some (.cells #[.int .i64 0, .int .i64 nx, .slice none 0 0, .int .i64 rr, .slice none 0 0, .int .i64 0, .slice ua2 um2 uc2, .slice none 0 0, .slice none 0 0] 32 (0, 0))) := box_stepQ BG.out bc
  have MGx : Hid (MAt w10 w2.heap.size (.slice ua2 um2 uc2) us2 Y) := mat_step MG.out bc
  have QHx : Hid (ReadsSS w10 (.slice ua3 um3 uc3) Y) := readsSS_below QH.out bc
  have BHx : Hid (w10.heap[bBH]? = some (.cells #[.int .i64 0, .int .i64 nx, .slice none 0 0, .int .i64 rr, .slice none 0 0, .int .i64 0, .slice ua3 um3 uc3, .slice none 0 0, .slice none 0 0] 32 (0, 0))) := box_stepQ BH.out bc
  clear LOW QS BS BG MG QH BH
  have LOW : Hid (Below w.heap.size w w10) := LOWx.out
  have QS : Hid (QAt w10 w.heap.size w1.heap.size (.slice ua1 um1 uc1) us1 Y) := QSx.out
  have BS : Hid (w10.heap[bBS]? = some (.cells #[.int .i64 0, .int .i64 nx, .slice none 0 0, .int .i64 rr, .slice none 0 0, .int .i64 0, .slice ua1 um1 uc1, .slice none 0 0, .slice none 0 0] 32 (0, 0))) := BSx.out
  have BG : Hid (w10.heap[bBG]? = some (.cells #[.int .i64 0, .int .i64 nx, .slice none 0 0, .int .i64 rr, .slice none 0 0, .int .i64 0, .slice ua2 um2 uc2, .slice none 0 0, .slice none 0 0] 32 (0, 0))) := BGx.out
  have MG : Hid (MAt w10 w2.heap.size (.slice ua2 um2 uc2) us2 Y) := MGx.out
  have QH : Hid (ReadsSS w10 (.slice ua3 um3 uc3) Y) := QHx.out
  have BH : Hid (w10.heap[bBH]? = some (.cells #[.int .i64 0, .int .i64 nx, .slice none 0 0, .int .i64 rr, .slice none 0 0, .int .i64 0, .slice ua3 um3 uc3, .slice none 0 0, .slice none 0 0] 32 (0, 0))) := BHx.out
  clear LOWx QSx BSx BGx MGx QHx BHx
  have zw10 : Hid (w9.heap.size ≤ w10.heap.size) := (bc).size
  obtain ⟨cg0, cg1, cg2, cg3, cg4, cg5, cg6, cg7, cg8⟩ := nine_in BG.out
  have hheld := heldServer0 nx rr Y (.slice ua2 um2 uc2) us2 w2.heap.size w10 hl9 ht1 MG.out.1 MG.out.2
  rw [hN] at hheld
  have hcall := hheld
  go_wp2_with fail
  go_at_call 8
  refine hcall.mono ?_
  rintro r w11 ⟨rfl, bc⟩
  clear hcall cg0 cg1 cg2 cg3 cg4 cg5 cg6 cg7 cg8
  have LOWx : Hid (Below w.heap.size w w11) := low_stepQ LOW.out bc
  have QSx : Hid (QAt w11 w.heap.size w1.heap.size (.slice ua1 um1 uc1) us1 Y) := qat_step QS.out bc
  have BSx : Hid (w11.heap[bBS]? = some (.cells #[.int .i64 0, .int .i64 nx, .slice none 0 0, .int .i64 rr, .slice none 0 0, .int .i64 0, .slice ua1 um1 uc1, .slice none 0 0, .slice none 0 0] 32 (0, 0))) := box_stepQ BS.out bc
  have BGx : Hid (w11.heap[bBG]? = some (.cells #[.int .i64 0, .int .i64 nx, .slice none 0 0, .int .i64 rr, .slice none 0 0, .int .i64 0, .slice ua2 um2 uc2, .slice none 0 0, .slice none 0 0] 32 (0, 0))) := box_stepQ BG.out bc
  have MGx : Hid (MAt w11 w2.heap.size (.slice ua2 um2 uc2) us2 Y) := mat_step MG.out bc
  have QHx : Hid (ReadsSS w11 (.slice ua3 um3 uc3) Y) := readsSS_below QH.out bc
  have BHx : Hid (w11.heap[bBH]? = some (.cells #[.int .i64 0, .int .i64 nx, .slice none 0 0, .int .i64 rr, .slice none 0 0, .int .i64 0, .slice ua3 um3 uc3, .slice none 0 0, .slice none 0 0] 32 (0, 0))) := box_stepQ BH.out bc
  clear LOW QS BS BG MG QH BH
  have LOW : Hid (Below w.heap.size w w11) := LOWx.out
  have QS : Hid (QAt w11 w.heap.size w1.heap.size (.slice ua1 um1 uc1) us1 Y) := QSx.out
  have BS : Hid (w11.heap[bBS]? = some (.cells #[.int .i64 0, .int .i64 nx, .slice none 0 0, .int .i64 rr, .slice none 0 0, .int .i64 0, .slice ua1 um1 uc1, .slice none 0 0, .slice none 0 0] 32 (0, 0))) := BSx.out
  have BG : Hid (w11.heap[bBG]? = some (.cells #[.int .i64 0, .int .i64 nx, .slice none 0 0, .int .i64 rr, .slice none 0 0, .int .i64 0, .slice ua2 um2 uc2, .slice none 0 0, .slice none 0 0] 32 (0, 0))) := BGx.out
  have MG : Hid (MAt w11 w2.heap.size (.slice ua2 um2 uc2) us2 Y) := MGx.out
  have QH : Hid (ReadsSS w11 (.slice ua3 um3 uc3) Y) := QHx.out
  have BH : Hid (w11.heap[bBH]? = some (.cells #[.int .i64 0, .int .i64 nx, .slice none 0 0, .int .i64 rr, .slice none 0 0, .int .i64 0, .slice ua3 um3 uc3, .slice none 0 0, .slice none 0 0] 32 (0, 0))) := BHx.out
  clear LOWx QSx BSx BGx MGx QHx BHx
  have zw11 : Hid (w10.heap.size ≤ w11.heap.size) := (bc).size
  clear hheld
  go_wp2
  go_ret
  exact ⟨rfl, LOW.out⟩

set_option maxRecDepth 100000 in
theorem liftedFnExactNewServer (os : Os) (started : os.Started) (H : Type) (enc : TypeId × Value → H) :
    ReturnsInHanded {} Tryz.checked os 3 .any (fun w args => (Rows.fnExactNewServerSpec.pre enc Tryz.prog Tryz.f3 [] false w args ∧ laidMetH Tryz.prog Rows.fnExactNewServerRow.laid w) ∧ sizedMet enc Tryz.prog Tryz.f3 (OpenSpec.ofChange Rows.fnExactNewServerSpec) false w args)
      (Rows.fnExactNewServerSpec.post enc Tryz.prog Tryz.f3 false true false false) := by
  refine returnsInHanded_of_change_and (C := Tryz.checked) (X := fun w _ => laidMetH Tryz.prog Rows.fnExactNewServerRow.laid w) (fun _ _ _ hh h => h.of_heap hh) own started (by kernel_rfl) Tryz.func3
    (ChangeSpec.witness_shaped (enc := enc) (C := Tryz.checked) (os := os) (X := fun w _ => laidMetH Tryz.prog Rows.fnExactNewServerRow.laid w) false (World.laidAll Tryz.prog os Rows.fnExactNewServerRow.laid) #[.int .i64 0] 8 (World.laidAll_os _ _ _)
      (World.shaped_of_ZipB (by kernel_rfl) (by kernel_rfl)) (by kernel_rfl) (by kernel_rfl) (by kernel_rfl)
      (by rw [MakeChecks.laidMetH_plain _ _ _ (by kernel_rfl)]; exact laidMet_laidAll _ (by kernel_rfl) (by kernel_rfl))) ?_
  intro W base args ds gs before hval0 hW _ _ hL _
  have hval : ∀ (j : Nat) t v, Tryz.f3.params[j]? = some t → args[j]? = some v → Value.okWide Tryz.prog W .any base t v := hval0
  have hW' := hW
  obtain ⟨p, q, hA0, hV, rfl, hfz, hnd⟩ := hW
  have hA : DataW.TrodAll enc Tryz.prog W 0 (fun _ => true) true Tryz.f3.params.toList args.toList ds p := hA0
  rw [Tryz.params3] at hA hval
  obtain ⟨v0, d0, rfl, rfl, h0⟩ := trodAll_one hA
  obtain ⟨rfl, rfl⟩ := trodVars_none hV
  obtain ⟨rm, rfl, _⟩ := open_int Tryz.underlying2 (hval 0 2 v0 rfl rfl) h0
  refine (walkNewServer rm W).mono fun e W' ⟨he, hb⟩ => ?_
  subst he
  refine ⟨_, rfl, law_post (tb := 4) laidOut ?_ hW' rfl Tryz.underlying4 rfl rfl hb⟩
  exact all_readable (P := Tryz.prog) (by kernel_rfl)

theorem overFnExactNewServer : Rows.FnExactNewServerSaid :=
  OpenClaim.holds_of_wide 3 Tryz.f3 rfl rfl rfl rfl rfl rfl rfl ⟨rfl, rfl, rfl, rfl, rfl⟩ rfl rfl rfl rfl rfl (by kernel_rfl) Tryz.func3 (by kernel_rfl)
    (of_decide_eq_true (by kernel_rfl)) (by unfold Func.isWrapper; first | (rw [if_pos (by decide +kernel)]; kernel_rfl) | (rw [if_neg (by decide +kernel)]; exact ⟨rfl, rfl⟩))
    (fun os started H enc _ => liftedFnExactNewServer os started H enc)

/-- ████ THE STATEMENT: the tied card ████ -/
theorem newServerHolds : Rows.FnExactNewServerCardSaid :=
  Claim7.holds_tied_plain_at .later [] [.data, .data, .data, .data, .sentinel, .sentinel, .pinned] true Rows.fnExactNewServerCard.stood.harness true
    overFnExactNewServer (fun _ h => by cases h) (by kernel_rfl) (fun _ h => by cases h) fnExactNewServer_row_tie rfl ⟨rfl, rfl⟩ (by kernel_rfl) rfl
    (fun f fn hf hfn => by
      obtain rfl : f = 3 := Option.some.inj ((show Tryz.prog.funcNamed Rows.fnExactNewServerRow.func = some 3 by kernel_rfl).symm.trans hf) |>.symm
      obtain rfl : fn = Tryz.f3 := (Option.some.inj (Tryz.func3.symm.trans hfn)).symm
      exact ⟨by kernel_rfl, fun j t ht => by
        rw [Tryz.params3] at ht
        have h3 : t = 2 := by
          rcases j with _ | j
          · simpa using ht.symm
          · simp at ht
        subst h3
        exact (show Tryz.prog.wantsStandIn 2 = false by kernel_rfl)⟩)
    (by kernel_rfl)
#print axioms newServerHolds

end Go.Proofs.YtggglcjdnllnjaaGreatDoor
