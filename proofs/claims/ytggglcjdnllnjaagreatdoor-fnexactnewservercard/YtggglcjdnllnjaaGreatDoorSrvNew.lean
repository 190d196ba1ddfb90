/-
  Chapter 18: NewServer, both sides.
-/
import Derived.Test.YtggglcjdnllnjaaGreatDoorSrvOk
namespace Go.Proofs.YtggglcjdnllnjaaGreatDoor
open Go.ChangeShapes Go.WideShapes Go.ChangeAt Go.RowKit
set_option linter.unusedVariables false
set_option linter.unusedSimpArgs false
set_option maxHeartbeats 8000000
set_option maxRecDepth 20000

def set9 (W : World) (b : Nat) (x0 x1 x2 x3 x4 x5 x6 x7 x8 : Value) : World := ((((((((W.setCell ⟨b, 0, none⟩ x0).setCell ⟨b, 1, none⟩ x1).setCell ⟨b, 2, none⟩ x2).setCell ⟨b, 3, none⟩ x3).setCell ⟨b, 4, none⟩ x4).setCell ⟨b, 5, none⟩ x5).setCell ⟨b, 6, none⟩ x6).setCell ⟨b, 7, none⟩ x7).setCell ⟨b, 8, none⟩ x8
theorem set9_heap {W : World} {b : Nat} {y0 y1 y2 y3 y4 y5 y6 y7 y8 : Value} {t : TypeId} (h : W.heap[b]? = some (.cells #[y0, y1, y2, y3, y4, y5, y6, y7, y8] t (0, 0))) (x0 x1 x2 x3 x4 x5 x6 x7 x8 : Value) : (set9 W b x0 x1 x2 x3 x4 x5 x6 x7 x8).heap[b]? = some (.cells #[x0, x1, x2, x3, x4, x5, x6, x7, x8] t (0, 0)) := by
  unfold set9
  have h1 := heap_setCell_same _ b 0 _ t x0 h
  have h2 := heap_setCell_same _ b 1 _ t x1 h1
  have h3 := heap_setCell_same _ b 2 _ t x2 h2
  have h4 := heap_setCell_same _ b 3 _ t x3 h3
  have h5 := heap_setCell_same _ b 4 _ t x4 h4
  have h6 := heap_setCell_same _ b 5 _ t x5 h5
  have h7 := heap_setCell_same _ b 6 _ t x6 h6
  have h8 := heap_setCell_same _ b 7 _ t x7 h7
  have h9 := heap_setCell_same _ b 8 _ t x8 h8
  simpa using h9
theorem set9_below {n : Nat} {w W : World} {b : Nat} (h : Below n w W) (hb : n ≤ b) (x0 x1 x2 x3 x4 x5 x6 x7 x8 : Value) : Below n w (set9 W b x0 x1 x2 x3 x4 x5 x6 x7 x8) := by
  unfold set9
  exact (((((((((h.setCell hb _).setCell hb _).setCell hb _).setCell hb _).setCell hb _).setCell hb _).setCell hb _).setCell hb _).setCell hb _)
theorem set9_own {w : World} {base b : Nat} {v : Value} {us : List Value} {Y : List (List Int)} (h : OwnQ w base v us Y) (hb : b < base) (x0 x1 x2 x3 x4 x5 x6 x7 x8 : Value) : OwnQ (set9 w b x0 x1 x2 x3 x4 x5 x6 x7 x8) base v us Y := by
  unfold set9
  exact (((((((((h.set hb).set hb).set hb).set hb).set hb).set hb).set hb).set hb).set hb)
theorem nine_fz {w : World} {b : Nat} {x0 x1 x2 x3 x4 x5 x6 x7 x8 : Value} {T : TypeId} (h : w.heap[b]? = some (.cells #[x0, x1, x2, x3, x4, x5, x6, x7, x8] T (0, 0))) :
    w.frozen? ⟨b, 0, none⟩ = false ∧ w.frozen? ⟨b, 1, none⟩ = false ∧ w.frozen? ⟨b, 2, none⟩ = false ∧ w.frozen? ⟨b, 3, none⟩ = false ∧ w.frozen? ⟨b, 4, none⟩ = false ∧ w.frozen? ⟨b, 5, none⟩ = false ∧ w.frozen? ⟨b, 6, none⟩ = false ∧ w.frozen? ⟨b, 7, none⟩ = false ∧ w.frozen? ⟨b, 8, none⟩ = false := by
  refine ⟨?_, ?_, ?_, ?_, ?_, ?_, ?_, ?_, ?_⟩ <;> simp [World.frozen?, h]

/-- What NewServer answers: Next, the Room, the Lines. -/
def nxOf (rm : Int) : Int := if roomB rm = true then 1 else 0
def rmOf (rm : Int) : Int := if roomB rm = true then rm else 0
def lnOf (rm : Int) : List (List Int) := if roomB rm = true then List.replicate 8 [] else []
def NsP (rm : Int) (w : World) (e : Ending) (w' : World) : Prop := ∃ u us, e = .returned (.tuple #[.agg #[.int .i64 0, .int .i64 (nxOf rm), .slice none 0 0, .int .i64 (rmOf rm), .slice none 0 0, .int .i64 0, u, .slice none 0 0, .slice none 0 0], .bool (roomB rm)]) ∧ OwnQ w' w.heap.size u us (lnOf rm) ∧ ApartSS us ∧ Below w.heap.size w w'
theorem ownQ_none (w : World) (base : Nat) : OwnQ w base (.slice none 0 0) [] [] := ⟨⟨by simp, .inl ⟨rfl, rfl⟩⟩, fun j u xs h _ => by simp at h⟩
theorem ns_no {rm : Int} {w w' : World} (hr : roomB rm = false) (hb : Below w.heap.size w w') : NsP rm w (.returned (.tuple #[.agg #[.int .i64 0, .int .i64 0, .slice none 0 0, .int .i64 0, .slice none 0 0, .int .i64 0, .slice none 0 0, .slice none 0 0, .slice none 0 0], .bool false])) w' := by
  refine ⟨.slice none 0 0, [], ?_, ?_, apartSS_nil, hb⟩
  · simp [nxOf, rmOf, hr]
  · simp [lnOf, hr]; exact ownQ_none _ _
theorem ns_yes {rm : Int} {w w' : World} {u : Value} {us : List Value} (hr : roomB rm = true) (hb : Below w.heap.size w w') (ho : OwnQ w' w.heap.size u us (List.replicate 8 [])) (ha : ApartSS us) : NsP rm w (.returned (.tuple #[.agg #[.int .i64 0, .int .i64 1, .slice none 0 0, .int .i64 rm, .slice none 0 0, .int .i64 0, u, .slice none 0 0, .slice none 0 0], .bool true])) w' := by
  refine ⟨u, us, ?_, ?_, ha, hb⟩
  · simp [nxOf, rmOf, hr]
  · simp [lnOf, hr]; exact ho

theorem specNewServer (rm : Int) (w : World) : Calls Tryz.prog 4 #[.int .i64 rm] w (NsP rm w) := by
  obtain ⟨W0, hW0⟩ : ∃ W, w.alloc (.cells #[.int .i64 0, .int .i64 0, .slice none 0 0, .int .i64 0, .slice none 0 0, .int .i64 0, .slice none 0 0, .slice none 0 0, .slice none 0 0] 32) = W := ⟨_, rfl⟩
  have hB0 : Below w.heap.size w W0 := by rw [← hW0]; go_grown
  have HB0 : Hid (Below w.heap.size w W0) := hB0
  obtain ⟨bR, hbR⟩ : ∃ n, w.heap.size = n := ⟨_, rfl⟩
  have HR0 : Hid (W0.heap[bR]? = some (.cells #[.int .i64 0, .int .i64 0, .slice none 0 0, .int .i64 0, .slice none 0 0, .int .i64 0, .slice none 0 0, .slice none 0 0, .slice none 0 0] 32 (0, 0))) := by show W0.heap[bR]? = _; rw [← hW0, ← hbR]; exact heap_alloc_new w _
  have HBR : Hid (w.heap.size ≤ bR ∧ bR < W0.heap.size) := ⟨by omega, (Array.getElem?_eq_some_iff.1 HR0.out).1⟩
  have hin := l1In rm 1 20 W0
  clear hB0
  obtain ⟨b, hb⟩ : ∃ b, inB rm 1 20 = b := ⟨_, rfl⟩
  rw [hb] at hin
  have HRB : Hid (roomB rm = b) := hb
  clear hb
  cases b with
  | false =>
    have HE : Hid _ := ns_no HRB.out (set9_below HB0.out HBR.out.1 (.int .i64 0) (.int .i64 0) (.slice none 0 0) (.int .i64 0) (.slice none 0 0) (.int .i64 0) (.slice none 0 0) (.slice none 0 0) (.slice none 0 0))
    obtain ⟨f0, f1, f2, f3, f4, f5, f6, f7, f8⟩ := nine_fz HR0.out
    obtain ⟨y0, y1, y2, y3, y4, y5, y6, y7, y8⟩ := nine_in (set9_heap HR0.out (.int .i64 0) (.int .i64 0) (.slice none 0 0) (.int .i64 0) (.slice none 0 0) (.int .i64 0) (.slice none 0 0) (.slice none 0 0) (.slice none 0 0))
    obtain ⟨c0, c1, c2, c3, c4, c5, c6, c7, c8⟩ := nine_in HR0.out
    go_enter Tryz.func4, Tryz.ntmps4
    go_wp2_with fail
    go_at_call 9
    clear hW0 hbR
    refine hin.mono ?_
    rintro r w1 ⟨rfl, rfl⟩
    go_wp2
    unfold set9 at y0 y1 y2 y3 y4 y5 y6 y7 y8
    refine bodyPost_ret (v := .tuple #[.agg #[.int .i64 0, .int .i64 0, .slice none 0 0, .int .i64 0, .slice none 0 0, .int .i64 0, .slice none 0 0, .slice none 0 0, .slice none 0 0], .bool false]) (by simp [results, Tryz.results4, go_sem, y0, y1, y2, y3, y4, y5, y6, y7, y8]) rfl ?_
    exact HE.out
  | true =>
    obtain ⟨f0, f1, f2, f3, f4, f5, f6, f7, f8⟩ := nine_fz HR0.out
    obtain ⟨c0, c1, c2, c3, c4, c5, c6, c7, c8⟩ := nine_in HR0.out
    have hnq := specNewQueue W0
    go_enter Tryz.func4, Tryz.ntmps4
    go_wp2_with fail
    go_at_call 9
    clear hW0 hbR
    refine hin.mono ?_
    rintro r w1 ⟨rfl, rfl⟩
    go_wp2_with fail
    go_at_call 10
    refine hnq.mono ?_
    rintro r w2 ⟨u, us, rfl, ou, ap, b2⟩
    obtain ⟨ua, um, uc, rfl⟩ := own_sliceQ ou.row
    have HR2 := box_stepQ HR0.out b2
    have HE : Hid _ := ns_yes HRB.out (set9_below (low_stepQ HB0.out b2) HBR.out.1 (.int .i64 0) (.int .i64 1) (.slice none 0 0) (.int .i64 rm) (.slice none 0 0) (.int .i64 0) (.slice ua um uc) (.slice none 0 0) (.slice none 0 0)) ((set9_own ou HBR.out.2 (.int .i64 0) (.int .i64 1) (.slice none 0 0) (.int .i64 rm) (.slice none 0 0) (.int .i64 0) (.slice ua um uc) (.slice none 0 0) (.slice none 0 0)).mono (Nat.le_trans HBR.out.1 (Nat.le_of_lt HBR.out.2))) ap
    clear hnq hin f0 f1 f2 f3 f4 f5 f6 f7 f8 c0 c1 c2 c3 c4 c5 c6 c7 c8
    obtain ⟨f0, f1, f2, f3, f4, f5, f6, f7, f8⟩ := nine_fz HR2
    obtain ⟨y0, y1, y2, y3, y4, y5, y6, y7, y8⟩ := nine_in (set9_heap HR2 (.int .i64 0) (.int .i64 1) (.slice none 0 0) (.int .i64 rm) (.slice none 0 0) (.int .i64 0) (.slice ua um uc) (.slice none 0 0) (.slice none 0 0))
    obtain ⟨c0, c1, c2, c3, c4, c5, c6, c7, c8⟩ := nine_in HR2
    clear HR2 b2 ou ap
    go_wp2
    unfold set9 at y0 y1 y2 y3 y4 y5 y6 y7 y8
    refine bodyPost_ret (v := .tuple #[.agg #[.int .i64 0, .int .i64 1, .slice none 0 0, .int .i64 rm, .slice none 0 0, .int .i64 0, .slice ua um uc, .slice none 0 0, .slice none 0 0], .bool true]) (by simp [results, Tryz.results4, go_sem, y0, y1, y2, y3, y4, y5, y6, y7, y8]) rfl ?_
    exact HE.out

theorem implNewServer (rm : Int) (w : World) : Calls Tryz.prog 5 #[.int .i64 rm] w (NsP rm w) := by
  have hl8 : (List.replicate 8 ([] : List Int)).length ≤ maxLen := by unfold maxLen; simp
  have hx8 : ∀ xs ∈ List.replicate 8 ([] : List Int), xs.length ≤ maxLen := fun xs h => by rw [List.eq_of_mem_replicate h]; simp
  have hq8 : queB 0 (List.replicate 8 ([] : List Int)) = true := by decide
  have h08 : lenA 0 (List.replicate 8 ([] : List Int)) = 0 := by decide
  obtain ⟨W0, hW0⟩ : ∃ W, w.alloc (.cells #[.int .i64 0, .int .i64 0, .slice none 0 0, .int .i64 0, .slice none 0 0, .int .i64 0, .slice none 0 0, .slice none 0 0, .slice none 0 0] 32) = W := ⟨_, rfl⟩
  have hB0 : Below w.heap.size w W0 := by rw [← hW0]; go_grown
  have HB0 : Hid (Below w.heap.size w W0) := hB0
  obtain ⟨bR, hbR⟩ : ∃ n, w.heap.size = n := ⟨_, rfl⟩
  have HR0 : Hid (W0.heap[bR]? = some (.cells #[.int .i64 0, .int .i64 0, .slice none 0 0, .int .i64 0, .slice none 0 0, .int .i64 0, .slice none 0 0, .slice none 0 0, .slice none 0 0] 32 (0, 0))) := by show W0.heap[bR]? = _; rw [← hW0, ← hbR]; exact heap_alloc_new w _
  have HBR : Hid (w.heap.size ≤ bR ∧ bR < W0.heap.size) := ⟨by omega, (Array.getElem?_eq_some_iff.1 HR0.out).1⟩
  have hnq := implNewQueue W0
  clear hB0
  go_enter Tryz.func5, Tryz.ntmps5
  go_wp2_with fail
  go_at_call 11
  clear hW0 hbR
  refine hnq.mono ?_
  rintro r w1 ⟨u, us, rfl, ou, ap, b1⟩
  obtain ⟨ua, um, uc, rfl⟩ := own_sliceQ ou.row
  obtain ⟨w2y, hw2y⟩ : ∃ W, w1.alloc (.cells #[.int .i64 0, .int .i64 1, .slice none 0 0, .int .i64 rm, .slice none 0 0, .int .i64 0, .slice ua um uc, .slice none 0 0, .slice none 0 0] 32) = W := ⟨_, rfl⟩
  have b2y : Below w1.heap.size w1 w2y := by rw [← hw2y]; go_grown
  obtain ⟨bS, hbS⟩ : ∃ n, w1.heap.size = n := ⟨_, rfl⟩
  have HS2y : w2y.heap[bS]? = some (.cells #[.int .i64 0, .int .i64 1, .slice none 0 0, .int .i64 rm, .slice none 0 0, .int .i64 0, .slice ua um uc, .slice none 0 0, .slice none 0 0] 32 (0, 0)) := by rw [← hw2y, ← hbS]; exact heap_alloc_new w1 _
  obtain ⟨-, -, -, -, -, -, -, f7, f8⟩ := nine_fz HS2y
  obtain ⟨-, -, -, -, -, -, -, k7, k8⟩ := nine_in HS2y
  obtain ⟨w2, hw2⟩ : ∃ W, (w2y.setCell ⟨bS, 7, none⟩ (.slice none 0 0)).setCell ⟨bS, 8, none⟩ (.slice none 0 0) = W := ⟨_, rfl⟩
  have b2 : Below w1.heap.size w1 w2 := by rw [← hw2]; exact (b2y.setCell (by simp; omega) _).setCell (by simp; omega) _
  have HS2 : Hid (w2.heap[bS]? = some (.cells #[.int .i64 0, .int .i64 1, .slice none 0 0, .int .i64 rm, .slice none 0 0, .int .i64 0, .slice ua um uc, .slice none 0 0, .slice none 0 0] 32 (0, 0))) := by
    show w2.heap[bS]? = _
    rw [← hw2]
    have h1 := heap_setCell_same w2y bS 7 _ _ (.slice none 0 0) HS2y
    have h2 := heap_setCell_same _ bS 8 _ _ (.slice none 0 0) h1
    simpa using h2
  clear HS2y b2y
  have HO2 : Hid (OwnQ w2 W0.heap.size (.slice ua um uc) us (List.replicate 8 [])) := ou.below b2
  have HR2 : Hid (w2.heap[bR]? = some (.cells #[.int .i64 0, .int .i64 0, .slice none 0 0, .int .i64 0, .slice none 0 0, .int .i64 0, .slice none 0 0, .slice none 0 0, .slice none 0 0] 32 (0, 0))) := box_stepQ (box_stepQ HR0.out b1) b2
  have HB2 : Hid (Below w.heap.size w w2) := low_stepQ (low_stepQ HB0.out b1) b2
  have HSZ : Hid (W0.heap.size ≤ w2.heap.size) := Nat.le_trans b1.size b2.size
  have HNE : Hid (bR < bS) := by
    have h1 := HBR.out.2
    have h2 := b1.size
    show bR < bS
    omega
  have HAP : Hid (ApartSS us) := ap
  have hsv := serverOk0 rm (List.replicate 8 []) (.slice ua um uc) w2 hl8 hx8 HO2.out.reads h08 hq8
  clear hnq ou ap b1 b2 HR0 HB0 hl8 hx8 hq8 h08
  obtain ⟨c0, c1, c2, c3, c4, c5, c6, c7, c8⟩ := nine_in HS2.out
  obtain ⟨b, hb⟩ : ∃ b, roomB rm = b := ⟨_, rfl⟩
  rw [hb] at hsv
  have HRB : Hid (roomB rm = b) := hb
  clear hb
  go_wp2_with fail
  go_at_call 12
  clear hw2 hbS hw2y f7 f8 k7 k8
  refine hsv.mono ?_
  rintro r w3 ⟨rfl, b3⟩
  have HS3 : Hid (w3.heap[bS]? = some (.cells #[.int .i64 0, .int .i64 1, .slice none 0 0, .int .i64 rm, .slice none 0 0, .int .i64 0, .slice ua um uc, .slice none 0 0, .slice none 0 0] 32 (0, 0))) := box_stepQ HS2.out b3
  have HO3 : Hid (OwnQ w3 W0.heap.size (.slice ua um uc) us (List.replicate 8 [])) := HO2.out.below b3
  have HR3 : Hid (w3.heap[bR]? = some (.cells #[.int .i64 0, .int .i64 0, .slice none 0 0, .int .i64 0, .slice none 0 0, .int .i64 0, .slice none 0 0, .slice none 0 0, .slice none 0 0] 32 (0, 0))) := box_stepQ HR2.out b3
  have HB3 : Hid (Below w.heap.size w w3) := low_stepQ HB2.out b3
  clear hsv b3 c0 c1 c2 c3 c4 c5 c6 c7 c8 HS2 HO2 HR2 HB2
  obtain ⟨c0, c1, c2, c3, c4, c5, c6, c7, c8⟩ := nine_in HS3.out
  obtain ⟨f0, f1, f2, f3, f4, f5, f6, f7, f8⟩ := nine_fz HR3.out
  obtain ⟨d0, d1, d2, d3, d4, d5, d6, d7, d8⟩ := nine_in HR3.out
  cases b with
  | false =>
    have HE : Hid _ := ns_no HRB.out (set9_below HB3.out HBR.out.1 (.int .i64 0) (.int .i64 0) (.slice none 0 0) (.int .i64 0) (.slice none 0 0) (.int .i64 0) (.slice none 0 0) (.slice none 0 0) (.slice none 0 0))
    obtain ⟨y0, y1, y2, y3, y4, y5, y6, y7, y8⟩ := nine_in (set9_heap HR3.out (.int .i64 0) (.int .i64 0) (.slice none 0 0) (.int .i64 0) (.slice none 0 0) (.int .i64 0) (.slice none 0 0) (.slice none 0 0) (.slice none 0 0))
    go_wp2
    unfold set9 at y0 y1 y2 y3 y4 y5 y6 y7 y8
    refine bodyPost_ret (v := .tuple #[.agg #[.int .i64 0, .int .i64 0, .slice none 0 0, .int .i64 0, .slice none 0 0, .int .i64 0, .slice none 0 0, .slice none 0 0, .slice none 0 0], .bool false]) (by simp [results, Tryz.results5, go_sem, y0, y1, y2, y3, y4, y5, y6, y7, y8]) rfl ?_
    exact HE.out
  | true =>
    have HE : Hid _ := ns_yes HRB.out (set9_below HB3.out HBR.out.1 (.int .i64 0) (.int .i64 1) (.slice none 0 0) (.int .i64 rm) (.slice none 0 0) (.int .i64 0) (.slice ua um uc) (.slice none 0 0) (.slice none 0 0)) ((set9_own HO3.out HBR.out.2 (.int .i64 0) (.int .i64 1) (.slice none 0 0) (.int .i64 rm) (.slice none 0 0) (.int .i64 0) (.slice ua um uc) (.slice none 0 0) (.slice none 0 0)).mono (Nat.le_trans HBR.out.1 (Nat.le_of_lt HBR.out.2))) HAP.out
    obtain ⟨y0, y1, y2, y3, y4, y5, y6, y7, y8⟩ := nine_in (set9_heap HR3.out (.int .i64 0) (.int .i64 1) (.slice none 0 0) (.int .i64 rm) (.slice none 0 0) (.int .i64 0) (.slice ua um uc) (.slice none 0 0) (.slice none 0 0))
    go_wp2
    unfold set9 at y0 y1 y2 y3 y4 y5 y6 y7 y8
    refine bodyPost_ret (v := .tuple #[.agg #[.int .i64 0, .int .i64 1, .slice none 0 0, .int .i64 rm, .slice none 0 0, .int .i64 0, .slice ua um uc, .slice none 0 0, .slice none 0 0], .bool true]) (by simp [results, Tryz.results5, go_sem, y0, y1, y2, y3, y4, y5, y6, y7, y8]) rfl ?_
    exact HE.out

end Go.Proofs.YtggglcjdnllnjaaGreatDoor
