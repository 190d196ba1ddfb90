/-
  The law FnShown: a program is read from what it is shown as, and a text that is read is the one of its program; the tied card.
-/
import Derived.Test.YtjdmmpdcafbneaaDoorDrawShown
import Derived.Test.YtjdmmpdcafbneaaDoorG44DoSet
import Derived.Test.YtjdmmpdcafbneaaDoorShowI
import Derived.Test.YtjdmmpdcafbneaaDoorProgOk
import Derived.Test.YtjdmmpdcafbneaaDoorLikeProg
import Derived.Test.YtjdmmpdcafbneaaDoorOpenCode
import Derived.Test.YtjdmmpdcafbneaaDoorCards
import Derived.Test.YtjdmmpdcafbneaaDoorTie
import Derived.Test.YtjdmmpdcafbneaaDoorG12Progs
import Derived.Shelf.Vars
import Derived.Lib.LaidU8
import Derived.LaidMore
import Derived.Lay
import Derived.SevenTiedAt
import Derived.Stop.Joined
namespace Go.Proofs.YtjdmmpdcafbneaaDoor
open Go.ChangeShapes Go.WideShapes Go.ChangeAt Go.RowKit
set_option linter.unusedVariables false
set_option linter.unusedSimpArgs false
set_option maxHeartbeats 8000000
set_option maxRecDepth 20000

theorem box_stepS {W W' : World} {b : Nat} {o : Obj} (h : W.heap[b]? = some o) (hb : Below W.heap.size W W') : W'.heap[b]? = some o := (hb.block b (Array.getElem?_eq_some_iff.1 h).1).trans h
theorem low_stepS {w W W' : World} (h : Below w.heap.size w W) (hb : Below W.heap.size W W') : Below w.heap.size w W' := h.trans (hb.mono h.size)
theorem lens_shown {ps : List (List Stm)} (h : programOk ps = true) : ps.length ≤ 100 ∧ ∀ p ∈ ps, p.length ≤ 100 := by
  have h1 := progs_all h
  exact ⟨by omega, fun p hp => by have := (h1.2.2 p hp).1; omega⟩
/-- What is read twice of one text. -/
theorem rp_same {s : List UInt8} {b1 b2 : Bool} {p1 p2 : List (List Stm)} (h1 : IsRead s (if b1 = true then some p1 else none)) (h2 : IsRead s (if b2 = true then some p2 else none)) (f1 : b1 = false → p1 = []) (f2 : b2 = false → p2 = []) : b2 = b1 ∧ p2 = p1 := by
  have h := isRead_uniq h1 h2
  cases b1 <;> cases b2 <;> simp at h
  · exact ⟨rfl, by rw [f1 rfl, f2 rfl]⟩
  · exact ⟨rfl, h.symm⟩
theorem read_lens {s : List UInt8} {b : Bool} {p : List (List Stm)} (h : IsRead s (if b = true then some p else none)) (f : b = false → p = []) : p.length ≤ 100 ∧ ∀ q ∈ p, q.length ≤ 100 := by
  cases b with
  | false => rw [f rfl]; simp
  | true => exact lens_shown (by simpa [IsRead] using h.1)
/-- A program that is shown is read again. -/
theorem read_shown {ps : List (List Stm)} {b : Bool} {p : List (List Stm)} (hok : programOk ps = true) (h : IsRead (toL ⟨(showA ps).toArray⟩) (if b = true then some p else none)) : b = true ∧ p = ps := by
  have h0 : IsRead (toL ⟨(showA ps).toArray⟩) (some ps) := ⟨hok, by unfold showA toL; rw [if_pos hok]⟩
  have h1 := isRead_uniq h0 h
  cases b with
  | false => cases h1
  | true => exact ⟨rfl, (Option.some.inj h1).symm⟩
theorem shown_empty {ps : List (List Stm)} : (⟨(showA ps).toArray⟩ : ByteArray).toList.isEmpty = !programOk ps := by
  cases h : programOk ps with
  | false =>
    have e : showA ps = [] := by unfold showA; rw [h]; rfl
    rw [e, ByteArray.toList_mk]; rfl
  | true =>
    have hne : showA ps ≠ [] := by
      intro e
      have h1 : IsRead [] (some ps) := ⟨h, by unfold showA at e; rw [if_pos h] at e; exact e⟩
      cases isRead_uniq h1 isRead_nothing
    rw [ByteArray.toList_mk]
    cases hsa : showA ps with
    | nil => exact absurd hsa hne
    | cons a l => rfl
theorem text_read {t : ByteArray} {p : List (List Stm)} (h : IsRead (toL t) (some p)) : (⟨(showA p).toArray⟩ : ByteArray) = t := by
  apply toL_inj
  have h1 : showA p = showT p := by unfold showA; rw [if_pos h.1]
  rw [h1]
  exact h.2

theorem walkFnShown (bs : List Int) (v : Value) (w : World) (hl : bs.length ≤ maxLen) (hv : Reads w v (bs.map (Value.int .u8))) (hld : Laid w) :
    Calls Tryd.prog 3 #[v] w fun e w' => e = .returned (.bool true) ∧ Below w.heap.size w w' := by
  have hbig := lawBig bs v w hl hv
  by_cases hb : (4096 : Int) < (bs.length : Int)
  · rw [decide_eq_true hb] at hbig
    go_enter Tryd.func3, Tryd.ntmps3
    go_wp2_with (go_at_call 4; refine hbig.mono ?_; rintro e w1 ⟨rfl, rfl⟩)
    go_ret
    exact ⟨rfl, Below.refl _ _⟩
  rw [decide_eq_false hb] at hbig
  have hbl : bs.length ≤ 1048576 := by omega
  have HBL : Hid (bs.length ≤ 1048576) := hbl
  go_enter Tryd.func3, Tryd.ntmps3
  go_wp2_with fail
  go_at_call 4
  refine hbig.mono ?_
  rintro e w0 ⟨rfl, rfl⟩
  clear hbig hb hl hbl
  have LOW : Hid (Below w.heap.size w w) := Below.refl _ _
  have LD : Hid (Laid w) := hld
  have RC : Hid (Reads w v (bs.map (Value.int .u8))) := hv
  clear hld hv
  have hcall := drawShow bs v w HBL.out RC.out
  go_wp2_with fail
  go_at_call 5
  refine hcall.mono ?_
  rintro r w1 ⟨up, L, rfl, h5, h14, pr1, bc⟩
  clear hcall
  have LOWx : Hid (Below w.heap.size w w1) := low_stepS LOW.out bc
  have LDx : Hid (Laid w1) := Laid.below LD.out bc
  have RCx : Hid (Reads w1 v (bs.map (Value.int .u8))) := reads_below RC.out bc
  clear LOW LD RC
  have LOW : Hid (Below w.heap.size w w1) := LOWx.out
  have LD : Hid (Laid w1) := LDx.out
  have RC : Hid (Reads w1 v (bs.map (Value.int .u8))) := RCx.out
  clear LOWx LDx RCx
  obtain ⟨ps, rp, hpL⟩ := pr1.reads
  obtain ⟨hps, hpe⟩ := drawn_lensS hpL h5 h14
  obtain ⟨pa, pn, pc, rfl⟩ := pr1.slice
  have RP : Hid (ReadsP w1 (.slice pa pn pc) ps) := rp
  have HPS : Hid _ := hps
  have HPE : Hid _ := hpe
  clear rp pr1 hpL h5 h14 hps hpe bc
  obtain ⟨w2, hAw2⟩ : ∃ W, w1.alloc (.cells #[.slice pa pn pc] 26) = W := ⟨_, rfl⟩
  have bb : Below w1.heap.size w1 w2 := by rw [← hAw2]; go_grown
  obtain ⟨bBP, hBw2⟩ : ∃ n, w1.heap.size = n := ⟨_, rfl⟩
  have BPn : Hid (w2.heap[bBP]? = some (.cells #[.slice pa pn pc] 26 (0, 0))) := by
    show w2.heap[bBP]? = _
    rw [← hAw2, ← hBw2]; exact heap_alloc_new w1 _
  have LOWx : Hid (Below w.heap.size w w2) := low_stepS LOW.out bb
  have LDx : Hid (Laid w2) := Laid.below LD.out bb
  have RCx : Hid (Reads w2 v (bs.map (Value.int .u8))) := reads_below RC.out bb
  have RPx : Hid (ReadsP w2 (.slice pa pn pc) ps) := readsP_below RP.out bb
  clear LOW LD RC RP
  have LOW : Hid (Below w.heap.size w w2) := LOWx.out
  have LD : Hid (Laid w2) := LDx.out
  have RC : Hid (Reads w2 v (bs.map (Value.int .u8))) := RCx.out
  have RP : Hid (ReadsP w2 (.slice pa pn pc) ps) := RPx.out
  clear LOWx LDx RCx RPx
  clear bb
  have BP : Hid (w2.heap[bBP]? = some (.cells #[.slice pa pn pc] 26 (0, 0))) := BPn.out
  clear BPn
  obtain ⟨cp, -⟩ := one_cell BP.out
  obtain ⟨sx, hsx⟩ : ∃ s : ByteArray, (⟨(showA ps).toArray⟩ : ByteArray) = s := ⟨_, rfl⟩
  obtain ⟨ok, hok⟩ : ∃ b, programOk ps = b := ⟨_, rfl⟩
  have hem : sx.toList.isEmpty = !ok := by rw [← hsx, ← hok]; exact shown_empty
  have HSX : Hid _ := hsx
  have HOK : Hid _ := hok
  clear hsx hok
  have hsh := implShow ps (.slice pa pn pc) w2 HPS.out HPE.out RP.out
  rw [HSX.out] at hsh
  have hcall := hsh
  go_wp2_with fail
  go_at_call 6
  clear hAw2 hBw2
  refine hcall.mono ?_
  rintro r w3 ⟨rfl, bc⟩
  clear hcall cp
  have LOWx : Hid (Below w.heap.size w w3) := low_stepS LOW.out bc
  have LDx : Hid (Laid w3) := Laid.below LD.out bc
  have RCx : Hid (Reads w3 v (bs.map (Value.int .u8))) := reads_below RC.out bc
  have RPx : Hid (ReadsP w3 (.slice pa pn pc) ps) := readsP_below RP.out bc
  have BPx : Hid (w3.heap[bBP]? = some (.cells #[.slice pa pn pc] 26 (0, 0))) := box_stepS BP.out bc
  clear LOW LD RC RP BP
  have LOW : Hid (Below w.heap.size w w3) := LOWx.out
  have LD : Hid (Laid w3) := LDx.out
  have RC : Hid (Reads w3 v (bs.map (Value.int .u8))) := RCx.out
  have RP : Hid (ReadsP w3 (.slice pa pn pc) ps) := RPx.out
  have BP : Hid (w3.heap[bBP]? = some (.cells #[.slice pa pn pc] 26 (0, 0))) := BPx.out
  clear LOWx LDx RCx RPx BPx
  clear hsh bc
  have hcall := drawRead bs v w3 HBL.out RC.out
  go_wp2_with fail
  go_at_call 7
  refine hcall.mono ?_
  rintro r w4 ⟨t, rfl, ht, bc⟩
  clear hcall
  have LOWx : Hid (Below w.heap.size w w4) := low_stepS LOW.out bc
  have LDx : Hid (Laid w4) := Laid.below LD.out bc
  have RCx : Hid (Reads w4 v (bs.map (Value.int .u8))) := reads_below RC.out bc
  have RPx : Hid (ReadsP w4 (.slice pa pn pc) ps) := readsP_below RP.out bc
  have BPx : Hid (w4.heap[bBP]? = some (.cells #[.slice pa pn pc] 26 (0, 0))) := box_stepS BP.out bc
  clear LOW LD RC RP BP
  have LOW : Hid (Below w.heap.size w w4) := LOWx.out
  have LD : Hid (Laid w4) := LDx.out
  have RC : Hid (Reads w4 v (bs.map (Value.int .u8))) := RCx.out
  have RP : Hid (ReadsP w4 (.slice pa pn pc) ps) := RPx.out
  have BP : Hid (w4.heap[bBP]? = some (.cells #[.slice pa pn pc] 26 (0, 0))) := BPx.out
  clear LOWx LDx RCx RPx BPx
  have HT : Hid (t.size ≤ 1048576) := Nat.le_trans ht (by omega)
  clear ht bc
  have hcall := implRead t w4 LD.out HT.out
  go_wp2_with fail
  go_at_call 8
  refine hcall.mono ?_
  rintro r w5 ⟨ux, usx, px, bx, rfl, bc, ox, hrx, hfx⟩
  clear hcall
  have LOWx : Hid (Below w.heap.size w w5) := low_stepS LOW.out bc
  have LDx : Hid (Laid w5) := Laid.below LD.out bc
  have RCx : Hid (Reads w5 v (bs.map (Value.int .u8))) := reads_below RC.out bc
  have RPx : Hid (ReadsP w5 (.slice pa pn pc) ps) := readsP_below RP.out bc
  have BPx : Hid (w5.heap[bBP]? = some (.cells #[.slice pa pn pc] 26 (0, 0))) := box_stepS BP.out bc
  clear LOW LD RC RP BP
  have LOW : Hid (Below w.heap.size w w5) := LOWx.out
  have LD : Hid (Laid w5) := LDx.out
  have RC : Hid (Reads w5 v (bs.map (Value.int .u8))) := RCx.out
  have RP : Hid (ReadsP w5 (.slice pa pn pc) ps) := RPx.out
  have BP : Hid (w5.heap[bBP]? = some (.cells #[.slice pa pn pc] 26 (0, 0))) := BPx.out
  clear LOWx LDx RCx RPx BPx
  obtain ⟨xa, xm, xc, rfl⟩ := own_slice ox.row
  have RX : Hid (ReadsP w5 (.slice xa xm xc) px) := readsP_own ox.ownP
  have HRX : Hid _ := hrx
  have HFX : Hid _ := hfx
  clear ox hrx hfx bc
  obtain ⟨w6, hAw6⟩ : ∃ W, w5.alloc (.cells #[.slice xa xm xc] 26) = W := ⟨_, rfl⟩
  have bb : Below w5.heap.size w5 w6 := by rw [← hAw6]; go_grown
  obtain ⟨bBX, hBw6⟩ : ∃ n, w5.heap.size = n := ⟨_, rfl⟩
  have BXn : Hid (w6.heap[bBX]? = some (.cells #[.slice xa xm xc] 26 (0, 0))) := by
    show w6.heap[bBX]? = _
    rw [← hAw6, ← hBw6]; exact heap_alloc_new w5 _
  have LOWx : Hid (Below w.heap.size w w6) := low_stepS LOW.out bb
  have LDx : Hid (Laid w6) := Laid.below LD.out bb
  have RCx : Hid (Reads w6 v (bs.map (Value.int .u8))) := reads_below RC.out bb
  have RPx : Hid (ReadsP w6 (.slice pa pn pc) ps) := readsP_below RP.out bb
  have BPx : Hid (w6.heap[bBP]? = some (.cells #[.slice pa pn pc] 26 (0, 0))) := box_stepS BP.out bb
  have RXx : Hid (ReadsP w6 (.slice xa xm xc) px) := readsP_below RX.out bb
  clear LOW LD RC RP BP RX
  have LOW : Hid (Below w.heap.size w w6) := LOWx.out
  have LD : Hid (Laid w6) := LDx.out
  have RC : Hid (Reads w6 v (bs.map (Value.int .u8))) := RCx.out
  have RP : Hid (ReadsP w6 (.slice pa pn pc) ps) := RPx.out
  have BP : Hid (w6.heap[bBP]? = some (.cells #[.slice pa pn pc] 26 (0, 0))) := BPx.out
  have RX : Hid (ReadsP w6 (.slice xa xm xc) px) := RXx.out
  clear LOWx LDx RCx RPx BPx RXx
  clear bb
  have BX : Hid (w6.heap[bBX]? = some (.cells #[.slice xa xm xc] 26 (0, 0))) := BXn.out
  clear BXn
  have hcall := specRead t w6 HT.out
  go_wp2_with fail
  go_at_call 9
  clear hAw6 hBw6
  refine hcall.mono ?_
  rintro r w7 ⟨uy, usy, py, by9, rfl, bc, oy, hry, hfy⟩
  clear hcall
  have LOWx : Hid (Below w.heap.size w w7) := low_stepS LOW.out bc
  have LDx : Hid (Laid w7) := Laid.below LD.out bc
  have RCx : Hid (Reads w7 v (bs.map (Value.int .u8))) := reads_below RC.out bc
  have RPx : Hid (ReadsP w7 (.slice pa pn pc) ps) := readsP_below RP.out bc
  have BPx : Hid (w7.heap[bBP]? = some (.cells #[.slice pa pn pc] 26 (0, 0))) := box_stepS BP.out bc
  have RXx : Hid (ReadsP w7 (.slice xa xm xc) px) := readsP_below RX.out bc
  have BXx : Hid (w7.heap[bBX]? = some (.cells #[.slice xa xm xc] 26 (0, 0))) := box_stepS BX.out bc
  clear LOW LD RC RP BP RX BX
  have LOW : Hid (Below w.heap.size w w7) := LOWx.out
  have LD : Hid (Laid w7) := LDx.out
  have RC : Hid (Reads w7 v (bs.map (Value.int .u8))) := RCx.out
  have RP : Hid (ReadsP w7 (.slice pa pn pc) ps) := RPx.out
  have BP : Hid (w7.heap[bBP]? = some (.cells #[.slice pa pn pc] 26 (0, 0))) := BPx.out
  have RX : Hid (ReadsP w7 (.slice xa xm xc) px) := RXx.out
  have BX : Hid (w7.heap[bBX]? = some (.cells #[.slice xa xm xc] 26 (0, 0))) := BXx.out
  clear LOWx LDx RCx RPx BPx RXx BXx
  obtain ⟨ya, ym, yc, rfl⟩ := own_slice oy.row
  obtain ⟨rfl, rfl⟩ := rp_same HRX.out hry (fun h => (HFX.out h).2.2) (fun h => (hfy h).2.2)
  have RY : Hid (ReadsP w7 (.slice ya ym yc) py) := readsP_own oy.ownP
  obtain ⟨l1, l2⟩ := read_lens HRX.out (fun h => (HFX.out h).2.2)
  clear oy hry hfy bc
  obtain ⟨w8, hAw8⟩ : ∃ W, w7.alloc (.cells #[.slice ya ym yc] 26) = W := ⟨_, rfl⟩
  have bb : Below w7.heap.size w7 w8 := by rw [← hAw8]; go_grown
  obtain ⟨bBY, hBw8⟩ : ∃ n, w7.heap.size = n := ⟨_, rfl⟩
  have BYn : Hid (w8.heap[bBY]? = some (.cells #[.slice ya ym yc] 26 (0, 0))) := by
    show w8.heap[bBY]? = _
    rw [← hAw8, ← hBw8]; exact heap_alloc_new w7 _
  have LOWx : Hid (Below w.heap.size w w8) := low_stepS LOW.out bb
  have LDx : Hid (Laid w8) := Laid.below LD.out bb
  have RCx : Hid (Reads w8 v (bs.map (Value.int .u8))) := reads_below RC.out bb
  have RPx : Hid (ReadsP w8 (.slice pa pn pc) ps) := readsP_below RP.out bb
  have BPx : Hid (w8.heap[bBP]? = some (.cells #[.slice pa pn pc] 26 (0, 0))) := box_stepS BP.out bb
  have RXx : Hid (ReadsP w8 (.slice xa xm xc) py) := readsP_below RX.out bb
  have BXx : Hid (w8.heap[bBX]? = some (.cells #[.slice xa xm xc] 26 (0, 0))) := box_stepS BX.out bb
  have RYx : Hid (ReadsP w8 (.slice ya ym yc) py) := readsP_below RY.out bb
  clear LOW LD RC RP BP RX BX RY
  have LOW : Hid (Below w.heap.size w w8) := LOWx.out
  have LD : Hid (Laid w8) := LDx.out
  have RC : Hid (Reads w8 v (bs.map (Value.int .u8))) := RCx.out
  have RP : Hid (ReadsP w8 (.slice pa pn pc) ps) := RPx.out
  have BP : Hid (w8.heap[bBP]? = some (.cells #[.slice pa pn pc] 26 (0, 0))) := BPx.out
  have RX : Hid (ReadsP w8 (.slice xa xm xc) py) := RXx.out
  have BX : Hid (w8.heap[bBX]? = some (.cells #[.slice xa xm xc] 26 (0, 0))) := BXx.out
  have RY : Hid (ReadsP w8 (.slice ya ym yc) py) := RYx.out
  clear LOWx LDx RCx RPx BPx RXx BXx RYx
  clear bb
  have BY : Hid (w8.heap[bBY]? = some (.cells #[.slice ya ym yc] 26 (0, 0))) := BYn.out
  clear BYn
  obtain ⟨cx, -⟩ := one_cell BX.out
  obtain ⟨cy, -⟩ := one_cell BY.out
  have hne : (by9 != by9) = false := by cases by9 <;> rfl
  have hcall := likeProgram py (.slice xa xm xc) (.slice ya ym yc) w8 l1 l2 RX.out RY.out
  go_wp2_with fail
  go_at_call 10
  clear hAw8 hBw8
  refine hcall.mono ?_
  rintro r w9 ⟨rfl, bc⟩
  clear hcall cx cy
  have LOWx : Hid (Below w.heap.size w w9) := low_stepS LOW.out bc
  have LDx : Hid (Laid w9) := Laid.below LD.out bc
  have RCx : Hid (Reads w9 v (bs.map (Value.int .u8))) := reads_below RC.out bc
  have RPx : Hid (ReadsP w9 (.slice pa pn pc) ps) := readsP_below RP.out bc
  have BPx : Hid (w9.heap[bBP]? = some (.cells #[.slice pa pn pc] 26 (0, 0))) := box_stepS BP.out bc
  have RXx : Hid (ReadsP w9 (.slice xa xm xc) py) := readsP_below RX.out bc
  have BXx : Hid (w9.heap[bBX]? = some (.cells #[.slice xa xm xc] 26 (0, 0))) := box_stepS BX.out bc
  have RYx : Hid (ReadsP w9 (.slice ya ym yc) py) := readsP_below RY.out bc
  have BYx : Hid (w9.heap[bBY]? = some (.cells #[.slice ya ym yc] 26 (0, 0))) := box_stepS BY.out bc
  clear LOW LD RC RP BP RX BX RY BY
  have LOW : Hid (Below w.heap.size w w9) := LOWx.out
  have LD : Hid (Laid w9) := LDx.out
  have RC : Hid (Reads w9 v (bs.map (Value.int .u8))) := RCx.out
  have RP : Hid (ReadsP w9 (.slice pa pn pc) ps) := RPx.out
  have BP : Hid (w9.heap[bBP]? = some (.cells #[.slice pa pn pc] 26 (0, 0))) := BPx.out
  have RX : Hid (ReadsP w9 (.slice xa xm xc) py) := RXx.out
  have BX : Hid (w9.heap[bBX]? = some (.cells #[.slice xa xm xc] 26 (0, 0))) := BXx.out
  have RY : Hid (ReadsP w9 (.slice ya ym yc) py) := RYx.out
  have BY : Hid (w9.heap[bBY]? = some (.cells #[.slice ya ym yc] 26 (0, 0))) := BYx.out
  clear LOWx LDx RCx RPx BPx RXx BXx RYx BYx
  clear bc
  obtain ⟨cp, -⟩ := one_cell BP.out
  have hsh := specShow ps (.slice pa pn pc) w9 HPS.out HPE.out RP.out
  rw [HSX.out] at hsh
  have hss : (sx.toList == sx.toList) = true := by simp
  have hsn : (sx.toList != sx.toList) = false := by simp
  have hcall := hsh
  go_wp2_with fail
  go_at_call 11
  refine hcall.mono ?_
  rintro r w10 ⟨rfl, bc⟩
  clear hcall cp
  have LOWx : Hid (Below w.heap.size w w10) := low_stepS LOW.out bc
  have LDx : Hid (Laid w10) := Laid.below LD.out bc
  have RCx : Hid (Reads w10 v (bs.map (Value.int .u8))) := reads_below RC.out bc
  have RPx : Hid (ReadsP w10 (.slice pa pn pc) ps) := readsP_below RP.out bc
  have BPx : Hid (w10.heap[bBP]? = some (.cells #[.slice pa pn pc] 26 (0, 0))) := box_stepS BP.out bc
  have RXx : Hid (ReadsP w10 (.slice xa xm xc) py) := readsP_below RX.out bc
  have BXx : Hid (w10.heap[bBX]? = some (.cells #[.slice xa xm xc] 26 (0, 0))) := box_stepS BX.out bc
  have RYx : Hid (ReadsP w10 (.slice ya ym yc) py) := readsP_below RY.out bc
  have BYx : Hid (w10.heap[bBY]? = some (.cells #[.slice ya ym yc] 26 (0, 0))) := box_stepS BY.out bc
  clear LOW LD RC RP BP RX BX RY BY
  have LOW : Hid (Below w.heap.size w w10) := LOWx.out
  have LD : Hid (Laid w10) := LDx.out
  have RC : Hid (Reads w10 v (bs.map (Value.int .u8))) := RCx.out
  have RP : Hid (ReadsP w10 (.slice pa pn pc) ps) := RPx.out
  have BP : Hid (w10.heap[bBP]? = some (.cells #[.slice pa pn pc] 26 (0, 0))) := BPx.out
  have RX : Hid (ReadsP w10 (.slice xa xm xc) py) := RXx.out
  have BX : Hid (w10.heap[bBX]? = some (.cells #[.slice xa xm xc] 26 (0, 0))) := BXx.out
  have RY : Hid (ReadsP w10 (.slice ya ym yc) py) := RYx.out
  have BY : Hid (w10.heap[bBY]? = some (.cells #[.slice ya ym yc] 26 (0, 0))) := BYx.out
  clear LOWx LDx RCx RPx BPx RXx BXx RYx BYx
  clear hsh bc
  obtain ⟨cp, -⟩ := one_cell BP.out
  have hpo := implProgramOk ps (.slice pa pn pc) w10 HPS.out HPE.out RP.out
  rw [HOK.out] at hpo
  have hcall := hpo
  go_wp2_with fail
  go_at_call 12
  refine hcall.mono ?_
  rintro r w11 ⟨rfl, bc⟩
  clear hcall cp
  have LOWx : Hid (Below w.heap.size w w11) := low_stepS LOW.out bc
  have LDx : Hid (Laid w11) := Laid.below LD.out bc
  have RCx : Hid (Reads w11 v (bs.map (Value.int .u8))) := reads_below RC.out bc
  have RPx : Hid (ReadsP w11 (.slice pa pn pc) ps) := readsP_below RP.out bc
  have BPx : Hid (w11.heap[bBP]? = some (.cells #[.slice pa pn pc] 26 (0, 0))) := box_stepS BP.out bc
  have RXx : Hid (ReadsP w11 (.slice xa xm xc) py) := readsP_below RX.out bc
  have BXx : Hid (w11.heap[bBX]? = some (.cells #[.slice xa xm xc] 26 (0, 0))) := box_stepS BX.out bc
  have RYx : Hid (ReadsP w11 (.slice ya ym yc) py) := readsP_below RY.out bc
  have BYx : Hid (w11.heap[bBY]? = some (.cells #[.slice ya ym yc] 26 (0, 0))) := box_stepS BY.out bc
  clear LOW LD RC RP BP RX BX RY BY
  have LOW : Hid (Below w.heap.size w w11) := LOWx.out
  have LD : Hid (Laid w11) := LDx.out
  have RC : Hid (Reads w11 v (bs.map (Value.int .u8))) := RCx.out
  have RP : Hid (ReadsP w11 (.slice pa pn pc) ps) := RPx.out
  have BP : Hid (w11.heap[bBP]? = some (.cells #[.slice pa pn pc] 26 (0, 0))) := BPx.out
  have RX : Hid (ReadsP w11 (.slice xa xm xc) py) := RXx.out
  have BX : Hid (w11.heap[bBX]? = some (.cells #[.slice xa xm xc] 26 (0, 0))) := BXx.out
  have RY : Hid (ReadsP w11 (.slice ya ym yc) py) := RYx.out
  have BY : Hid (w11.heap[bBY]? = some (.cells #[.slice ya ym yc] 26 (0, 0))) := BYx.out
  clear LOWx LDx RCx RPx BPx RXx BXx RYx BYx
  clear hpo bc
  cases ok with
  | false =>
    have hem9 : sx.toList.isEmpty = true := hem
    clear hem
    obtain ⟨cx, -⟩ := one_cell BX.out
    cases by9 with
    | false =>
      obtain ⟨e1, -, -⟩ := HFX.out rfl
      obtain ⟨rfl, rfl, rfl⟩ : xa = none ∧ xm = 0 ∧ xc = 0 := by simpa using e1
      clear e1
      go_wp2
      go_ret
      exact ⟨rfl, LOW.out⟩
    | true =>
      have hsh := implShow py (.slice xa xm xc) w11 (by unfold maxLen; omega) (fun p hp => by have := l2 p hp; unfold maxLen; omega) RX.out
      rw [text_read (by have h := HRX.out; simp only [↓reduceIte] at h; exact h)] at hsh
      have htt : (t.toList == t.toList) = true := by simp
      have hcall := hsh
      go_wp2_with fail
      go_at_call 6
      refine hcall.mono ?_
      rintro r w12 ⟨rfl, bc⟩
      clear hcall cx
      have LOWx : Hid (Below w.heap.size w w12) := low_stepS LOW.out bc
      have LDx : Hid (Laid w12) := Laid.below LD.out bc
      have RCx : Hid (Reads w12 v (bs.map (Value.int .u8))) := reads_below RC.out bc
      have RPx : Hid (ReadsP w12 (.slice pa pn pc) ps) := readsP_below RP.out bc
      have BPx : Hid (w12.heap[bBP]? = some (.cells #[.slice pa pn pc] 26 (0, 0))) := box_stepS BP.out bc
      have RXx : Hid (ReadsP w12 (.slice xa xm xc) py) := readsP_below RX.out bc
      have BXx : Hid (w12.heap[bBX]? = some (.cells #[.slice xa xm xc] 26 (0, 0))) := box_stepS BX.out bc
      have RYx : Hid (ReadsP w12 (.slice ya ym yc) py) := readsP_below RY.out bc
      have BYx : Hid (w12.heap[bBY]? = some (.cells #[.slice ya ym yc] 26 (0, 0))) := box_stepS BY.out bc
      clear LOW LD RC RP BP RX BX RY BY
      have LOW : Hid (Below w.heap.size w w12) := LOWx.out
      have LD : Hid (Laid w12) := LDx.out
      have RC : Hid (Reads w12 v (bs.map (Value.int .u8))) := RCx.out
      have RP : Hid (ReadsP w12 (.slice pa pn pc) ps) := RPx.out
      have BP : Hid (w12.heap[bBP]? = some (.cells #[.slice pa pn pc] 26 (0, 0))) := BPx.out
      have RX : Hid (ReadsP w12 (.slice xa xm xc) py) := RXx.out
      have BX : Hid (w12.heap[bBX]? = some (.cells #[.slice xa xm xc] 26 (0, 0))) := BXx.out
      have RY : Hid (ReadsP w12 (.slice ya ym yc) py) := RYx.out
      have BY : Hid (w12.heap[bBY]? = some (.cells #[.slice ya ym yc] 26 (0, 0))) := BYx.out
      clear LOWx LDx RCx RPx BPx RXx BXx RYx BYx
      clear hsh
      go_wp2
      go_ret
      exact ⟨rfl, LOW.out⟩
  | true =>
    have hem9 : sx.toList.isEmpty = false := hem
    clear hem
    have HSS : Hid (sx.size ≤ 1048576) := by show sx.size ≤ 1048576; rw [← HSX.out]; exact Nat.le_trans (showA_len ps) (by omega)
    have HOP : Hid (ps.length ≤ 100 ∧ ∀ p ∈ ps, p.length ≤ 100) := lens_shown HOK.out
    have hcall := implRead sx w11 LD.out HSS.out
    go_wp2_with fail
    go_at_call 8
    refine hcall.mono ?_
    rintro r w12 ⟨uz, usz, pz, bz, rfl, bc, oz, hrz, hfz⟩
    clear hcall
    have LOWx : Hid (Below w.heap.size w w12) := low_stepS LOW.out bc
    have LDx : Hid (Laid w12) := Laid.below LD.out bc
    have RCx : Hid (Reads w12 v (bs.map (Value.int .u8))) := reads_below RC.out bc
    have RPx : Hid (ReadsP w12 (.slice pa pn pc) ps) := readsP_below RP.out bc
    have BPx : Hid (w12.heap[bBP]? = some (.cells #[.slice pa pn pc] 26 (0, 0))) := box_stepS BP.out bc
    have RXx : Hid (ReadsP w12 (.slice xa xm xc) py) := readsP_below RX.out bc
    have BXx : Hid (w12.heap[bBX]? = some (.cells #[.slice xa xm xc] 26 (0, 0))) := box_stepS BX.out bc
    have RYx : Hid (ReadsP w12 (.slice ya ym yc) py) := readsP_below RY.out bc
    have BYx : Hid (w12.heap[bBY]? = some (.cells #[.slice ya ym yc] 26 (0, 0))) := box_stepS BY.out bc
    clear LOW LD RC RP BP RX BX RY BY
    have LOW : Hid (Below w.heap.size w w12) := LOWx.out
    have LD : Hid (Laid w12) := LDx.out
    have RC : Hid (Reads w12 v (bs.map (Value.int .u8))) := RCx.out
    have RP : Hid (ReadsP w12 (.slice pa pn pc) ps) := RPx.out
    have BP : Hid (w12.heap[bBP]? = some (.cells #[.slice pa pn pc] 26 (0, 0))) := BPx.out
    have RX : Hid (ReadsP w12 (.slice xa xm xc) py) := RXx.out
    have BX : Hid (w12.heap[bBX]? = some (.cells #[.slice xa xm xc] 26 (0, 0))) := BXx.out
    have RY : Hid (ReadsP w12 (.slice ya ym yc) py) := RYx.out
    have BY : Hid (w12.heap[bBY]? = some (.cells #[.slice ya ym yc] 26 (0, 0))) := BYx.out
    clear LOWx LDx RCx RPx BPx RXx BXx RYx BYx
    obtain ⟨za, zm, zc, rfl⟩ := own_slice oz.row
    rw [← HSX.out] at hrz
    obtain ⟨rfl, hpz⟩ := read_shown HOK.out hrz
    have hpq := hpz.symm
    clear hpz
    subst hpq
    have RZ : Hid (ReadsP w12 (.slice za zm zc) ps) := readsP_own oz.ownP
    clear oz hrz hfz bc
    obtain ⟨w13, hAw13⟩ : ∃ W, w12.alloc (.cells #[.slice za zm zc] 26) = W := ⟨_, rfl⟩
    have bb : Below w12.heap.size w12 w13 := by rw [← hAw13]; go_grown
    obtain ⟨bBZ, hBw13⟩ : ∃ n, w12.heap.size = n := ⟨_, rfl⟩
    have BZn : Hid (w13.heap[bBZ]? = some (.cells #[.slice za zm zc] 26 (0, 0))) := by
      show w13.heap[bBZ]? = _
      rw [← hAw13, ← hBw13]; exact heap_alloc_new w12 _
    have LOWx : Hid (Below w.heap.size w w13) := low_stepS LOW.out bb
    have LDx : Hid (Laid w13) := Laid.below LD.out bb
    have RCx : Hid (Reads w13 v (bs.map (Value.int .u8))) := reads_below RC.out bb
    have RPx : Hid (ReadsP w13 (.slice pa pn pc) ps) := readsP_below RP.out bb
    have BPx : Hid (w13.heap[bBP]? = some (.cells #[.slice pa pn pc] 26 (0, 0))) := box_stepS BP.out bb
    have RXx : Hid (ReadsP w13 (.slice xa xm xc) py) := readsP_below RX.out bb
    have BXx : Hid (w13.heap[bBX]? = some (.cells #[.slice xa xm xc] 26 (0, 0))) := box_stepS BX.out bb
    have RYx : Hid (ReadsP w13 (.slice ya ym yc) py) := readsP_below RY.out bb
    have BYx : Hid (w13.heap[bBY]? = some (.cells #[.slice ya ym yc] 26 (0, 0))) := box_stepS BY.out bb
    have RZx : Hid (ReadsP w13 (.slice za zm zc) ps) := readsP_below RZ.out bb
    clear LOW LD RC RP BP RX BX RY BY RZ
    have LOW : Hid (Below w.heap.size w w13) := LOWx.out
    have LD : Hid (Laid w13) := LDx.out
    have RC : Hid (Reads w13 v (bs.map (Value.int .u8))) := RCx.out
    have RP : Hid (ReadsP w13 (.slice pa pn pc) ps) := RPx.out
    have BP : Hid (w13.heap[bBP]? = some (.cells #[.slice pa pn pc] 26 (0, 0))) := BPx.out
    have RX : Hid (ReadsP w13 (.slice xa xm xc) py) := RXx.out
    have BX : Hid (w13.heap[bBX]? = some (.cells #[.slice xa xm xc] 26 (0, 0))) := BXx.out
    have RY : Hid (ReadsP w13 (.slice ya ym yc) py) := RYx.out
    have BY : Hid (w13.heap[bBY]? = some (.cells #[.slice ya ym yc] 26 (0, 0))) := BYx.out
    have RZ : Hid (ReadsP w13 (.slice za zm zc) ps) := RZx.out
    clear LOWx LDx RCx RPx BPx RXx BXx RYx BYx RZx
    clear bb
    have BZ : Hid (w13.heap[bBZ]? = some (.cells #[.slice za zm zc] 26 (0, 0))) := BZn.out
    clear BZn
    obtain ⟨cz, -⟩ := one_cell BZ.out
    obtain ⟨cp, -⟩ := one_cell BP.out
    have hcall := likeProgram ps (.slice za zm zc) (.slice pa pn pc) w13 HOP.out.1 HOP.out.2 RZ.out RP.out
    go_wp2_with fail
    go_at_call 10
    clear hAw13 hBw13
    refine hcall.mono ?_
    rintro r w14 ⟨rfl, bc⟩
    clear hcall cz cp
    have LOWx : Hid (Below w.heap.size w w14) := low_stepS LOW.out bc
    have LDx : Hid (Laid w14) := Laid.below LD.out bc
    have RCx : Hid (Reads w14 v (bs.map (Value.int .u8))) := reads_below RC.out bc
    have RPx : Hid (ReadsP w14 (.slice pa pn pc) ps) := readsP_below RP.out bc
    have BPx : Hid (w14.heap[bBP]? = some (.cells #[.slice pa pn pc] 26 (0, 0))) := box_stepS BP.out bc
    have RXx : Hid (ReadsP w14 (.slice xa xm xc) py) := readsP_below RX.out bc
    have BXx : Hid (w14.heap[bBX]? = some (.cells #[.slice xa xm xc] 26 (0, 0))) := box_stepS BX.out bc
    have RYx : Hid (ReadsP w14 (.slice ya ym yc) py) := readsP_below RY.out bc
    have BYx : Hid (w14.heap[bBY]? = some (.cells #[.slice ya ym yc] 26 (0, 0))) := box_stepS BY.out bc
    have RZx : Hid (ReadsP w14 (.slice za zm zc) ps) := readsP_below RZ.out bc
    have BZx : Hid (w14.heap[bBZ]? = some (.cells #[.slice za zm zc] 26 (0, 0))) := box_stepS BZ.out bc
    clear LOW LD RC RP BP RX BX RY BY RZ BZ
    have LOW : Hid (Below w.heap.size w w14) := LOWx.out
    have LD : Hid (Laid w14) := LDx.out
    have RC : Hid (Reads w14 v (bs.map (Value.int .u8))) := RCx.out
    have RP : Hid (ReadsP w14 (.slice pa pn pc) ps) := RPx.out
    have BP : Hid (w14.heap[bBP]? = some (.cells #[.slice pa pn pc] 26 (0, 0))) := BPx.out
    have RX : Hid (ReadsP w14 (.slice xa xm xc) py) := RXx.out
    have BX : Hid (w14.heap[bBX]? = some (.cells #[.slice xa xm xc] 26 (0, 0))) := BXx.out
    have RY : Hid (ReadsP w14 (.slice ya ym yc) py) := RYx.out
    have BY : Hid (w14.heap[bBY]? = some (.cells #[.slice ya ym yc] 26 (0, 0))) := BYx.out
    have RZ : Hid (ReadsP w14 (.slice za zm zc) ps) := RZx.out
    have BZ : Hid (w14.heap[bBZ]? = some (.cells #[.slice za zm zc] 26 (0, 0))) := BZx.out
    clear LOWx LDx RCx RPx BPx RXx BXx RYx BYx RZx BZx
    clear bc
    obtain ⟨cx, -⟩ := one_cell BX.out
    cases by9 with
    | false =>
      obtain ⟨e1, -, -⟩ := HFX.out rfl
      obtain ⟨rfl, rfl, rfl⟩ : xa = none ∧ xm = 0 ∧ xc = 0 := by simpa using e1
      clear e1
      go_wp2
      go_ret
      exact ⟨rfl, LOW.out⟩
    | true =>
      have hsh := implShow py (.slice xa xm xc) w14 (by unfold maxLen; omega) (fun p hp => by have := l2 p hp; unfold maxLen; omega) RX.out
      rw [text_read (by have h := HRX.out; simp only [↓reduceIte] at h; exact h)] at hsh
      have htt : (t.toList == t.toList) = true := by simp
      have hcall := hsh
      go_wp2_with fail
      go_at_call 6
      refine hcall.mono ?_
      rintro r w15 ⟨rfl, bc⟩
      clear hcall cx
      have LOWx : Hid (Below w.heap.size w w15) := low_stepS LOW.out bc
      have LDx : Hid (Laid w15) := Laid.below LD.out bc
      have RCx : Hid (Reads w15 v (bs.map (Value.int .u8))) := reads_below RC.out bc
      have RPx : Hid (ReadsP w15 (.slice pa pn pc) ps) := readsP_below RP.out bc
      have BPx : Hid (w15.heap[bBP]? = some (.cells #[.slice pa pn pc] 26 (0, 0))) := box_stepS BP.out bc
      have RXx : Hid (ReadsP w15 (.slice xa xm xc) py) := readsP_below RX.out bc
      have BXx : Hid (w15.heap[bBX]? = some (.cells #[.slice xa xm xc] 26 (0, 0))) := box_stepS BX.out bc
      have RYx : Hid (ReadsP w15 (.slice ya ym yc) py) := readsP_below RY.out bc
      have BYx : Hid (w15.heap[bBY]? = some (.cells #[.slice ya ym yc] 26 (0, 0))) := box_stepS BY.out bc
      have RZx : Hid (ReadsP w15 (.slice za zm zc) ps) := readsP_below RZ.out bc
      have BZx : Hid (w15.heap[bBZ]? = some (.cells #[.slice za zm zc] 26 (0, 0))) := box_stepS BZ.out bc
      clear LOW LD RC RP BP RX BX RY BY RZ BZ
      have LOW : Hid (Below w.heap.size w w15) := LOWx.out
      have LD : Hid (Laid w15) := LDx.out
      have RC : Hid (Reads w15 v (bs.map (Value.int .u8))) := RCx.out
      have RP : Hid (ReadsP w15 (.slice pa pn pc) ps) := RPx.out
      have BP : Hid (w15.heap[bBP]? = some (.cells #[.slice pa pn pc] 26 (0, 0))) := BPx.out
      have RX : Hid (ReadsP w15 (.slice xa xm xc) py) := RXx.out
      have BX : Hid (w15.heap[bBX]? = some (.cells #[.slice xa xm xc] 26 (0, 0))) := BXx.out
      have RY : Hid (ReadsP w15 (.slice ya ym yc) py) := RYx.out
      have BY : Hid (w15.heap[bBY]? = some (.cells #[.slice ya ym yc] 26 (0, 0))) := BYx.out
      have RZ : Hid (ReadsP w15 (.slice za zm zc) ps) := RZx.out
      have BZ : Hid (w15.heap[bBZ]? = some (.cells #[.slice za zm zc] 26 (0, 0))) := BZx.out
      clear LOWx LDx RCx RPx BPx RXx BXx RYx BYx RZx BZx
      clear hsh
      go_wp2
      go_ret
      exact ⟨rfl, LOW.out⟩

/-- As the library's wrap over what else holds of the start, with the world's shape kept. -/
theorem handed_and_shaped {H : Type} {enc : TypeId × Value → H} {a : Assume} {C : Checked} {os : Os} {f : FuncId} {fn : Func} {s : ChangeSpec} {conds : List PathCond} {apart fresh handsOn again : Bool} {X : World → Array Value → Prop}
    (hX : ∀ (w w' : World) (args : Array Value), w.heap = w'.heap → X w args → X w' args)
    (own : ownKnob C.prog.godebug = none) (started : os.Started) (noInit : C.prog.inits.idxOf? f = none) (hfn : C.prog.funcs[f]? = some fn)
    (witness : ∃ (w : World) (tape : Tape) (i : Input), w.os = os ∧ (w.forCall tape i).Shaped C.prog ∧ i.vars = [] ∧ Input.okWide C.prog (w.forCall tape i) .any w.heap.size f i ∧
      ((s.pre enc C.prog fn conds apart (w.forCall tape i).memory i.args ∧ X (w.forCall tape i).memory i.args) ∧ sizedMet enc C.prog fn (OpenSpec.ofChange s) apart (w.forCall tape i).memory i.args) ∧ a.holds C.prog (lone (Frame.enter C.prog f i.args .normal) [] (w.forCall tape i)))
    (contract : ∀ (W : World) (base : Nat) (args : Array Value) (ds gs : List (DataW H)) (before : List MemPlace),
      (∀ (j : Nat) t v, fn.params[j]? = some t → args[j]? = some v → Value.okWide C.prog W .any base t v) →
      DataW.Whole enc C.prog fn.params.toList s.vars apart W args.toList ds gs before → X W args → W.ShapedOpen C.prog →
      Calls C.prog f args W fun e W' => ∃ v, e = .returned v ∧ s.post enc C.prog fn apart fresh handsOn again W args v W') :
    ReturnsInHanded a C os f .any (fun w args => (s.pre enc C.prog fn conds apart w args ∧ X w args) ∧ sizedMet enc C.prog fn (OpenSpec.ofChange s) apart w args) (s.post enc C.prog fn apart fresh handsOn again) := by
  refine returnsInHanded_of_calls own started noInit witness ?_
  intro w tape i _ hsh _ hok hpre hholds
  obtain ⟨_, _, _, fn', hfn', _, _, _, _, hval⟩ := hok
  have e : fn' = fn := Option.some.inj (hfn'.symm.trans hfn)
  subst e
  obtain ⟨⟨⟨ds, gs, before, hw, hc⟩, hx⟩, hz⟩ := hpre
  have hw' := DataW.Whole.of_heap (w' := w.forCall tape i) (by rfl) hw
  refine (contract (w.forCall tape i) w.heap.size i.args ds gs before hval hw' (hX _ _ _ (by rfl) hx) hsh).mono fun e W' ⟨v, he, hp⟩ => ?_
  subst he
  exact ChangeSpec.post_blind hp

theorem iface_cell {W : World} {name : String} {nm : String} {d : DataW Unit} {g : Nat} {ti : TypeId} {ms : Array (String × TypeId)} (hg : Tryd.prog.globalNamed name = some g) (ht : (Tryd.prog.globals[g]?).map (·.type) = some ti)
    (hi : Tryd.prog.underlying ti = some (.interface ms)) (h : Lib.VarReads Tryd.prog W name (.iface nm d)) : ∃ ev, W.cell? ⟨g, 0, none⟩ = some ev ∧ (ev = .nilIface ∨ ∃ te pe, ev = .iface te pe) := by
  obtain ⟨g', t', cs, fuel, p, hg', ht', hv, hd⟩ := h
  obtain rfl := Option.some.inj (hg.symm.trans hg')
  obtain rfl := Option.some.inj (ht.symm.trans ht')
  obtain ⟨f1, u, v, e, _, _⟩ := iface_of_trod hi hd
  refine ⟨.iface u v, ?_, .inr ⟨u, v, rfl⟩⟩
  rw [World.var?_cell hg hv 0]
  have : cs.toList[0]? = some (.iface u v) := by rw [e]; rfl
  simpa using this

theorem laidRead {W : World} (hL : laidMetH Tryd.prog Rows.fnShownRow.laid W) (hsh : W.ShapedOpen Tryd.prog) : Laid W := by
  rw [MakeChecks.laidMetH_plain _ _ _ (by kernel_rfl)] at hL
  refine ⟨?_, ?_, ?_, ?_⟩
  · exact Go.Proofs.cell_of_shapedOpen_int (P := Tryd.prog) (t := 3) (zero := #[.int .i64 0]) (k := .i64) hsh (of_decide_eq_true (by kernel_rfl)) (by kernel_rfl) (by kernel_rfl) (by kernel_rfl) (by kernel_rfl) (by kernel_rfl)
  · exact iface_cell (name := "strconv.ErrSyntax") (ti := 59) (by kernel_rfl) (by kernel_rfl) Tryd.underlying59 (Lib.laidMet.reads hL (n := "strconv.ErrSyntax") (d := Rows.laid_strconv_ErrSyntax) (by simp [Rows.fnShownRow]))
  · exact iface_cell (name := "strconv.ErrRange") (ti := 59) (by kernel_rfl) (by kernel_rfl) Tryd.underlying59 (Lib.laidMet.reads hL (n := "strconv.ErrRange") (d := Rows.laid_strconv_ErrRange) (by simp [Rows.fnShownRow]))
  · obtain ⟨g, t, cs, fuel, p, hg, ht, hv, hd⟩ := Lib.laidMet.reads hL (n := "internal/strconv.uint64pow10") (d := Rows.laid_internal_strconv_uint64pow10) (by simp [Rows.fnShownRow])
    have hbt : ((Tryd.prog.globalNamed "internal/strconv.uint64pow10").bind fun g => (Tryd.prog.globals[g]?).map (·.type)) = some 104 := by kernel_rfl
    rw [hg, Option.bind_some] at hbt
    obtain rfl := Option.some.inj (hbt.symm.trans ht)
    have e0 : (Rows.laid_internal_strconv_uint64pow10 : DataW Unit) = Lib.tabData .u64 Lib.pow10Tab := by kernel_rfl
    rw [e0] at hd
    have e := Lib.cells_of_tab (k := .u64) Tryd.underlying104 Tryd.underlying90 (by kernel_rfl) (by kernel_rfl) hd
    unfold Lib.TabIs
    rw [hv, ← e]

theorem liftedFnShown (os : Os) (started : os.Started) (H : Type) (enc : TypeId × Value → H) :
    ReturnsInHanded {} Tryd.checked os 3 .any (fun w args => (Rows.fnShownSpec.pre enc Tryd.prog Tryd.f3 [] false w args ∧ laidMetH Tryd.prog Rows.fnShownRow.laid w) ∧ sizedMet enc Tryd.prog Tryd.f3 (OpenSpec.ofChange Rows.fnShownSpec) false w args)
      (Rows.fnShownSpec.post enc Tryd.prog Tryd.f3 false true false false) := by
  refine handed_and_shaped (C := Tryd.checked) (X := fun w _ => laidMetH Tryd.prog Rows.fnShownRow.laid w) (fun _ _ _ hh h => h.of_heap hh) own started (by kernel_rfl) Tryd.func3
    (ChangeSpec.witness_shaped (enc := enc) (C := Tryd.checked) (os := os) (X := fun w _ => laidMetH Tryd.prog Rows.fnShownRow.laid w) false (World.laidAll Tryd.prog os Rows.fnShownRow.laid) #[.slice none 0 0] 8 (World.laidAll_os _ _ _)
      (World.shaped_of_ZipB (by kernel_rfl) (by kernel_rfl)) (by kernel_rfl) (by kernel_rfl) (by kernel_rfl)
      (by rw [MakeChecks.laidMetH_plain _ _ _ (by kernel_rfl)]; exact laidMet_laidAll _ (by kernel_rfl) (by kernel_rfl))) ?_
  intro W base args ds gs before hval0 hW hL hsh
  have hval : ∀ (j : Nat) t v, Tryd.f3.params[j]? = some t → args[j]? = some v → Value.okWide Tryd.prog W .any base t v := hval0
  have hW' := hW
  obtain ⟨p, q, hA0, hV, rfl, hfz, hnd⟩ := hW
  have hA : DataW.TrodAll enc Tryd.prog W 0 (fun _ => true) true Tryd.f3.params.toList args.toList ds p := hA0
  rw [Tryd.params3] at hA hval
  obtain ⟨v0, d0, rfl, rfl, h0⟩ := trodAll_one hA
  obtain ⟨rfl, rfl⟩ := trodVars_none hV
  obtain ⟨bs, hr, hl, hs⟩ := open_code Tryd.underlying22 Tryd.underlying5 cellsByte (hval 0 22 v0 rfl rfl) h0
  refine (walkFnShown bs v0 W hl hr (laidRead hL hsh)).mono fun e W' ⟨he, hb⟩ => ?_
  subst he
  refine ⟨_, rfl, law_post (tb := 4) laidOut ?_ hW' rfl Tryd.underlying4 rfl rfl hb⟩
  exact all_readable (P := Tryd.prog) (by kernel_rfl)

theorem overFnShown : Rows.FnShownSaid :=
  OpenClaim.holds_of_wide 3 Tryd.f3 rfl rfl rfl rfl rfl rfl rfl ⟨rfl, rfl, rfl, rfl, rfl⟩ rfl rfl rfl rfl rfl (by kernel_rfl) Tryd.func3 (by kernel_rfl)
    (of_decide_eq_true (by kernel_rfl)) (by unfold Func.isWrapper; first | (rw [if_pos (by decide +kernel)]; kernel_rfl) | (rw [if_neg (by decide +kernel)]; exact ⟨rfl, rfl⟩))
    (fun os started H enc _ => liftedFnShown os started H enc)

/-- ████ THE STATEMENT: the tied card ████ -/
theorem fnShownHolds : Rows.FnShownCardSaid :=
  Claim7.holds_tied_plain_at .later [] [.data, .data, .data, .data, .sentinel, .sentinel, .pinned] true Rows.fnShownCard.stood.harness true
    overFnShown (fun _ h => by cases h) (by kernel_rfl) (fun _ h => by cases h) fnShown_row_tie rfl ⟨rfl, rfl⟩ (by kernel_rfl) rfl
    (fun f fn hf hfn => by
      obtain rfl : f = 3 := Option.some.inj ((show Tryd.prog.funcNamed Rows.fnShownRow.func = some 3 by kernel_rfl).symm.trans hf) |>.symm
      obtain rfl : fn = Tryd.f3 := (Option.some.inj (Tryd.func3.symm.trans hfn)).symm
      exact ⟨by kernel_rfl, fun j t ht => by
        rw [Tryd.params3] at ht
        have h3 : t = 22 := by
          rcases j with _ | j
          · simpa using ht.symm
          · simp at ht
        subst h3
        exact (show Tryd.prog.wantsStandIn 22 = false by kernel_rfl)⟩)
    (by kernel_rfl)
#print axioms fnShownHolds

end Go.Proofs.YtjdmmpdcafbneaaDoor
