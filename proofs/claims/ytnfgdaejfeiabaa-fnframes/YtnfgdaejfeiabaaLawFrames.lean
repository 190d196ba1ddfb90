/-
  The law FnFrames.
-/
import Derived.Test.YtnfgdaejfeiabaaDrawFed
import Derived.Test.YtnfgdaejfeiabaaFramesMath
import Derived.Test.YtnfgdaejfeiabaaLift
import Derived.WalkLawsBesides
import Derived.Lib.QuietBelow
namespace Go.Proofs.Ytnfgdaejfeiabaa
open Go.ChangeShapes Go.WideShapes Go.ChangeAt Go.RowKit
set_option linter.unusedVariables false
set_option maxHeartbeats 2000000

theorem implFrame (a0 : ByteArray) (w : World) :
    Calls Try.prog 6 #[.string a0] w fun e w' => e = .returned (.string (frameOf a0)) ∧ Below w.heap.size w w' := by
  by_cases h2 : (2000 : Int) < (a0.size : Int)
  · rw [frameOf, if_pos h2]
    go_enter Try.func6, Try.ntmps6
    go_wp2
    go_ret
    exact ⟨rfl, by go_grown⟩
  · rw [frameOf, if_neg h2]
    have kc := twoBytes
    have ks : ¬ 9223372036854775807 < (strOfNums [(a0.size : Int) / 256, (a0.size : Int) % 256]).size + a0.size := by simp only [strOfNums_size, List.length_cons, List.length_nil]; omega
    have ks' : (strOfNums [(a0.size : Int) / 256, (a0.size : Int) % 256]).size + a0.size ≤ 9223372036854775807 := by omega
    go_enter Try.func6, Try.ntmps6
    go_wp2
    go_ret
    exact ⟨rfl, by go_grown⟩

theorem lawBig (bs : List Int) (v : Value) (w : World) (hl : bs.length ≤ maxLen) (hv : Reads w v (bs.map (Value.int .u8))) :
    Calls Try.prog 4 #[v] w fun e w' => e = .returned (.bool (decide ((4096 : Int) < (bs.length : Int)))) ∧ w = w' := by
  obtain ⟨ao, cap, rfl, hc⟩ := hv
  simp only [List.length_map]
  go_enter Try.func4, Try.ntmps4
  go_wp2
  go_ret
  exact ⟨rfl, rfl⟩

theorem likeTexts (ts : List ByteArray) (v u : Value) (w : World) (hl : ts.length ≤ maxLen) (hv : Reads w v (ts.map .string)) (hu : Reads w u (ts.map .string)) :
    Calls Try.prog 11 #[v, u] w fun e w' => e = .returned (.bool true) ∧ Below w.heap.size w w' := by
  unfold maxLen at hl
  obtain ⟨ao, cap, rfl, hc⟩ := hv
  obtain ⟨bo, cap', rfl, hd⟩ := hu
  simp only [List.length_map]
  go_enter Try.func11, Try.ntmps11
  go_wp2
  go_loopw [5] (fun i wr => ∃ k : Nat, k ≤ ts.length ∧ i = .int .i64 k ∧ Below w.heap.size w wr) (fun i _ => ts.length - (intOf i).toNat)
  case atStart => exact ⟨0, Nat.zero_le _, rfl, Below.refl _ _⟩
  case round =>
    obtain ⟨k, hk, rfl, hb⟩ := hrel
    by_cases hlt : k < ts.length
    · obtain ⟨g, off, rfl, hg⟩ := hc k (.string ts[k]) (by simp [hlt])
      obtain ⟨g', off', rfl, hg'⟩ := hd k (.string ts[k]) (by simp [hlt])
      have hg := (hb.cell (World.block_lt_of_cell? w _ hg)).trans hg
      have hg' := (hb.cell (World.block_lt_of_cell? w _ hg')).trans hg'
      have hlt' : (k : Int) < (ts.length : Int) := by omega
      clear hc hd
      go_wp2
      go_quiet (fail)
      go_wp2
      go_roundw
      case rel => exact ⟨k + 1, by omega, by go_num, below_drewN hb _⟩
      case measure => simp [intOf]; omega
    · go_wp2
      go_ret
      exact ⟨rfl, hb⟩

set_option maxRecDepth 100000 in
theorem walkFrames (bs : List Int) (v : Value) (w : World) (hl : bs.length ≤ maxLen) (hr : ∀ x ∈ bs, 0 ≤ x ∧ x ≤ 255) (hv : Reads w v (bs.map (Value.int .u8))) :
    Calls Try.prog 3 #[v] w fun e w' => e = .returned (.bool true) ∧ Below w.heap.size w w' := by
  have hbig := lawBig bs v w hl hv
  by_cases h4 : (4096 : Int) < (bs.length : Int)
  · have hd : decide ((4096 : Int) < (bs.length : Int)) = true := by simpa using h4
    rw [hd] at hbig
    go_enter Try.func3, Try.ntmps3
    go_wp2_with (go_at_call 4; refine hbig.mono ?_; rintro e w1 ⟨rfl, rfl⟩)
    go_ret
    exact ⟨rfl, Below.refl _ _⟩
  have hd : decide ((4096 : Int) < (bs.length : Int)) = false := by simpa using h4
  rw [hd] at hbig
  have hb4 : bs.length ≤ 1048576 := by omega
  clear hd
  go_enter Try.func3, Try.ntmps3
  go_wp2_with fail
  go_at_call 4
  refine hbig.mono ?_
  rintro e w0 ⟨rfl, rfl⟩
  clear hbig
  go_wp2_with fail
  go_at_call 5
  refine (drawFrame bs v w hb4 hv).mono ?_
  rintro e w1 ⟨s, rfl, hs, b1⟩
  go_wp2_with fail
  go_at_call 6
  refine (implFrame s w1).mono ?_
  rintro e w2 ⟨rfl, b2⟩
  have L2 : Below w.heap.size w w2 := b1.trans (b2.mono b1.size)
  go_wp2_with fail
  go_at_call 7
  refine (drawFed bs v w2 hb4 (reads_below hv L2)).mono ?_
  rintro e w3 ⟨r, d, c, rfl, b3⟩
  have L3 : Below w.heap.size w w3 := L2.trans (b3.mono L2.size)
  obtain ⟨ok1, ok2, ok3⟩ := fed_ok r d c
  have hfl := fed_length r d c
  have hsf := specFed r d c
  have hif := implFed r d c
  revert ok1 ok2 ok3 hfl hsf hif
  generalize fed r d c = F
  obtain ⟨ts, xr, xb⟩ := F
  intro ok1 ok2 ok3 hfl hsf hif
  simp only at ok1 ok2 ok3 hfl hsf hif
  have E3 := heap_alloc_new w3 (.cells #[.string r, .bool d] 27)
  have L3' : Below w.heap.size w (w3.alloc (.cells #[.string r, .bool d] 27)) := L3.alloc L3.size _
  have z3 : (w3.alloc (.cells #[.string r, .bool d] 27)).heap.size = w3.heap.size + 1 := by simp
  go_wp2_with fail
  go_at_call 8
  refine (hif _).mono ?_
  rintro e w4 ⟨l, rfl, ol, b4⟩
  have s4 := b4.size
  rw [z3] at s4
  have L4 : Below w.heap.size w w4 := L3'.trans (b4.mono L3'.size)
  have R4 : Hid _ := (b4.block w3.heap.size (by omega)).trans E3
  have L4' : Below w.heap.size w (w4.alloc (.cells #[.string xr, .bool xb] 27)) := L4.alloc L4.size _
  have E4 : Hid _ := heap_alloc_new w4 (.cells #[.string xr, .bool xb] 27)
  have z4 : (w4.alloc (.cells #[.string xr, .bool xb] 27)).heap.size = w4.heap.size + 1 := by simp
  have R4' : Hid _ := (old_block (o := .cells #[.string xr, .bool xb] 27) (show w3.heap.size < w4.heap.size by omega)).trans R4.out
  have ol := ol.alloc (.cells #[.string xr, .bool xb] 27)
  clear R4 hif E3
  go_wp2_with fail
  go_at_call 9
  refine (drawReaderOk bs v _ hb4 (reads_below hv L4')).mono ?_
  rintro e w5 ⟨qr, qb, rfl, _, b5⟩
  have s5 := b5.size
  rw [z4] at s5
  have L5 : Below w.heap.size w w5 := L4'.trans (b5.mono L4'.size)
  have R5 : Hid _ := (b5.block w3.heap.size (by omega)).trans R4'.out
  have X5 : Hid _ := (b5.block w4.heap.size (by omega)).trans E4.out
  have ol := own_kept ol b5
  clear R4' E4
  have L5' : Below w.heap.size w (w5.alloc (.cells #[.string qr, .bool qb] 27)) := L5.alloc L5.size _
  have E5 : Hid _ := heap_alloc_new w5 (.cells #[.string qr, .bool qb] 27)
  have z5 : (w5.alloc (.cells #[.string qr, .bool qb] 27)).heap.size = w5.heap.size + 1 := by simp
  have R5' : Hid _ := (old_block (o := .cells #[.string qr, .bool qb] 27) (show w3.heap.size < w5.heap.size by omega)).trans R5.out
  have X5' : Hid _ := (old_block (o := .cells #[.string qr, .bool qb] 27) (show w4.heap.size < w5.heap.size by omega)).trans X5.out
  have ol := ol.alloc (.cells #[.string qr, .bool qb] 27)
  obtain ⟨c0, c1, f0, f1⟩ := two_cells R5.out
  have zz : w3.heap.size < w5.heap.size := by omega
  clear R5 X5
  go_wp2_with fail
  go_at_call 10
  refine (hsf _).mono ?_
  rintro e w6 ⟨m, rfl, om, b6⟩
  have s6 := b6.size
  rw [z5] at s6
  have L6 : Below w.heap.size w w6 := L5'.trans (b6.mono L5'.size)
  have R6 : Hid _ := (b6.block w3.heap.size (by omega)).trans R5'.out
  have X6 : Hid _ := (b6.block w4.heap.size (by omega)).trans X5'.out
  have Q6 : Hid _ := (b6.block w5.heap.size (by omega)).trans E5.out
  have ol := own_kept ol b6
  clear R5' X5' E5 hsf c0 c1 f0 f1
  have L7 : Below w.heap.size w (w6.alloc (.cells #[.string xr, .bool xb] 27)) := L6.alloc L6.size _
  have Y7 : Hid _ := heap_alloc_new w6 (.cells #[.string xr, .bool xb] 27)
  have z7 : (w6.alloc (.cells #[.string xr, .bool xb] 27)).heap.size = w6.heap.size + 1 := by simp
  have R7 : Hid _ := (old_block (o := .cells #[.string xr, .bool xb] 27) (show w3.heap.size < w6.heap.size by omega)).trans R6.out
  have X7 : Hid _ := (old_block (o := .cells #[.string xr, .bool xb] 27) (show w4.heap.size < w6.heap.size by omega)).trans X6.out
  have Q7 : Hid _ := (old_block (o := .cells #[.string xr, .bool xb] 27) (show w5.heap.size < w6.heap.size by omega)).trans Q6.out
  have ol := ol.alloc (.cells #[.string xr, .bool xb] 27)
  have om := om.alloc (.cells #[.string xr, .bool xb] 27)
  clear R6 X6 Q6
  go_wp2_with fail
  generalize w6.alloc (.cells #[.string xr, .bool xb] 27) = W at *
  have hts : ts.length ≤ maxLen := by unfold maxLen; omega
  obtain ⟨x0, x1, _, _⟩ := two_cells X7.out
  obtain ⟨y0, y1, _, _⟩ := two_cells Y7.out
  obtain ⟨q0, q1, _, _⟩ := two_cells Q7.out
  have x0 := cell_regrown x0
  have x1 := cell_regrown x1
  have y0 := cell_regrown y0
  have y1 := cell_regrown y1
  have q0 := cell_regrown q0
  have q1 := cell_regrown q1
  have hlike : ∀ d os, _ := fun d os => Calls.regrown_of (w := W) (d := d) (os := os) (likeTexts ts l m _ hts (reads_below (reads_own ol) (below_regrown W d os)) (reads_below (reads_own om) (below_regrown W d os)))
  have hfrm : ∀ d os, _ := fun d os => Calls.regrown_of (w := W) (d := d) (os := os) (specFrame s _)
  have hok1 : ∀ d os, _ := fun d os => Calls.regrown_of (w := W) (d := d) (os := os) (implReaderOk qr qb _)
  have hok2 : ∀ d os, _ := fun d os => Calls.regrown_of (w := W) (d := d) (os := os) (specReaderOk qr qb _)
  refine wp_region_quiet_below (by kernel_rfl) (by kernel_rfl) ?_
  repeat (go_big_quiet_step (first | exact hlike _ _ | exact hfrm _ _ | exact hok1 _ _ | exact hok2 _ _))
  refine wpQuiet_nil ?_
  intro _ hw'
  obtain ⟨⟨dq, osq⟩, hw''⟩ := hw'
  subst hw''
  have BW := below_regrown W dq osq
  clear x0 x1 y0 y1 q0 q1 hlike hfrm hok1 hok2
  generalize Go.Sort.grow (redrawn W dq) osq = W8 at *
  have s8 := BW.size
  have L8 : Below w.heap.size w W8 := L7.trans (BW.mono L7.size)
  have X8 : Hid _ := (BW.block w4.heap.size (by omega)).trans X7.out
  have R8 : Hid _ := (BW.block w3.heap.size (by omega)).trans R7.out
  have ol := own_kept ol BW
  obtain ⟨la, lc, hlv, _⟩ := reads_own ol
  simp only [List.length_map] at hlv
  subst hlv
  clear X7 R7 Y7 Q7 om
  obtain ⟨x0, x1, _, _⟩ := two_cells X8.out
  have hrd := implReaderOk xr xb W8
  rw [ok1] at hrd
  go_wp2_with fail
  go_at_call 13
  refine hrd.mono ?_
  rintro e w9 ⟨rfl, b9⟩
  clear hrd x0 x1
  have s9 := b9.size
  have L9 : Below w.heap.size w w9 := L8.trans (b9.mono L8.size)
  obtain ⟨x0, x1, xf0, xf1⟩ := two_cells ((b9.block w4.heap.size (by omega)).trans X8.out)
  obtain ⟨r0, r1, rf0, rf1⟩ := two_cells ((b9.block w3.heap.size (by omega)).trans R8.out)
  clear X8 R8 ol
  have hxb : xb = false ∨ (xb = true ∧ xr = ⟨#[]⟩) := by
    cases xb
    · exact .inl rfl
    · exact .inr ⟨rfl, ok2 rfl⟩
  have hdd : d = false ∨ (d = true ∧ ts.length = 0) := by
    cases d
    · exact .inl rfl
    · exact .inr ⟨rfl, by rw [ok3 rfl]; rfl⟩
  clear ok1 ok2 ok3
  have LB : Hid _ := L9
  by_cases h2 : (2000 : Int) < (s.size : Int)
  · have hf : frameOf s = ⟨#[]⟩ := by rw [frameOf, if_pos h2]; rfl
    rw [hf]
    rcases hxb with rfl | ⟨rfl, rfl⟩ <;> rcases hdd with rfl | ⟨rfl, ht0⟩
    · go_wp2
      go_ret
      exact ⟨rfl, L9⟩
    · rw [ht0]
      go_wp2
      go_ret
      exact ⟨rfl, L9⟩
    · go_wp2
      go_ret
      exact ⟨rfl, L9⟩
    · rw [ht0]
      go_wp2
      go_ret
      exact ⟨rfl, L9⟩
  · have hf : frameOf s = framed s := by rw [frameOf, if_neg h2]
    rw [hf]
    clear hf
    have hs2 : s.size ≤ 2000 := by omega
    have hz := framed_size s
    have h15 := implFed ⟨#[]⟩ false (framed s ++ ⟨#[0]⟩)
    rw [fed_zero s hs2] at h15
    have h16 := implFed ⟨#[]⟩ false ((framed s).extract 0 ((framed s).size - 1))
    rw [fed_cut s hs2] at h16
    have h17 := implFed ⟨#[]⟩ false (framed s ++ ⟨#[255, 255]⟩ ++ framed s)
    rw [fed_bad s hs2] at h17
    have hsl := slice_to (framed s) (((framed s).size : Int) - 1) (by omega) (by omega)
    have e1 : (((framed s).size : Int) - 1).toNat = (framed s).size - 1 := by omega
    rw [e1] at hsl
    clear e1
    simp only [List.length_cons, List.length_nil, List.map_cons, List.map_nil] at h15 h16 h17
    generalize framed s = f at *
    have hne : ¬ f = ⟨#[]⟩ := fun h => by rw [h] at hz; have h0 : (ByteArray.mk #[]).size = 0 := rfl; omega
    have hne' : f.toList.isEmpty = false := by
      rw [Go.ByteArray.toList_eq, List.isEmpty_eq_false_iff]
      intro h
      have h3 := size_data f
      rw [h] at h3
      simp at h3
      omega
    have k0 : (ByteArray.mk #[0]).size = 1 := rfl
    have k2 : (ByteArray.mk #[255, 255]).size = 2 := rfl
    have ks1 : ¬ 9223372036854775807 < f.size + (ByteArray.mk #[0]).size := by omega
    have ks2 : ¬ 9223372036854775807 < f.size + (ByteArray.mk #[255, 255]).size := by omega
    have hz2 : (f ++ ⟨#[255, 255]⟩).size = f.size + 2 := by rw [ByteArray.size_append, k2]
    have ks3 : ¬ 9223372036854775807 < (f ++ ⟨#[255, 255]⟩).size + f.size := by omega
    have ks4 : f.size + 1 ≤ 9223372036854775807 := by omega
    have ks5 : f.size + 2 ≤ 9223372036854775807 := by omega
    have ks6 : f.size + 2 + f.size ≤ 9223372036854775807 := by omega
    generalize f.extract 0 (f.size - 1) = f1 at *
    have hz0 : 2 ≤ (f.size : Int) := by omega
    have hz1 : (f.size : Int) ≤ 2002 := by omega
    clear hz hne
    rcases hxb with rfl | ⟨rfl, rfl⟩ <;> rcases hdd with rfl | ⟨rfl, ht0⟩
    all_goals
      try rw [ht0]
      go_wp2_with fail
      go_at_call 8
      refine (h15 _).mono ?_
      rintro e w10 ⟨m10, rfl, om, b10⟩
      have s10 := b10.size
      have L10 : Below w.heap.size w w10 := L9.trans (b10.mono L9.size)
      have La : Below w.heap.size w (w10.alloc (.cells #[.string ⟨#[0]⟩, .bool false] 27)) := L10.alloc L10.size _
      have Y10 : Hid _ := heap_alloc_new w10 (.cells #[.string ⟨#[0]⟩, .bool false] 27)
      have za : (w10.alloc (.cells #[.string ⟨#[0]⟩, .bool false] 27)).heap.size = w10.heap.size + 1 := by simp
      have om := om.alloc (.cells #[.string ⟨#[0]⟩, .bool false] 27)
      clear h15 x0 x1 xf0 xf1 r0 r1 rf0 rf1
      go_wp2_with fail
      go_at_call 8
      refine (h16 _).mono ?_
      rintro e w11 ⟨n11, rfl, on, b11⟩
      have s11 := b11.size
      rw [za] at s11
      have L11 : Below w.heap.size w w11 := La.trans (b11.mono La.size)
      have Y11 : Hid _ := (b11.block w10.heap.size (by omega)).trans Y10.out
      have om := own_kept om b11
      have Lb : Below w.heap.size w (w11.alloc (.cells #[.string f1, .bool false] 27)) := L11.alloc L11.size _
      have Z11 : Hid _ := heap_alloc_new w11 (.cells #[.string f1, .bool false] 27)
      have zb : (w11.alloc (.cells #[.string f1, .bool false] 27)).heap.size = w11.heap.size + 1 := by simp
      have Y11' : Hid _ := (old_block (o := .cells #[.string f1, .bool false] 27) (show w10.heap.size < w11.heap.size by omega)).trans Y11.out
      have om := om.alloc (.cells #[.string f1, .bool false] 27)
      have on := on.alloc (.cells #[.string f1, .bool false] 27)
      clear h16 Y10 Y11
      go_wp2_with fail
      go_at_call 8
      refine (h17 _).mono ?_
      rintro e w12 ⟨t12, rfl, ot, b12⟩
      have s12 := b12.size
      rw [zb] at s12
      have L12 : Below w.heap.size w w12 := Lb.trans (b12.mono Lb.size)
      have Y12 : Hid _ := (b12.block w10.heap.size (by omega)).trans Y11'.out
      have Z12 : Hid _ := (b12.block w11.heap.size (by omega)).trans Z11.out
      have om := own_kept om b12
      have on := own_kept on b12
      have Lc : Below w.heap.size w (w12.alloc (.cells #[.string ⟨#[]⟩, .bool true] 27)) := L12.alloc L12.size _
      have B13 := heap_alloc_new w12 (.cells #[.string ⟨#[]⟩, .bool true] 27)
      have Y13 := (old_block (o := .cells #[.string ⟨#[]⟩, .bool true] 27) (show w10.heap.size < w12.heap.size by omega)).trans Y12.out
      have Z13 := (old_block (o := .cells #[.string ⟨#[]⟩, .bool true] 27) (show w11.heap.size < w12.heap.size by omega)).trans Z12.out
      obtain ⟨ma, mc, hm, hmc⟩ := reads_own (om.alloc (.cells #[.string ⟨#[]⟩, .bool true] 27))
      obtain ⟨na, nc, hn, _⟩ := reads_own (on.alloc (.cells #[.string ⟨#[]⟩, .bool true] 27))
      obtain ⟨ta, tc, ht, _⟩ := reads_own (ot.alloc (.cells #[.string ⟨#[]⟩, .bool true] 27))
      obtain ⟨gm, om', hma, hcell⟩ := hmc 0 (.string s) rfl
      rw [Nat.add_zero] at hcell
      simp only [List.length_cons, List.length_nil] at hm hn ht
      subst hma
      subst hm hn ht
      have Lfin : Hid _ := Lc
      clear h17 Y11' Z11 Y12 Z12 om on ot hmc
      go_wp2_with fail
      generalize w12.alloc (.cells #[.string ⟨#[]⟩, .bool true] 27) = W13 at *
      obtain ⟨y0, y1, _, _⟩ := two_cells Y13
      obtain ⟨z0, z1, _, _⟩ := two_cells Z13
      obtain ⟨b0, b1', _, _⟩ := two_cells B13
      clear Y13 Z13 B13
      go_quiet (fail)
      go_wp2
      go_ret
      exact ⟨rfl, below_drewN Lfin.out _⟩

theorem open_code {H : Type} {enc : TypeId × Value → H} {P : Program} {W : World} {base : Nat} {held : Bool} {t e : TypeId} {r : Reach} {b0 : Nat} {v : Value} {d : DataW H} {p : List MemPlace}
    (ht : P.underlying t = some (.slice e)) (he : P.underlying e = some (.int .u8)) (hc : P.cellsOf e = 1) (hv : Value.okWide P W r b0 t v) (h : DataW.Trod enc P W base (fun _ => true) held t v d p) :
    ∃ bs : List Int, Reads W v (bs.map (Value.int .u8)) ∧ bs.length ≤ maxLen ∧ ∀ x ∈ bs, 0 ≤ x ∧ x ≤ 255 := by
  obtain ⟨a0, len, cap, rfl⟩ := okWide_slice ht hv
  obtain ⟨fuel, hf⟩ := h
  rcases open_ints ht he hc hf with ⟨hcs, _⟩ | ⟨a, len', cap', zs, hcs, _, hl, hm, hz, _, hcell, hwz⟩
  · simp [Value.cells] at hcs
    obtain ⟨rfl, rfl, rfl⟩ := hcs
    exact ⟨[], ⟨none, 0, rfl, fun j x hx => by simp at hx⟩, by simp, by simp⟩
  · simp [Value.cells] at hcs
    obtain ⟨rfl, rfl, rfl⟩ := hcs
    simp only [if_true] at hz
    have hlen : (zs.take len).length = len := by simp; omega
    refine ⟨zs.take len, ⟨some a, cap, by rw [List.length_map, hlen], ?_⟩, by omega, fun x hx => ?_⟩
    · intro j x hx
      have hj : j < len := by
        rcases Nat.lt_or_ge j len with h | h
        · exact h
        · rw [List.getElem?_eq_none (by simp; omega)] at hx; simp at hx
      have hcj := hcell j (by omega)
      obtain ⟨b, off, spot⟩ := a
      have hspot : spot = none := by
        have h0 := hcell 0 (by omega)
        simpa [Addr.add] using World.cell?_spot h0
      subst hspot
      refine ⟨b, off, rfl, ?_⟩
      have hadd : (⟨b, off, none⟩ : Addr).add j = ⟨b, off + j, none⟩ := by unfold Addr.add; split <;> simp_all
      rw [hadd] at hcj
      rw [hcj]
      have hjs : j < zs.length := by omega
      simp [hj, List.getElem?_eq_getElem hjs] at hx
      rw [List.getD_eq_getElem?_getD, List.getElem?_eq_getElem hjs]
      simp [hx]
    · have := hwz x (List.mem_of_mem_take hx)
      simp only [Lit.wf, Bool.and_eq_true, decide_eq_true_eq] at this
      have h1 : IntKind.u8.min = 0 := by decide
      have h2 : IntKind.u8.max = 255 := by decide
      rw [h1, h2] at this
      exact this

theorem own : ownKnob Try.prog.godebug = none := by kernel_rfl
theorem laidOut : laidOutB Try.prog = true := by kernel_rfl
theorem cellsByte : Try.prog.cellsOf 5 = 1 := by kernel_rfl

set_option maxRecDepth 100000 in
theorem liftedFnFrames (os : Os) (started : os.Started) (H : Type) (enc : TypeId × Value → H) :
    ReturnsInHanded {} Try.checked os 3 .any (Rows.fnFramesSpec.pre6 enc Try.prog Try.f3 Rows.fnFramesRow.domain false) (Rows.fnFramesSpec.post enc Try.prog Try.f3 false true false false) := by
  refine returnsInHanded_of_change (C := Try.checked) own started (by kernel_rfl) Try.func3
    (ChangeSpec.witness6 (enc := enc) (C := Try.checked) false ⟨#[], #[.slice none 0 0], []⟩ 8 (by kernel_rfl) (by kernel_rfl) (by kernel_rfl) (by kernel_rfl)) ?_
  intro W base args ds gs before hval0 hW hcnd _
  have hval : ∀ (j : Nat) t v, Try.f3.params[j]? = some t → args[j]? = some v → Value.okWide Try.prog W .any base t v := hval0
  have hW' := hW
  obtain ⟨p, q, hA0, hV, rfl, hfz, hnd⟩ := hW
  have hA : DataW.TrodAll enc Try.prog W 0 (fun _ => true) true Try.f3.params.toList args.toList ds p := hA0
  rw [Try.params3] at hA hval
  obtain ⟨v0, vs0, d0, ds0, p0, q0, hargs, rfl, rfl, h0, r0⟩ := trodAll_cons hA
  obtain ⟨rfl, rfl, rfl⟩ := trodAll_nil r0
  obtain rfl : args = #[v0] := by cases args; simp_all
  obtain ⟨rfl, rfl⟩ := trodVars_none hV
  obtain ⟨bs, hr, hl, hs⟩ := open_code Try.underlying22 Try.underlying5 cellsByte (hval 0 22 v0 rfl rfl) h0
  refine (walkFrames bs v0 W hl hs hr).mono fun e W' ⟨he, hb⟩ => ?_
  subst he
  refine ⟨_, rfl, law_post (tb := 4) laidOut ?_ hW' rfl Try.underlying4 rfl rfl hb⟩
  exact all_readable (P := Try.prog) (by kernel_rfl)

theorem overFnFrames : Rows.fnFramesRow.holds Try.pinned (OpenSpec.ofChange Rows.fnFramesSpec) :=
  OpenClaim.holds_of_wide 3 Try.f3 rfl rfl rfl rfl rfl rfl rfl ⟨rfl, rfl, rfl, rfl, rfl⟩ rfl rfl rfl rfl rfl (by kernel_rfl) Try.func3 (by kernel_rfl)
    (of_decide_eq_true (by kernel_rfl)) (by unfold Func.isWrapper; first | (rw [if_pos (by decide +kernel)]; kernel_rfl) | (rw [if_neg (by decide +kernel)]; exact ⟨rfl, rfl⟩))
    (fun os started H enc _ => liftedFnFrames os started H enc)

/-- ████ THE STATEMENT ████ -/
theorem framesHolds : Rows.FnFramesSaid :=
  overFnFrames
#print axioms framesHolds

end Go.Proofs.Ytnfgdaejfeiabaa
