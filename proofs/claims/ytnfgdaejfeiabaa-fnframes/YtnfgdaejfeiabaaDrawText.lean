/-
  spec.l1DrawText: some short text.
-/
import Derived.Test.YtnfgdaejfeiabaaDraw
namespace Go.Proofs.Ytnfgdaejfeiabaa
open Go.RowKit
set_option linter.unusedVariables false
set_option maxHeartbeats 4000000

theorem cur_lt {w : World} {g : Nat} {bs : List Int} (h : Cur w g bs) : g < w.heap.size := by
  obtain ⟨ao, cap, i, h, hh, _⟩ := h
  exact (Array.getElem?_eq_some_iff.1 hh).1

theorem cur_alloc {w : World} {g : Nat} {bs : List Int} (h : Cur w g bs) (o : Obj) : Cur (w.alloc o) g bs := cur_below h (Below.alloc (Below.refl _ _) (Nat.le_refl _) o)

theorem grown_alloc {a w : World} {row : Option Nat} (h : a.grownBy w row) (o : Obj) : a.grownBy (w.alloc o) row := grown_trans h (World.grownBy_alloc w o row)

theorem info_byte : (Try.prog.info? 5).map (fun i => (i.zero, i.size, i.bytes)) = some (some (.int .u8 0), 1, 1) := by kernel_rfl

/-- make([]byte, 101): a block Z; string(..) of it: a text of 101 bytes. -/
theorem make101 : ∃ Z : Array Value, ∃ zs : ByteArray, zs.size = 101 ∧
    (∀ W : World, (Instr.makeSlice 22 (.int .i64 101) (.int .i64 101)).run Try.prog W = .ok (.slice (some ⟨W.heap.size, 0, none⟩) 101 101) (W.alloc (.cells Z 5))) ∧
    (∀ (W : World) (b : Nat), W.heap[b]? = some (.cells Z 5 (0, 0)) → (convert 22 9 (.slice (some ⟨b, 0, none⟩) 101 101)).run Try.prog W = .ok (.string zs) W) := by
  obtain ⟨i0, hi, hz0, hz1, hz2⟩ := info_parts info_byte
  have hm := fun W : World => run_make (P := Try.prog) W 22 5 i0 (.int .u8 0) Try.underlying22 hi hz0 .i64 .i64 101 101 (by omega) (by omega) (by rw [hz2]; omega) (by omega)
  refine ⟨_, strOfNums (List.replicate 101 0), by rw [strOfNums_size]; simp, hm, fun W b hb => ?_⟩
  refine run_convert_bytes_arg W 22 5 Try.underlying22 Try.underlying5 b 0 101 101 (List.replicate 101 0) (by simp) ?_ 9 Try.underlying9
  intro i hi'
  rw [cell_of_row W b (0 + i) _ 5 (0, 0) hb, hz1, ← Array.getElem?_toList]
  have : (madeCells (Value.int .u8 0).cells ((101 : Int).toNat * 1)).toList = List.replicate 101 (Value.int .u8 0) := toList_madeCells_one (.int .u8 0) 101
  rw [this, List.getElem?_replicate, if_pos (by omega), List.getD_eq_getElem?_getD, List.getElem?_replicate, if_pos (by omega)]
  rfl

theorem one_of3 (a b c : ByteArray) (y : Int) (h0 : 0 ≤ y) (h1 : y < 3) (ha : a.size ≤ 101) (hb : b.size ≤ 101) (hc : c.size ≤ 101) :
    ∃ t : ByteArray, t.size ≤ 101 ∧ (#[Value.string a, Value.string b, Value.string c] : Array Value)[y.toNat]? = some (.string t) := by
  have : y = 0 ∨ y = 1 ∨ y = 2 := by omega
  rcases this with rfl | rfl | rfl
  · exact ⟨a, ha, rfl⟩
  · exact ⟨b, hb, rfl⟩
  · exact ⟨c, hc, rfl⟩

theorem row_cell {w : World} {b : Nat} {c : Array Value} {t : TypeId} (h : w.heap[b]? = some (.cells c t (0, 0))) (j : Nat) : w.cell? ⟨b, j, none⟩ = c[j]? := cell_of_row w b j c t (0, 0) h

theorem second_block (w : World) (o p : Obj) : ((w.alloc o).alloc p).heap[w.heap.size + 1]? = some p := by
  have := heap_alloc_new (w.alloc o) p
  rwa [show (w.alloc o).heap.size = w.heap.size + 1 by simp] at this
theorem first_block (w : World) (o p : Obj) : ((w.alloc o).alloc p).heap[w.heap.size]? = some o := (old_block (by simp)).trans (heap_alloc_new w o)

theorem l1DrawText (g : Nat) (bs : List Int) (w : World) (hl : bs.length ≤ 1048576) (hc : Cur w g bs) :
    Calls Try.prog 18 #[.pointer (some ⟨g, 0, none⟩)] w fun e w' => ∃ s : ByteArray, e = .returned (.string s) ∧ s.size ≤ 104 ∧ Cur w' g bs ∧ w.grownBy w' (some g) := by
  go_enter Try.func18, Try.ntmps18
  go_wp2_with fail
  go_at_call 17
  refine (l1Below g bs 4 (by omega) _ hl hc).mono ?_
  rintro e w1 ⟨x, rfl, hx0, hx1, hx2, hc1, hg1⟩
  have hx1 := hx1 (by omega)
  clear hx2
  go_wp2_with fail
  go_loopw [3, 4] (fun q i wr => ∃ (s : ByteArray) (n : Int), q = .string s ∧ i = .int .i64 n ∧ 0 ≤ n ∧ (s.size : Int) + n ≤ 3 ∧ Cur wr g bs ∧ w.grownBy wr (some g)) (fun _ i _ => (intOf i).toNat)
  case atStart => exact ⟨⟨#[]⟩, x, rfl, rfl, hx0, by show (0 : Int) + x ≤ 3; omega, hc1, hg1⟩
  case round =>
    obtain ⟨s, n, rfl, rfl, hn0, hsn, hcr, hgr⟩ := hrel
    have hglt := cur_lt hcr
    by_cases hn : 0 < n
    · go_wp2_with fail
      go_at_call 17
      refine (l1Below g bs 6 (by omega) _ hl (cur_alloc hcr _)).mono ?_
      rintro e w2 ⟨y, rfl, hy0, hy1, hy2, hc2, hg2⟩
      have hy1 := hy1 (by omega)
      clear hy2
      have hgr2 := grown_trans (grown_alloc hgr _) hg2
      have hrow := (hg2.block wr.heap.size (by simp) (by simp; omega)).trans (heap_alloc_new wr _)
      have hcell : ∃ t : ByteArray, t.size = 1 ∧ w2.cell? ⟨wr.heap.size, y.toNat, none⟩ = some (.string t) := by
        have hcase : y = 0 ∨ y = 1 ∨ y = 2 ∨ y = 3 ∨ y = 4 ∨ y = 5 := by omega
        rcases hcase with rfl | rfl | rfl | rfl | rfl | rfl
        · exact ⟨_, rfl, by simp [World.cell?, hrow]; rfl⟩
        · exact ⟨_, rfl, by simp [World.cell?, hrow]; rfl⟩
        · exact ⟨_, rfl, by simp [World.cell?, hrow]; rfl⟩
        · exact ⟨_, rfl, by simp [World.cell?, hrow]; rfl⟩
        · exact ⟨_, rfl, by simp [World.cell?, hrow]; rfl⟩
        · exact ⟨_, rfl, by simp [World.cell?, hrow]; rfl⟩
      obtain ⟨t, ht, hcell⟩ := hcell
      have HADD : Hid ((s ++ t).size = s.size + 1) := by show _ = _; rw [ByteArray.size_append, ht]
      have ks : ¬ 9223372036854775807 < s.size + t.size := by omega
      have ks' : s.size + t.size ≤ 9223372036854775807 := by omega
      clear hrow ht
      go_wp2
      go_roundw
      case rel => exact ⟨_, n - 1, rfl, by go_num, by omega, by rw [HADD.out]; omega, hc2, hgr2⟩
      case measure => simp [intOf]; omega
    · have hn' : n = 0 := by omega
      subst hn'
      go_wp2_with fail
      go_at_call 16
      refine (l1Once g bs 30 (by omega) _ hl hcr).mono ?_
      rintro e w2 ⟨b, rfl, hc2, hg2⟩
      have hgr2 := grown_trans hgr hg2
      cases b with
      | false =>
        go_wp2
        go_ret
        exact ⟨s, rfl, by omega, hc2, hgr2⟩
      | true =>
        obtain ⟨Z, zs, hzs, hmk, hcv⟩ := make101
        have hcv1 : ∀ W : World, (convert 22 9 (.slice (some ⟨W.heap.size, 0, none⟩) 101 101)).run Try.prog (W.alloc (.cells Z 5)).drew = .ok (.string zs) (W.alloc (.cells Z 5)).drew := fun W => hcv _ _ (heap_alloc_new W _)
        have hcv2 : ∀ W : World, (convert 22 9 (.slice (some ⟨W.heap.size, 0, none⟩) 101 101)).run Try.prog (W.alloc (.cells Z 5)) = .ok (.string zs) (W.alloc (.cells Z 5)) := fun W => hcv _ _ (heap_alloc_new W _)
        have HCV : Hid _ := hcv
        have hglt2 := cur_lt hc2
        clear hcv
        go_wp2
        go_region_with (first | (go_at_call 17; refine (l1Below g bs 3 (by omega) ((w2.alloc (.cells Z 5)).alloc (.cells #[.string ⟨#[31]⟩, .string ⟨#[127]⟩, .string zs] 9)).drew hl (cur_below hc2 (by go_grown))).mono ?_; rintro e w3 ⟨y, rfl, hy0, hy1', hy2, hc3, hg3⟩; have hy1 := hy1' (by omega); clear hy2 hy1'; obtain ⟨t, ht, hf⟩ := one_of3 ⟨#[31]⟩ ⟨#[127]⟩ zs y hy0 hy1 (by decide) (by decide) (by omega); have hf1 : ∀ (W : World) (j : Nat), j = W.heap.size → (W.alloc (.cells #[.string ⟨#[31]⟩, .string ⟨#[127]⟩, .string zs] 9)).cell? ⟨j, y.toNat, none⟩ = some (.string t) := (fun W j hj => by subst hj; exact (row_cell (heap_alloc_new W _) _).trans hf); have hgr3 := grown_trans hgr2 (grown_trans (grown_of_below (by go_grown) _) hg3); have hrow3 := (row_cell ((hg3.block (w2.heap.size + 1) (by simp) (by simp; omega)).trans (second_block w2 _ _)) y.toNat).trans hf) | (go_at_call 17; refine (l1Below g bs 3 (by omega) (w2.alloc (.cells Z 5)).drew hl (cur_below hc2 (by go_grown))).mono ?_; rintro e w3 ⟨y, rfl, hy0, hy1', hy2, hc3, hg3⟩; have hy1 := hy1' (by omega); clear hy2 hy1'; obtain ⟨t, ht, hf⟩ := one_of3 ⟨#[31]⟩ ⟨#[127]⟩ zs y hy0 hy1 (by decide) (by decide) (by omega); have hf1 : ∀ (W : World) (j : Nat), j = W.heap.size → (W.alloc (.cells #[.string ⟨#[31]⟩, .string ⟨#[127]⟩, .string zs] 9)).cell? ⟨j, y.toNat, none⟩ = some (.string t) := (fun W j hj => by subst hj; exact (row_cell (heap_alloc_new W _) _).trans hf); have hgr3 := grown_trans hgr2 (grown_trans (grown_of_below (by go_grown) _) hg3); have hcv3 := HCV.out w3 w2.heap.size ((hg3.block _ (by simp) (by simp; omega)).trans (heap_alloc_new w2 _))) | (go_at_call 17; refine (l1Below g bs 3 (by omega) w2.drew hl (cur_below hc2 (by go_grown))).mono ?_; rintro e w3 ⟨y, rfl, hy0, hy1', hy2, hc3, hg3⟩; have hy1 := hy1' (by omega); clear hy2 hy1'; obtain ⟨t, ht, hf⟩ := one_of3 ⟨#[31]⟩ ⟨#[127]⟩ zs y hy0 hy1 (by decide) (by decide) (by omega); have hf1 : ∀ (W : World) (j : Nat), j = W.heap.size → (W.alloc (.cells #[.string ⟨#[31]⟩, .string ⟨#[127]⟩, .string zs] 9)).cell? ⟨j, y.toNat, none⟩ = some (.string t) := (fun W j hj => by subst hj; exact (row_cell (heap_alloc_new W _) _).trans hf); have hgr3 := grown_trans hgr2 (grown_trans (grown_of_below (by go_grown) _) hg3)))
        all_goals
          have hsz : (s ++ t).size ≤ 104 := by rw [ByteArray.size_append]; omega
          generalize hd : Oper.dst _ = dd
          obtain rfl : dd = some 3 := by rw [← hd]; rfl
          clear hd
          have HSZ : Hid _ := hsz
          clear hsz
          go_wp2
          go_ret
          refine ⟨_, rfl, HSZ.out, ?_, ?_⟩
          · first | exact hc3 | exact cur_alloc hc3 _ | exact cur_alloc (cur_alloc hc3 _) _
          · first | exact hgr3 | exact grown_alloc hgr3 _ | exact grown_alloc (grown_alloc hgr3 _) _
end Go.Proofs.Ytnfgdaejfeiabaa
