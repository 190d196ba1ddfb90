/-
  Chapter 17: DrawQueueOk, DrawServed.
-/
import Derived.Test.YtjlpjjddnkceoaaQueDraw
import Derived.Test.YtjlpjjddnkceoaaDraw
namespace Go.Proofs.Ytjlpjjddnkceoaa
open Go.RowKit
set_option linter.unusedVariables false
set_option linter.unusedSimpArgs false
set_option maxHeartbeats 8000000
set_option maxRecDepth 20000

attribute [local go_sem ↓] Go.wp_at_zero Go.wp_at_succ

theorem drawQueueOk (bs : List Int) (v : Value) (w : World) (hl : bs.length ≤ 1048576) (hv : Reads w v (bs.map (Value.int .u8))) :
    Calls Try.prog 20 #[v] w fun e w' => ∃ (t : Int) (u : Value) (X : List (List Int)), e = .returned (.agg #[.int .i64 t, u]) ∧ X.length ≤ 8 ∧ (∀ x ∈ X, x.length ≤ 6) ∧ HiReads w.heap.size w' u X ∧ Below w.heap.size w w' := by
  obtain ⟨W0, hW0⟩ : ∃ W0, w.alloc (.cells #[.int .i64 0, .slice none 0 0] 26) = W0 := ⟨_, rfl⟩
  have b0 : Below w.heap.size w W0 := by rw [← hW0]; go_grown
  have s0 : W0.heap.size = w.heap.size + 1 := by rw [← hW0]; simp
  have H0 : W0.heap[w.heap.size]? = some (.cells #[.int .i64 0, .slice none 0 0] 26 (0, 0)) := by rw [← hW0]; exact heap_alloc_new w _
  have HS0 : Hid _ := s0
  clear s0
  go_enter Try.func20, Try.ntmps20
  go_wp2_with fail
  go_at_call 31
  refine (l1New bs v W0 hl (reads_below hv b0)).mono ?_
  rintro e w1 ⟨g, rfl, hg, hc, b1⟩
  have HR1 : Hid _ := box_stepQ H0 b1
  have HL1 : Hid (Below w.heap.size w w1) := low_stepQ b0 b1
  clear b1 b0 H0 hW0
  go_wp2_with fail
  go_at_call 32
  refine (l17Draw g bs w1 hl hc).mono ?_
  rintro e w2 ⟨t, u, X, rfl, h8, h6, hR, hc2, hg2⟩
  obtain ⟨ua, um, uc, hu⟩ : ∃ a m c, u = .slice a m c := by obtain ⟨a, c, e, _⟩ := hR w2 (fun _ _ _ => rfl); exact ⟨_, _, _, e⟩
  subst hu
  have hgw : w.heap.size < g := by have := HS0.out; omega
  have HR2 := (hg2.block _ (Array.getElem?_eq_some_iff.1 HR1.out).1 (fun e => by cases e; omega)).trans HR1.out
  have HL2 : Hid (Below w.heap.size w w2) := ⟨hg2.os.trans HL1.out.os, hg2.tape.trans HL1.out.tape, hg2.output.trans HL1.out.output, Nat.le_trans HL1.out.size hg2.size, fun k hk => (hg2.block k (Nat.lt_of_lt_of_le hk HL1.out.size) (fun e => by cases e; omega)).trans (HL1.out.block k hk)⟩
  obtain ⟨r0, r1, x0, x1⟩ := two_cellsQ HR2
  have R9 := two_setQ HR2 (.int .i64 t) (.slice ua um uc)
  obtain ⟨y0, y1, _, _⟩ := two_cellsQ R9
  have HRD : Hid (HiReads w.heap.size ((w2.setCell ⟨w.heap.size, 0, none⟩ (.int .i64 t)).setCell ⟨w.heap.size, 1, none⟩ (.slice ua um uc)) (.slice ua um uc) X) := fun W' hW => hR W' (fun b hb hb2 => by
    have h9 := HL1.out.size
    rw [hW b (by omega) (by simpa using hb2), Below.heap_setCell _ _ _ _ (by simp; omega), Below.heap_setCell _ _ _ _ (by simp; omega)])
  clear hR hc hc2 hg2 HR2 R9
  go_wp2
  refine bodyPost_ret (v := .agg #[.int .i64 t, .slice ua um uc]) (by simp [results, Try.results20, go_sem, y0, y1]) rfl ?_
  exact ⟨t, _, X, rfl, h8, h6, HRD.out, (HL2.out.setCell (by simp) _).setCell (by simp) _⟩

theorem drawServed (bs : List Int) (v : Value) (w : World) (hl : bs.length ≤ 1048576) (hv : Reads w v (bs.map (Value.int .u8))) :
    Calls Try.prog 6 #[v] w fun e w' => ∃ (t : Int) (u : Value) (X : List (List Int)), e = .returned (.agg #[.int .i64 t, u]) ∧ X.length ≤ 8 ∧ (∀ x ∈ X, x.length ≤ 6) ∧ HiReads w.heap.size w' u X ∧ Below w.heap.size w w' := by
  obtain ⟨W0, hW0⟩ : ∃ W0, w.alloc (.cells #[.int .i64 0, .slice none 0 0] 26) = W0 := ⟨_, rfl⟩
  have b0 : Below w.heap.size w W0 := by rw [← hW0]; go_grown
  have s0 : W0.heap.size = w.heap.size + 1 := by rw [← hW0]; simp
  have H0 : W0.heap[w.heap.size]? = some (.cells #[.int .i64 0, .slice none 0 0] 26 (0, 0)) := by rw [← hW0]; exact heap_alloc_new w _
  have HS0 : Hid _ := s0
  clear s0
  go_enter Try.func6, Try.ntmps6
  go_wp2_with fail
  go_at_call 20
  refine (drawQueueOk bs v W0 hl (reads_below hv b0)).mono ?_
  rintro e w2 ⟨t, u, X, rfl, h8, h6, hR, b2⟩
  obtain ⟨ua, um, uc, hu⟩ : ∃ a m c, u = .slice a m c := by obtain ⟨a, c, e, _⟩ := hR w2 (fun _ _ _ => rfl); exact ⟨_, _, _, e⟩
  subst hu
  have HR2 := box_stepQ H0 b2
  have HL2 : Hid (Below w.heap.size w w2) := low_stepQ b0 b2
  obtain ⟨r0, r1, x0, x1⟩ := two_cellsQ HR2
  have R9 := two_setQ HR2 (.int .i64 t) (.slice ua um uc)
  obtain ⟨y0, y1, _, _⟩ := two_cellsQ R9
  have HRD : Hid (HiReads w.heap.size ((w2.setCell ⟨w.heap.size, 0, none⟩ (.int .i64 t)).setCell ⟨w.heap.size, 1, none⟩ (.slice ua um uc)) (.slice ua um uc) X) := fun W' hW => hR W' (fun b hb hb2 => by
    have h9 := HS0.out
    rw [hW b (by omega) (by simpa using hb2), Below.heap_setCell _ _ _ _ (by simp; omega), Below.heap_setCell _ _ _ _ (by simp; omega)])
  clear hR HR2 R9 b2 b0 H0 hW0
  go_wp2
  refine bodyPost_ret (v := .agg #[.int .i64 t, .slice ua um uc]) (by simp [results, Try.results6, go_sem, y0, y1]) rfl ?_
  exact ⟨t, _, X, rfl, h8, h6, HRD.out, (HL2.out.setCell (by simp) _).setCell (by simp) _⟩

end Go.Proofs.Ytjlpjjddnkceoaa
