/-
  Chapter 13: spec.DrawShowProgram, spec.DrawReadProgram: what they draw.
-/
import Derived.Test.YtjdmmpdcafbneaaDoorG20DrawProgs
import Derived.Test.YtjdmmpdcafbneaaDoorBend
import Derived.Test.YtjdmmpdcafbneaaDoorShowS
import Derived.Test.YtjdmmpdcafbneaaDoorShowI
namespace Go.Proofs.YtjdmmpdcafbneaaDoor
open Go.RowKit
set_option linter.unusedVariables false
set_option linter.unusedSimpArgs false
set_option maxHeartbeats 4000000
set_option maxRecDepth 20000

theorem drawn_lensS {ps : List (List Stm)} {L : List Nat} (h : ps.map List.length = L) (h5 : L.length ≤ 5) (h14 : ∀ n ∈ L, n ≤ 14) : ps.length ≤ maxLen ∧ ∀ p ∈ ps, p.length ≤ maxLen := by
  subst h
  refine ⟨by simp at h5; unfold maxLen; omega, fun p hp => ?_⟩
  have := h14 p.length (List.mem_map_of_mem hp)
  unfold maxLen
  omega
theorem showA_len (ps : List (List Stm)) : (showA ps).length ≤ 400 := by
  unfold showA
  split
  · rename_i h
    have h1 := progs_all h
    have h2 := show_len h1.1 h1.2.2 ps.length
    rw [List.take_of_length_le (Nat.le_refl _)] at h2
    unfold showT
    omega
  · simp

theorem drawShow (bs : List Int) (v : Value) (w : World) (hl : bs.length ≤ 1048576) (hv : Reads w v (bs.map (Value.int .u8))) :
    Calls Tryd.prog 5 #[v] w fun e w' => ∃ (u : Value) (L : List Nat), e = .returned (.agg #[u]) ∧ L.length ≤ 5 ∧ (∀ n ∈ L, n ≤ 14) ∧ PrOk w' w.heap.size u L ∧ Below w.heap.size w w' := by
  obtain ⟨W0, hW0⟩ : ∃ W, w.alloc (.cells #[.slice none 0 0] 26) = W := ⟨_, rfl⟩
  have hb0 : Below w.heap.size w W0 := by rw [← hW0]; go_grown
  have hs0 : w.heap.size < W0.heap.size := by rw [← hW0]; simp
  have R0 : W0.heap[w.heap.size]? = some (.cells #[.slice none 0 0] 26 (0, 0)) := by rw [← hW0]; exact heap_alloc_new w _
  have hd := drawProgramOk bs v W0 hl (reads_below hv hb0)
  go_enter Tryd.func5, Tryd.ntmps5
  go_wp2_with fail
  go_at_call 13
  clear hW0
  refine hd.mono ?_
  rintro e w2 ⟨u, L, rfl, h5, h14, pr2, b2⟩
  obtain ⟨ua, un, uc, rfl⟩ := pr2.slice
  have R2 := (b2.block _ hs0).trans R0
  have L2 : Below w.heap.size w w2 := hb0.trans (b2.mono hb0.size)
  obtain ⟨r2, fr2⟩ := oneCell R2
  have G5 := heap_setCell_same w2 w.heap.size 0 _ 26 (.slice ua un uc) R2
  simp at G5
  obtain ⟨d5, _⟩ := oneCell G5
  have PR : Hid (PrOk w2 W0.heap.size (.slice ua un uc) L) := pr2
  clear G5 pr2 hd R0 b2
  go_wp2_with fail
  refine bodyPost_ret (v := .agg #[.slice ua un uc]) (by simp [results, Tryd.results5, go_sem, d5]) rfl ?_
  exact ⟨_, L, rfl, h5, h14, PR.out.answered (by omega), L2.setCell (by simp) _⟩

theorem drawRead (bs : List Int) (v : Value) (w : World) (hl : bs.length ≤ 1048576) (hv : Reads w v (bs.map (Value.int .u8))) :
    Calls Tryd.prog 7 #[v] w fun e w' => ∃ t : ByteArray, e = .returned (.string t) ∧ t.size ≤ 402 ∧ Below w.heap.size w w' := by
  have hn := l1New bs v w hl hv
  go_enter Tryd.func7, Tryd.ntmps7
  go_wp2_with fail
  go_at_call 17
  refine hn.mono ?_
  rintro e w1 ⟨g, rfl, hg, hc1, b1⟩
  have hd := l3DrawAny g bs w1 hl hc1
  clear hn
  go_wp2_with fail
  go_at_call 18
  refine hd.mono ?_
  rintro e w2 ⟨u, L, rfl, h5, h14, pr2, hc2, hg2⟩
  obtain ⟨ps, rp, hpL⟩ := pr2.reads
  obtain ⟨hps, hpe⟩ := drawn_lensS hpL h5 h14
  have L2 : Hid (Below w.heap.size w w2) := b1.grown hg2 b1.size (fun k e => by cases e; exact hg)
  have hsh := specShow ps u w2 hps hpe rp
  obtain ⟨s, hs⟩ : ∃ s : ByteArray, (⟨(showA ps).toArray⟩ : ByteArray) = s := ⟨_, rfl⟩
  have hs4 : s.size ≤ 400 := by rw [← hs]; exact showA_len ps
  rw [hs] at hsh
  clear hd hpL pr2 rp hg2 b1 hs
  go_wp2_with fail
  go_at_call 11
  refine hsh.mono ?_
  rintro e w3 ⟨rfl, b3⟩
  have hc3 := cur_below hc2 b3
  have L3 : Hid (Below w.heap.size w w3) := L2.out.trans (b3.mono L2.out.size)
  have ho := l1Once g bs 2 (by omega) w3 hl hc3
  clear hsh hc2 b3
  go_wp2_with fail
  go_at_call 19
  refine ho.mono ?_
  rintro e w4 ⟨b, rfl, hc4, hg4⟩
  have L4 : Hid (Below w.heap.size w w4) := L3.out.grown hg4 L3.out.size (fun k e => by cases e; exact hg)
  clear ho hg4
  cases b with
  | false =>
    go_wp2
    go_ret
    exact ⟨s, rfl, by omega, L4.out⟩
  | true =>
    have hbd := fun sg h1 h2 => l1Bend g bs s sg w4 hl hc4 (by omega) h1 h2
    go_wp2_with fail
    go_at_call 20
    refine (hbd _ (by decide) (by decide)).mono ?_
    rintro e w5 ⟨t, rfl, ht, hc5, hg5⟩
    have L5 : Hid (Below w.heap.size w w5) := L4.out.grown hg5 L4.out.size (fun k e => by cases e; exact hg)
    clear hbd hg5 hc5
    go_wp2
    go_ret
    exact ⟨t, rfl, by omega, L5.out⟩

end Go.Proofs.YtjdmmpdcafbneaaDoor
