/-
  laws.toValue, toValueS: the walks.
-/
import Derived.Test.YtepahapocgmhiaaToVal
namespace Go.Proofs.Ytepahapocgmhiaa
open Go.RowKit
set_option linter.unusedVariables false
set_option linter.unusedSimpArgs false
set_option maxHeartbeats 4000000
set_option maxRecDepth 20000

theorem own_cellV {w : World} {base : Nat} {e : TypeId} {s n g cap : Nat} {xs : List Value} (h : w.ownsRow base e s (.slice (some ⟨g, 0, none⟩) n cap) n xs) (j : Nat) (hj : j < n * s) : ∃ x, w.cell? ⟨g, j, none⟩ = some x := by
  have h1 := h.cellAt j hj
  have h2 := h.1
  exact ⟨xs[j]'(by omega), by rw [h1]; simp⟩

theorem toList {d : Nat} (ih : ∀ (x : Val d) (cs : List Value) (w : World), RdV d w cs x → FineV d 1048576 x → Calls Try.prog 9 #[.agg cs.toArray] w (ToP x w))
    (its : List (Val d)) (iv : Value) (w : World) (hm : its.length ≤ 1048576) (hfine : ∀ x ∈ its, FineV d 1048576 x) (hr : RdS w (RdV d w) iv its) : Calls Try.prog 27 #[iv] w (ToL its w) := by
  obtain ⟨i0, hi, hz0, hz1, hz2⟩ := info_parts infoValue
  obtain ⟨ao, cap, rfl, hc⟩ := hr
  go_enter Try.func27, Try.ntmps27
  go_wp2_with (refine wpList_make_full _ rfl (.tmp 6) (.tmp 6) 28 rfl w.heap.size 30 i0 (.agg #[.int .i64 0, .int .i64 0, .string ⟨#[]⟩, .slice none 0 0, .slice none 0 0]) 5 Try.underlying28 hi hz0 hz1 .i64 .i64 _ _ its.length rfl rfl rfl rfl (by rw [hz2]; omega) (by unfold maxLen; omega) (Nat.le_refl _) ?_; intro w1 own1 grow1)
  have hb1 : Below w.heap.size w w1 := (Below.refl _ _).grown grow1 (Nat.le_refl _) (by simp)
  have F1 : Hid (∃ zs, FillS w its 0 zs w1) := ⟨_, own1, fun j x hj => by omega, hb1⟩
  clear own1 grow1 hb1
  go_loopw [4] (fun i wr => ∃ k : Nat, k ≤ its.length ∧ i = .int .i64 k ∧ ∃ zs, FillS w its k zs wr) (fun i _ => its.length - (intOf i).toNat)
  case atStart => exact ⟨0, Nat.zero_le _, rfl, F1.out⟩
  case round =>
    obtain ⟨k, hk, rfl, zs, hF⟩ := hrel
    have HF : Hid (FillS w its k zs wr) := hF
    clear F1 hF
    by_cases hlt : k < its.length
    · have hlt' : (k : Int) < (its.length : Int) := by omega
      have hk0 : (0 : Int) ≤ (k : Int) := by omega
      obtain ⟨g, off, cs, ha, hcl, hcell, hrv⟩ := hc k its[k] (by simp [hlt])
      subst ha
      have hfk := hfine its[k] (List.getElem_mem hlt)
      have hb := HF.out.bel
      match cs, hcl with
      | [c0, c1, c2, c3, c4], _ =>
        have e0 := (hb.cell (World.block_lt_of_cell? w _ (hcell 0 (by omega)))).trans (hcell 0 (by omega))
        have e1 := (hb.cell (World.block_lt_of_cell? w _ (hcell 1 (by omega)))).trans (hcell 1 (by omega))
        have e2 := (hb.cell (World.block_lt_of_cell? w _ (hcell 2 (by omega)))).trans (hcell 2 (by omega))
        have e3 := (hb.cell (World.block_lt_of_cell? w _ (hcell 3 (by omega)))).trans (hcell 3 (by omega))
        have e4 := (hb.cell (World.block_lt_of_cell? w _ (hcell 4 (by omega)))).trans (hcell 4 (by omega))
        simp only [List.getElem?_cons_zero, List.getElem?_cons_succ, Nat.add_zero] at e0 e1 e2 e3 e4
        have hcall := ih its[k] [c0, c1, c2, c3, c4] wr (hrv.below hb) hfk
        have hsz : w.heap.size + 1 ≤ wr.heap.size := (HF.out.own.lt w.heap.size rfl).2
        clear hb hcell hrv hfk
        go_wp2_with fail
        go_at_call 9
        refine hcall.mono ?_
        rintro e w2 ⟨kk, nn, tt, a1, n1, p1, a2, n2, p2, rfl, hrb, b2⟩
        have own2 := own_kept HF.out.own b2
        have f0 := own2.frozenAt (k * 5)
        have f1 := own2.frozenAt (k * 5 + 1)
        have f2 := own2.frozenAt (k * 5 + 2)
        have f3 := own2.frozenAt (k * 5 + 3)
        have f4 := own2.frozenAt (k * 5 + 4)
        obtain ⟨y0, d0⟩ := own_cellV own2 (k * 5) (by omega)
        obtain ⟨y1, d1⟩ := own_cellV own2 (k * 5 + 1) (by omega)
        obtain ⟨y2, d2⟩ := own_cellV own2 (k * 5 + 2) (by omega)
        obtain ⟨y3, d3⟩ := own_cellV own2 (k * 5 + 3) (by omega)
        obtain ⟨y4, d4⟩ := own_cellV own2 (k * 5 + 4) (by omega)
        have HP : Hid _ := HF.out.put hlt b2 hsz hrb
        clear hcall hrb b2 own2 HF e0 e1 e2 e3 e4
        go_wp2
        go_roundw
        case rel => exact ⟨k + 1, by omega, by go_num, HP.out⟩
        case measure => simp [intOf]; omega
    · obtain rfl : k = its.length := by omega
      have hnk : ¬ (its.length : Int) < (its.length : Int) := by omega
      have HE : Hid (RdSB wr w.heap.size (RdVB d wr w.heap.size) (.slice (some ⟨w.heap.size, 0, none⟩) its.length its.length) its) := by
        refine ⟨_, _, rfl, fun j x hx => ?_⟩
        have hj : j < its.length := (List.getElem?_eq_some_iff.1 hx).1
        obtain ⟨cs, h1, h2, h3⟩ := HF.out.done j x hj hx
        refine ⟨_, 0, cs, rfl, Nat.le_refl _, h1, fun q hq => ?_, h3.keep (fun a v _ hc => hc) (by omega)⟩
        rw [← h2 q hq, Nat.zero_add]
        have hl := HF.out.own.1
        exact HF.out.own.cellAt (j * 5 + q) (by omega)
      have HB : Hid (Below w.heap.size w wr) := HF.out.bel
      clear HF hc
      go_wp2
      go_ret
      exact ⟨_, rfl, HE.out, HB.out⟩

theorem own_sliceV {w : World} {base : Nat} {e : TypeId} {s n : Nat} {u : Value} {xs : List Value} (h : w.ownsRow base e s u n xs) : ∃ a m c, u = .slice a m c := by
  rcases h.2 with ⟨rfl, _⟩ | ⟨g, cap, cur, rfl, _⟩
  · exact ⟨_, _, _, rfl⟩
  · exact ⟨_, _, _, rfl⟩

theorem toValue : ∀ (d : Nat) (x : Val d) (cs : List Value) (w : World), RdV d w cs x → FineV d 1048576 x → Calls Try.prog 9 #[.agg cs.toArray] w (ToP x w)
  | 0, _, _, _, h, _ => h.elim
  | d + 1, (k, n, t, its, ks), cs, w, h, hf => by
    obtain ⟨iv, kv, rfl, hits, hil, hks, hkl, hts, hkx⟩ := h
    obtain ⟨f1, f2, f3, f4, f5⟩ := hf
    have ihl := fun W c => toList (toValue d) its iv W (by omega) f5 c
    have ihk := fun W c => toStringS ks kv W (by omega) c
    go_enter Try.func9, Try.ntmps9
    go_wp2_with fail
    go_at_call 27
    obtain ⟨W0, hW0⟩ : ∃ W, ((w.alloc (.cells #[.int .i64 k, .int .i64 n, .string t, iv, kv] 25)).alloc (.cells #[.int .i64 0, .int .i64 0, .string ⟨#[]⟩, .slice none 0 0, .slice none 0 0] 30)).alloc (.cells #[.int .i64 k, .int .i64 n, .string t, .slice none 0 0, .slice none 0 0] 30) = W := ⟨_, rfl⟩
    obtain ⟨b, hb⟩ : ∃ n, w.heap.size = n := ⟨_, rfl⟩
    have s0 : W0.heap.size = b + 3 := by rw [← hW0, ← hb]; simp
    have b0 : Below w.heap.size w W0 := by rw [← hW0]; go_grown
    have A0 : W0.heap[b]? = some (.cells #[.int .i64 k, .int .i64 n, .string t, iv, kv] 25 (0, 0)) := by
      rw [← hW0, ← hb, old_block (by simp; omega), old_block (by simp)]; exact heap_alloc_new w _
    have R0 : W0.heap[b + 1]? = some (.cells #[.int .i64 0, .int .i64 0, .string ⟨#[]⟩, .slice none 0 0, .slice none 0 0] 30 (0, 0)) := by
      rw [← hW0, ← hb, old_block (by simp)]
      have h9 := heap_alloc_new (w.alloc (.cells #[.int .i64 k, .int .i64 n, .string t, iv, kv] 25)) (.cells #[.int .i64 0, .int .i64 0, .string ⟨#[]⟩, .slice none 0 0, .slice none 0 0] 30)
      simpa using h9
    have O0 : W0.heap[b + 1 + 1]? = some (.cells #[.int .i64 k, .int .i64 n, .string t, .slice none 0 0, .slice none 0 0] 30 (0, 0)) := by
      rw [← hW0, ← hb]
      have h9 := heap_alloc_new ((w.alloc (.cells #[.int .i64 k, .int .i64 n, .string t, iv, kv] 25)).alloc (.cells #[.int .i64 0, .int .i64 0, .string ⟨#[]⟩, .slice none 0 0, .slice none 0 0] 30)) (.cells #[.int .i64 k, .int .i64 n, .string t, .slice none 0 0, .slice none 0 0] 30)
      simpa using h9
    have hcall := ihl W0 (hits.below b0 (fun cs x hx => RdV.below hx b0))
    rw [hW0]
    simp only [hb]
    refine hcall.mono ?_
    rintro e w1 ⟨u, rfl, hu, b1⟩
    obtain ⟨ua, uc, hue, huc⟩ := id hu
    subst hue
    have A1 := (b1.block b (by omega)).trans A0
    have R1 := (b1.block (b + 1) (by omega)).trans R0
    have O1 := (b1.block (b + 1 + 1) (by omega)).trans O0
    have z1 := b1.size
    have L1 : Below w.heap.size w w1 := b0.trans (b1.mono (by omega))
    obtain ⟨c0, c1, c2, c3, c4⟩ := five_in A1
    obtain ⟨o0, o1, o2, o3, o4⟩ := five_in O1
    have z3 := frozen_of_row w1 (b + 1 + 1) 3 _ _ O1
    obtain ⟨w1', hw1'⟩ : ∃ W, w1.setCell ⟨b + 1 + 1, 3, none⟩ (.slice ua its.length uc) = W := ⟨_, rfl⟩
    have G1 : w1.grownBy w1' (some (b + 1 + 1)) := by rw [← hw1']; exact ⟨rfl, rfl, rfl, by simp [World.setCell], fun k _ hk => Below.heap_setCell _ _ _ k (fun e => hk (by rw [e]))⟩
    have s1' : w1'.heap.size = w1.heap.size := by rw [← hw1']; simp [World.setCell]
    have A1' := (G1.block b (by omega) (by simp; omega)).trans A1
    have R1' := (G1.block (b + 1) (by omega) (by simp)).trans R1
    have O1' : w1'.heap[b + 1 + 1]? = some (.cells #[.int .i64 k, .int .i64 n, .string t, .slice ua its.length uc, .slice none 0 0] 30 (0, 0)) := by
      rw [← hw1', heap_setCell_same w1 (b + 1 + 1) 3 _ _ _ O1]; rfl
    have L1' : Below w.heap.size w w1' := L1.grown G1 L1.size (fun k e => by simp at e; omega)
    have hcall2 := ihk w1' (reads_below hks L1')
    obtain ⟨p0, p1, p2, p3, p4⟩ := five_in A1'
    have HU : Hid (RdSB w1 W0.heap.size (RdVB d w1 W0.heap.size) (.slice ua its.length uc) its) := hu
    have HL1 : Hid (Below w.heap.size w w1') := L1'
    have HBb : Hid (w.heap.size = b) := hb
    have HG1 : Hid (w1.grownBy w1' (some (b + 1 + 1))) := G1
    have HR1 : Hid (w1'.heap[b + 1]? = some (.cells #[.int .i64 0, .int .i64 0, .string ⟨#[]⟩, .slice none 0 0, .slice none 0 0] 30 (0, 0))) := R1'
    have HO1 : Hid (w1'.heap[b + 1 + 1]? = some (.cells #[.int .i64 k, .int .i64 n, .string t, .slice ua its.length uc, .slice none 0 0] 30 (0, 0))) := O1'
    clear hcall hu huc hits hW0 A0 R0 O0 b0 A1 R1 O1 b1 L1 G1 A1' R1' O1' L1' hks ihl
    go_wp2_with fail
    go_at_call 28
    clear hw1'
    refine hcall2.mono ?_
    rintro e w2 ⟨v2, rfl, ov2, b2⟩
    obtain ⟨va, vm, vc, rfl⟩ := own_sliceV ov2
    obtain rfl : vm = ks.length := by
      obtain ⟨_, _, e9, _⟩ := reads_own ov2
      injection e9 with _ e9 _
      simpa using e9
    have z2 := b2.size
    have zb := HO1.out
    have zlt : b + 1 + 1 < w1'.heap.size := (Array.getElem?_eq_some_iff.1 HO1.out).1
    have R2 := (b2.block (b + 1) (by omega)).trans HR1.out
    have O2 := (b2.block (b + 1 + 1) zlt).trans HO1.out
    have L2 : Below w.heap.size w w2 := HL1.out.trans (b2.mono HL1.out.size)
    obtain ⟨w3, hw3⟩ : ∃ W, w2.setCell ⟨b + 1 + 1, 4, none⟩ (.slice va ks.length vc) = W := ⟨_, rfl⟩
    obtain ⟨_, _, _, _, o4'⟩ := five_in O2
    have z4 := frozen_of_row w2 (b + 1 + 1) 4 _ _ O2
    have one : ∀ (W : World) (B o : Nat) (x : Value), W.grownBy (W.setCell ⟨B, o, none⟩ x) (some B) := fun W B o x => ⟨rfl, rfl, rfl, by simp [World.setCell], fun k _ hk => Below.heap_setCell _ _ _ k (fun e => hk (by rw [e]))⟩
    have G3 : w2.grownBy w3 (some (b + 1 + 1)) := by rw [← hw3]; exact one _ _ _ _
    have O3 : w3.heap[b + 1 + 1]? = some (.cells #[.int .i64 k, .int .i64 n, .string t, .slice ua its.length uc, .slice va ks.length vc] 30 (0, 0)) := by
      rw [← hw3, heap_setCell_same w2 (b + 1 + 1) 4 _ _ _ O2]; rfl
    have R3 := (G3.block (b + 1) (by omega) (by simp)).trans R2
    obtain ⟨q0, q1, q2, q3, q4⟩ := five_in O3
    obtain ⟨r0, r1, r2, r3, r4⟩ := five_in R3
    have y0 := frozen_of_row w3 (b + 1) 0 _ _ R3
    have y1 := frozen_of_row w3 (b + 1) 1 _ _ R3
    have y2 := frozen_of_row w3 (b + 1) 2 _ _ R3
    have y3 := frozen_of_row w3 (b + 1) 3 _ _ R3
    have y4 := frozen_of_row w3 (b + 1) 4 _ _ R3
    have G9 := grown_set5 w3 (b + 1) 0 1 2 3 4 (.int .i64 k) (.int .i64 n) (.string t) (.slice ua its.length uc) (.slice va ks.length vc)
    have R4 := heap_setCell_same _ (b + 1) 4 _ _ (.slice va ks.length vc) (heap_setCell_same _ (b + 1) 3 _ _ (.slice ua its.length uc) (heap_setCell_same _ (b + 1) 2 _ _ (.string t) (heap_setCell_same _ (b + 1) 1 _ _ (.int .i64 n) (heap_setCell_same w3 (b + 1) 0 _ _ (.int .i64 k) R3))))
    obtain ⟨W9, hW9⟩ : ∃ W, ((((w3.setCell ⟨b + 1, 0, none⟩ (.int .i64 k)).setCell ⟨b + 1, 1, none⟩ (.int .i64 n)).setCell ⟨b + 1, 2, none⟩ (.string t)).setCell ⟨b + 1, 3, none⟩ (.slice ua its.length uc)).setCell ⟨b + 1, 4, none⟩ (.slice va ks.length vc) = W := ⟨_, rfl⟩
    rw [hW9] at G9 R4
    have R9 : W9.heap[b + 1]? = some (.cells #[.int .i64 k, .int .i64 n, .string t, .slice ua its.length uc, .slice va ks.length vc] 30 (0, 0)) := R4
    obtain ⟨x0, x1, x2, x3, x4⟩ := five_in R9
    have L9 : Below w.heap.size w W9 := (L2.grown G3 L2.size (fun k e => by simp at e; omega)).grown G9 (Nat.le_trans L2.size G3.size) (fun k e => by simp at e; omega)
    have keep : ∀ (a : Addr) v, b + 3 ≤ a.block → w1.cell? a = some v → W9.cell? a = some v := fun a v ha hc =>
      G9.cell (G3.cell ((b2.cell (World.block_lt_of_cell? w1' _ (HG1.out.cell hc (by simp; omega)))).trans (HG1.out.cell hc (by simp; omega))) (by simp; omega)) (by simp; omega)
    have HFIN : Hid (RdVB (d + 1) W9 w.heap.size [.int .i64 k, .int .i64 n, .string t, .slice ua its.length uc, .slice va ks.length vc] (k, n, t, its, ks)) := by
      refine ⟨_, _, rfl, ?_, hil, ?_, hkl, hts, hkx⟩
      · obtain ⟨ao, cap, e9, hc⟩ := HU.out
        refine ⟨ao, cap, e9, fun j x hx => ?_⟩
        obtain ⟨g, off, cs, h1, h0, h2, h3, h4⟩ := hc j x hx
        refine ⟨g, off, cs, h1, by omega, h2, fun q hq => ?_, h4.keep (fun a v ha hc9 => keep a v (by omega) hc9) (by omega)⟩
        have h6 := h3 q hq
        rw [List.getElem?_eq_getElem (by omega)] at h6
        rw [List.getElem?_eq_getElem (by omega)]
        exact keep _ _ (by simp; omega) h6
      · obtain ⟨ao, cap, e9, hcp, hc⟩ := own_readsB ov2
        refine ⟨ao, cap, e9, hcp, fun j x hx => ?_⟩
        obtain ⟨g, off, h1, h0, h2⟩ := hc j x hx
        exact ⟨g, off, h1, by omega, G9.cell (G3.cell h2 (by simp; omega)) (by simp; omega)⟩
    have HL9 : Hid (Below w.heap.size w W9) := L9
    clear keep L9 R9 R4 G9 G3 O3 R3 O2 R2 L2 ov2 b2 HU HG1 HR1 HO1 HL1 hcall2 zb one hil hkl hts hkx f1 f2 f3 f4 f5 ihk
    go_wp2
    refine bodyPost_ret (v := .agg #[.int .i64 k, .int .i64 n, .string t, .slice ua its.length uc, .slice va ks.length vc]) (by simp [results, Try.results9, go_sem, x0, x1, x2, x3, x4]) rfl ?_
    exact ⟨k, n, t, ua, its.length, uc, va, ks.length, vc, rfl, HFIN.out, HL9.out⟩

end Go.Proofs.Ytepahapocgmhiaa
