/-
  laws.eqValue, eqValueS: of two that hold the same value, true.
-/
import Derived.Test.YtepahapocgmhiaaToVal2
import Derived.Deep.RegionHeld3
namespace Go.Proofs.Ytepahapocgmhiaa
open Go.RowKit
set_option linter.unusedVariables false
set_option linter.unusedSimpArgs false
set_option maxHeartbeats 4000000
set_option maxRecDepth 20000

theorem stp {W W' : World} {b o : Nat} {x : Value} (h : W.cell? ⟨b, o, none⟩ = some x) (hb : Below W.heap.size W W') : W'.cell? ⟨b, o, none⟩ = some x := (hb.cell (World.block_lt_of_cell? W _ h)).trans h
def TruP (w : World) (e : Ending) (w' : World) : Prop := e = .returned (.bool true) ∧ Below w.heap.size w w'

theorem eqList {d : Nat} (ih : ∀ (x : Val d) (cs cs' : List Value) (w : World), RdV d w cs x → RdV d w cs' x → FineV d 1048576 x → Calls Try.prog 11 #[.agg cs.toArray, .agg cs'.toArray] w (TruP w))
    (its : List (Val d)) (iv uv : Value) (w : World) (hm : its.length ≤ 1048576) (hfine : ∀ x ∈ its, FineV d 1048576 x) (hr : RdS w (RdV d w) iv its) (hs : RdS w (RdV d w) uv its) : Calls Try.prog 30 #[iv, uv] w (TruP w) := by
  obtain ⟨ao, cap, rfl, hc⟩ := hr
  obtain ⟨bo, cap', rfl, hd⟩ := hs
  go_enter Try.func30, Try.ntmps30
  go_wp2_with fail
  go_loopw [5] (fun i wr => ∃ k : Nat, k ≤ its.length ∧ i = .int .i64 k ∧ Below w.heap.size w wr) (fun i _ => its.length - (intOf i).toNat)
  case atStart => exact ⟨0, Nat.zero_le _, rfl, Below.refl _ _⟩
  case round =>
    obtain ⟨k, hk, rfl, hb⟩ := hrel
    have HB : Hid (Below w.heap.size w wr) := hb
    by_cases hlt : k < its.length
    · have hlt' : (k : Int) < (its.length : Int) := by omega
      have hk0 : (0 : Int) ≤ (k : Int) := by omega
      obtain ⟨g, off, cs, ha, hcl, hcell, hrv⟩ := hc k its[k] (by simp [hlt])
      obtain ⟨g', off', cs', ha', hcl', hcell', hrv'⟩ := hd k its[k] (by simp [hlt])
      subst ha
      subst ha'
      have hfk := hfine its[k] (List.getElem_mem hlt)
      match cs, hcl, cs', hcl' with
      | [c0, c1, c2, c3, c4], _, [d0, d1, d2, d3, d4], _ =>
        have e0 := (hb.cell (World.block_lt_of_cell? w _ (hcell 0 (by omega)))).trans (hcell 0 (by omega))
        have e1 := (hb.cell (World.block_lt_of_cell? w _ (hcell 1 (by omega)))).trans (hcell 1 (by omega))
        have e2 := (hb.cell (World.block_lt_of_cell? w _ (hcell 2 (by omega)))).trans (hcell 2 (by omega))
        have e3 := (hb.cell (World.block_lt_of_cell? w _ (hcell 3 (by omega)))).trans (hcell 3 (by omega))
        have e4 := (hb.cell (World.block_lt_of_cell? w _ (hcell 4 (by omega)))).trans (hcell 4 (by omega))
        have h0 := (hb.cell (World.block_lt_of_cell? w _ (hcell' 0 (by omega)))).trans (hcell' 0 (by omega))
        have h1 := (hb.cell (World.block_lt_of_cell? w _ (hcell' 1 (by omega)))).trans (hcell' 1 (by omega))
        have h2 := (hb.cell (World.block_lt_of_cell? w _ (hcell' 2 (by omega)))).trans (hcell' 2 (by omega))
        have h3 := (hb.cell (World.block_lt_of_cell? w _ (hcell' 3 (by omega)))).trans (hcell' 3 (by omega))
        have h4 := (hb.cell (World.block_lt_of_cell? w _ (hcell' 4 (by omega)))).trans (hcell' 4 (by omega))
        simp only [List.getElem?_cons_zero, List.getElem?_cons_succ, Nat.add_zero] at e0 e1 e2 e3 e4 h0 h1 h2 h3 h4
        have hcall9 := fun X (hX : Below wr.heap.size wr X) => ih its[k] [c0, c1, c2, c3, c4] [d0, d1, d2, d3, d4] X ((hrv.below hb).below hX) ((hrv'.below hb).below hX) hfk
        have HS9 : Hid (∀ X, Below wr.heap.size wr X → X.cell? ⟨g, off + k * 5, none⟩ = some (c0) ∧ X.cell? ⟨g, off + k * 5 + 1, none⟩ = some (c1) ∧ X.cell? ⟨g, off + k * 5 + 2, none⟩ = some (c2) ∧ X.cell? ⟨g, off + k * 5 + 3, none⟩ = some (c3) ∧ X.cell? ⟨g, off + k * 5 + 4, none⟩ = some (c4) ∧ X.cell? ⟨g', off' + k * 5, none⟩ = some (d0) ∧ X.cell? ⟨g', off' + k * 5 + 1, none⟩ = some (d1) ∧ X.cell? ⟨g', off' + k * 5 + 2, none⟩ = some (d2) ∧ X.cell? ⟨g', off' + k * 5 + 3, none⟩ = some (d3) ∧ X.cell? ⟨g', off' + k * 5 + 4, none⟩ = some (d4)) := fun X hX => ⟨stp e0 hX, stp e1 hX, stp e2 hX, stp e3 hX, stp e4 hX, stp h0 hX, stp h1 hX, stp h2 hX, stp h3 hX, stp h4 hX⟩
        have hS9 := HS9.out wr (Below.refl _ _)
        go_wp2_with fail
        refine wp_region_held_drew (S := fun X => X.cell? ⟨g, off + k * 5, none⟩ = some (c0) ∧ X.cell? ⟨g, off + k * 5 + 1, none⟩ = some (c1) ∧ X.cell? ⟨g, off + k * 5 + 2, none⟩ = some (c2) ∧ X.cell? ⟨g, off + k * 5 + 3, none⟩ = some (c3) ∧ X.cell? ⟨g, off + k * 5 + 4, none⟩ = some (c4) ∧ X.cell? ⟨g', off' + k * 5, none⟩ = some (d0) ∧ X.cell? ⟨g', off' + k * 5 + 1, none⟩ = some (d1) ∧ X.cell? ⟨g', off' + k * 5 + 2, none⟩ = some (d2) ∧ X.cell? ⟨g', off' + k * 5 + 3, none⟩ = some (d3) ∧ X.cell? ⟨g', off' + k * 5 + 4, none⟩ = some (d4)) (by kernel_rfl) hS9 (fun hHeld => ?_)
        refine wpAnyH_take (i := 0) (oi := ?oia0) (v := .slice (some ⟨g, off, none⟩) its.length cap) ?hia0 (by kernel_rfl) (by kernel_rfl) (by kernel_rfl) ?hqa0 ?hya0 hHeld ?hra0
        case hia0 =>
          simp only [List.getElem?_toArray, List.getElem?_cons_succ, List.getElem?_cons_zero]
          rfl
        case hqa0 => exact fun _ _ _ h => h
        case hya0 => exact Or.inl ⟨by kernel_rfl, fun w hSw => by go_simp⟩
        try simp only [Act.put, List.setIfInBounds_toArray, List.set_cons_zero, List.set_cons_succ]
        refine wpAnyH_take (i := 1) (oi := ?oia1) (v := .int .i64 (k : Int)) ?hia1 (by kernel_rfl) (by kernel_rfl) (by kernel_rfl) ?hqa1 ?hya1 hHeld ?hra1
        case hia1 =>
          simp only [List.getElem?_toArray, List.getElem?_cons_succ, List.getElem?_cons_zero]
          rfl
        case hqa1 => exact fun _ _ _ h => h
        case hya1 => exact Or.inl ⟨by kernel_rfl, fun w hSw => by go_simp⟩
        try simp only [Act.put, List.setIfInBounds_toArray, List.set_cons_zero, List.set_cons_succ]
        refine wpAnyH_take (i := 2) (oi := ?oia2) (v := .pointer (some ⟨g, off + k * 5, none⟩)) ?hia2 (by kernel_rfl) (by kernel_rfl) (by kernel_rfl) ?hqa2 ?hya2 hHeld ?hra2
        case hia2 =>
          simp only [List.getElem?_toArray, List.getElem?_cons_succ, List.getElem?_cons_zero]
          rfl
        case hqa2 => exact fun _ _ _ h => h
        case hya2 => exact Or.inl ⟨by kernel_rfl, fun w hSw => by go_simp⟩
        try simp only [Act.put, List.setIfInBounds_toArray, List.set_cons_zero, List.set_cons_succ]
        refine wpAnyH_take (i := 3) (oi := ?oia3) (v := .agg #[c0, c1, c2, c3, c4]) ?hia3 (by kernel_rfl) (by kernel_rfl) (by kernel_rfl) ?hqa3 ?hya3 hHeld ?hra3
        case hia3 =>
          simp only [List.getElem?_toArray, List.getElem?_cons_succ, List.getElem?_cons_zero]
          rfl
        case hqa3 => exact fun _ _ _ h => h
        case hya3 => exact Or.inl ⟨by kernel_rfl, fun w hSw => by obtain ⟨s0, s1, s2, s3, s4, s5, s6, s7, s8, s9⟩ := hSw; go_simp⟩
        try simp only [Act.put, List.setIfInBounds_toArray, List.set_cons_zero, List.set_cons_succ]
        refine wpAnyH_take (i := 4) (oi := ?oia4) (v := (Value.slice (some ⟨g', off', none⟩) its.length cap')) ?hia4 (by kernel_rfl) (by kernel_rfl) (by kernel_rfl) ?hqa4 ?hya4 hHeld ?hra4
        case hia4 =>
          simp only [List.getElem?_toArray, List.getElem?_cons_succ, List.getElem?_cons_zero]
          rfl
        case hqa4 => exact fun _ _ _ h => h
        case hya4 => exact Or.inl ⟨by kernel_rfl, fun w hSw => by go_simp⟩
        try simp only [Act.put, List.setIfInBounds_toArray, List.set_cons_zero, List.set_cons_succ]
        refine wpAnyH_take (i := 5) (oi := ?oia5) (v := .int .i64 (k : Int)) ?hia5 (by kernel_rfl) (by kernel_rfl) (by kernel_rfl) ?hqa5 ?hya5 hHeld ?hra5
        case hia5 =>
          simp only [List.getElem?_toArray, List.getElem?_cons_succ, List.getElem?_cons_zero]
          rfl
        case hqa5 => exact fun _ _ _ h => h
        case hya5 => exact Or.inl ⟨by kernel_rfl, fun w hSw => by go_simp⟩
        try simp only [Act.put, List.setIfInBounds_toArray, List.set_cons_zero, List.set_cons_succ]
        refine wpAnyH_take (i := 6) (oi := ?oia6) (v := .pointer (some ⟨g', off' + k * 5, none⟩)) ?hia6 (by kernel_rfl) (by kernel_rfl) (by kernel_rfl) ?hqa6 ?hya6 hHeld ?hra6
        case hia6 =>
          simp only [List.getElem?_toArray, List.getElem?_cons_succ, List.getElem?_cons_zero]
          rfl
        case hqa6 => exact fun _ _ _ h => h
        case hya6 => exact Or.inl ⟨by kernel_rfl, fun w hSw => by go_simp⟩
        try simp only [Act.put, List.setIfInBounds_toArray, List.set_cons_zero, List.set_cons_succ]
        refine wpAnyH_take (i := 7) (oi := ?oia7) (v := .agg #[d0, d1, d2, d3, d4]) ?hia7 (by kernel_rfl) (by kernel_rfl) (by kernel_rfl) ?hqa7 ?hya7 hHeld ?hra7
        case hia7 =>
          simp only [List.getElem?_toArray, List.getElem?_cons_succ, List.getElem?_cons_zero]
          rfl
        case hqa7 => exact fun _ _ _ h => h
        case hya7 => exact Or.inl ⟨by kernel_rfl, fun w hSw => by obtain ⟨s0, s1, s2, s3, s4, s5, s6, s7, s8, s9⟩ := hSw; go_simp⟩
        try simp only [Act.put, List.setIfInBounds_toArray, List.set_cons_zero, List.set_cons_succ]
        refine wpAnyH_ready (rs := [8]) (by kernel_rfl) (by simp) ?_
        refine (AllReadyH.cons (o := ?ooa8) ?hoa8 (fun K hK => ?hka8) AllReadyH.nil)
        case hoa8 =>
          simp only [List.getElem?_toArray, List.getElem?_cons_succ, List.getElem?_cons_zero]
          rfl
        case hka8 =>
          go_simp
          go_at_call 11
          refine (hcall9 wr.drew (Below.drew (Below.refl _ _))).mono ?_
          rintro e y1 ⟨rfl, bq⟩
          have Y1 : Hid (Below wr.heap.size wr y1) := Below.trans (Below.drew (Below.refl _ _)) bq
          clear bq 
          try go_wp2_with fail
          refine hK.out _ _ (HS9.out _ Y1.out) (fun hHeld => ?_)
          clear hK K
          try simp only [Act.put, List.setIfInBounds_toArray, List.set_cons_zero, List.set_cons_succ]
          refine wpAnyH_take (i := 9) (oi := ?oia9) (v := .bool false) ?hia9 (by kernel_rfl) (by kernel_rfl) (by kernel_rfl) ?hqa9 ?hya9 hHeld ?hra9
          case hia9 =>
            simp only [List.getElem?_toArray, List.getElem?_cons_succ, List.getElem?_cons_zero]
            rfl
          case hqa9 => exact fun _ _ _ h => h
          case hya9 => exact Or.inl ⟨by kernel_rfl, fun w hSw => by go_simp⟩
          try simp only [Act.put, List.setIfInBounds_toArray, List.set_cons_zero, List.set_cons_succ]
          refine wpAnyH_done (by kernel_rfl) ?_ _
          have B2 : Hid (Below w.heap.size w y1) := HB.out.trans (Y1.out.mono HB.out.size)
          go_wp2
          go_roundw
          case rel => exact ⟨k + 1, by omega, by go_num, B2.out⟩
          case measure => simp [intOf]; omega
    · obtain rfl : k = its.length := by omega
      have hnk : ¬ (its.length : Int) < (its.length : Int) := by omega
      clear hb
      go_wp2
      go_ret
      exact ⟨rfl, HB.out⟩

theorem eqValue : ∀ (d : Nat) (x : Val d) (cs cs' : List Value) (w : World), RdV d w cs x → RdV d w cs' x → FineV d 1048576 x → Calls Try.prog 11 #[.agg cs.toArray, .agg cs'.toArray] w (TruP w)
  | 0, _, _, _, _, h, _, _ => h.elim
  | d + 1, (k, n, t, its, ks), cs, cs', w, h, h', hf => by
    obtain ⟨iv, kv, rfl, hits, hil, hks, hkl, hts, hkx⟩ := h
    obtain ⟨jv, lv, rfl, hjts, _, hls, _, _, _⟩ := h'
    obtain ⟨f1, f2, f3, f4, f5⟩ := hf
    have ihl := fun W c c' => eqList (eqValue d) its iv jv W (by omega) f5 c c'
    have ihk := fun W c c' => eqStringS ks kv lv W hkl c c'
    obtain ⟨W0, hW0⟩ : ∃ W, (w.alloc (.cells #[.int .i64 k, .int .i64 n, .string t, iv, kv] 30)).alloc (.cells #[.int .i64 k, .int .i64 n, .string t, jv, lv] 30) = W := ⟨_, rfl⟩
    obtain ⟨b, hb⟩ : ∃ n, w.heap.size = n := ⟨_, rfl⟩
    have b0 : Below w.heap.size w W0 := by rw [← hW0]; go_grown
    have A0 : W0.heap[b]? = some (.cells #[.int .i64 k, .int .i64 n, .string t, iv, kv] 30 (0, 0)) := by
      rw [← hW0, ← hb, old_block (by simp)]; exact heap_alloc_new w _
    have R0 : W0.heap[b + 1]? = some (.cells #[.int .i64 k, .int .i64 n, .string t, jv, lv] 30 (0, 0)) := by
      rw [← hW0, ← hb]
      have h9 := heap_alloc_new (w.alloc (.cells #[.int .i64 k, .int .i64 n, .string t, iv, kv] 30)) (.cells #[.int .i64 k, .int .i64 n, .string t, jv, lv] 30)
      simpa using h9
    obtain ⟨c0, c1, c2, c3, c4⟩ := five_in A0
    obtain ⟨d0, d1, d2, d3, d4⟩ := five_in R0
    have hcall := ihl W0 (hits.below b0 (fun cs x hx => RdV.below hx b0)) (hjts.below b0 (fun cs x hx => RdV.below hx b0))
    have HA : Hid (W0.heap[b]? = some (.cells #[.int .i64 k, .int .i64 n, .string t, iv, kv] 30 (0, 0))) := A0
    have HR : Hid (W0.heap[b + 1]? = some (.cells #[.int .i64 k, .int .i64 n, .string t, jv, lv] 30 (0, 0))) := R0
    have HB0 : Hid (Below w.heap.size w W0) := b0
    have HK : Hid (Reads W0 kv (ks.map .string) ∧ Reads W0 lv (ks.map .string)) := ⟨reads_below hks b0, reads_below hls b0⟩
    clear hits hjts hks hls b0 A0 R0 ihl
    go_enter Try.func11, Try.ntmps11
    go_wp2_with fail
    go_at_call 30
    clear hW0 hb
    refine hcall.mono ?_
    rintro e w1 ⟨rfl, b1⟩
    have A1 := (b1.block b (Array.getElem?_eq_some_iff.1 HA.out).1).trans HA.out
    have R1 := (b1.block (b + 1) (Array.getElem?_eq_some_iff.1 HR.out).1).trans HR.out
    have hcall2 := ihk w1 (reads_below HK.out.1 b1) (reads_below HK.out.2 b1)
    have HB1 : Hid (Below w.heap.size w w1) := HB0.out.trans (b1.mono HB0.out.size)
    clear c0 c1 c2 c3 c4 d0 d1 d2 d3 d4 hcall b1 HA HR HB0 HK ihk
    obtain ⟨c0, c1, c2, c3, c4⟩ := five_in A1
    obtain ⟨d0, d1, d2, d3, d4⟩ := five_in R1
    clear A1 R1
    go_wp2_with fail
    go_at_call 31
    refine hcall2.mono ?_
    rintro e w2 ⟨rfl, b2⟩
    have HB2 : Hid (Below w.heap.size w w2) := HB1.out.trans (b2.mono HB1.out.size)
    clear hcall2 b2
    go_wp2
    go_ret
    exact ⟨rfl, HB2.out⟩

end Go.Proofs.Ytepahapocgmhiaa
