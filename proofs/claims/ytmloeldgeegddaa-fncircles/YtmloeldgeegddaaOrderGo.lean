/-
  callsNoOther, the closure of impl.Order, slices.Delete.
-/
import Derived.Test.YtmloeldgeegddaaG25RegionInv
namespace Go.Proofs.Ytmloeldgeegddaa
open Go.RowKit
set_option linter.unusedVariables false
set_option maxHeartbeats 4000000
set_option maxRecDepth 20000

/-- What the region has, operation by operation. -/
def OFctG (v gs : Value) (g off : Nat) (x : Nat) (A : List Int) (W2 : World) (l : Nat → Bool) (x7 x8 x9 x10 x11 x12 : Value) (wr : World) : Prop :=
  (l 0 = true → x8 = .agg #[v]) ∧ (l 1 = true → x9 = gs) ∧ (l 2 = true → x10 = .pointer (some ⟨g, off, none⟩)) ∧ (l 3 = true → x11 = .int .i64 (x : Int)) ∧
  (l 4 = true → wr.ownsRow W2.heap.size 2 1 x12 A.length (ints A)) ∧
  (l 5 = true → ∃ R, x7 = .pointer (some ⟨R, 0, none⟩) ∧ W2.heap.size ≤ R ∧ (l 6 = false → wr.heap[R]? = some (.cells #[.slice none 0 0] 30 (0, 0))) ∧ (l 6 = true → wr.heap[R]? = some (.cells #[x12] 30 (0, 0)))) ∧ (l 6 = true → l 4 = true ∧ l 5 = true)

theorem OFctG.grown {v gs : Value} {g off x : Nat} {A : List Int} {W2 : World} {l : Nat → Bool} {x7 x8 x9 x10 x11 x12 : Value} {wr wr' : World} (h : OFctG v gs g off x A W2 l x7 x8 x9 x10 x11 x12 wr) (hb : Below wr.heap.size wr wr') : OFctG v gs g off x A W2 l x7 x8 x9 x10 x11 x12 wr' := by
  obtain ⟨h0, h1, h2, h3, h4, h5, h6⟩ := h
  refine ⟨h0, h1, h2, h3, fun h => own_kept (h4 h) hb, fun h => ?_, h6⟩
  obtain ⟨R, e, hR, k1, k2⟩ := h5 h
  exact ⟨R, e, hR, fun q => (hb.block R (Array.getElem?_eq_some_iff.1 (k1 q)).1).trans (k1 q), fun q => (hb.block R (Array.getElem?_eq_some_iff.1 (k2 q)).1).trans (k2 q)⟩

/-- The invariant of that region. -/
def OInvG (v gs lv : Value) (b g off : Nat) (x : Nat) (A : List Int) (W2 : World) (l : Nat → Bool) (a : Act) (wr : World) : Prop :=
  ∃ x7 x8 x9 x10 x11 x12 : Value,
    a = { tmps := #[.agg #[v], gs, lv, .pointer (some ⟨b, 0, none⟩), .pointer (some ⟨b + 1, 0, none⟩), undef, .bool false, x7, x8, x9, x10, x11, x12, undef, undef, undef, undef], defers := [] } ∧
    Below W2.heap.size W2 wr ∧ OFctG v gs g off x A W2 l x7 x8 x9 x10 x11 x12 wr

theorem callsNoOther (ps : List (List Stm)) (r : Nat → Nat → Bool) (c o : List (List Nat)) (hok : programOk ps = true) (hG : Groups ps r c o) (grp : List Nat) (L : List LV) (gv lv v : Value) (w : World) (hl : ps.length ≤ maxLen) (hp : ∀ p ∈ ps, p.length ≤ maxLen) (hv : ReadsP w v ps)
    (hL : L.length ≤ 4) (hg0 : grp ≠ []) (hgl : hd grp < ps.length) (hgr : Reads w gv (nats grp)) (hlr : ReadsL w lv L) :
    Calls Try.prog 86 #[.agg #[v], gv, lv] w fun e w' => e = .returned (.bool (noOther r (L.map Prod.snd) grp)) ∧ Below w.heap.size w w' := by
  obtain ⟨A, hA⟩ := isReach_some (graph_of hok) hgl
  have hAl := isReach_len (graph_of hok) hgl hA
  have hRA : ReachA ps ((hd grp : Nat) : Int) A := by
    have hb : hasB ps ((hd grp : Nat) : Int) = true := by unfold hasB wiB; rw [hok]; simp; omega
    exact ⟨fun _ => by simpa using hA, fun h => by rw [hb] at h; cases h⟩
  have hre : ∀ W, Below w.heap.size w W → _ := fun W hW => implReach ps ((hd grp : Nat) : Int) A hRA v W hl hp (readsP_below hv hW)
  have hh : ∀ k : Nat, hasI A (k : Int) = r (hd grp) k := fun k => has_reach hG hgl hA
  obtain ⟨g, off, n, cap, hgv, hn, c0⟩ := reads_hd hg0 hgr
  have hni : (0 : Int) < (n : Int) := by omega
  have zg := World.block_lt_of_cell? w _ c0
  -- what follows the first region
  have HK : Hid (∀ W R u, Below w.heap.size w W → w.heap.size ≤ R → W.heap[w.heap.size + 1]? = some (.cells #[gv] 30 (0, 0)) → W.heap[R]? = some (.cells #[u] 30 (0, 0)) → Reads W u (ints A) →
      Calls Try.prog 114 #[lv, .func (.func 115) #[] #[.pointer (some ⟨w.heap.size + 1, 0, none⟩), .pointer (some ⟨R, 0, none⟩)]] W fun e w' => e = .returned (.bool (!noOther r (L.map Prod.snd) grp)) ∧ Below W.heap.size W w') := by
    intro W R u hW hR hG1 hR1 hu
    have hco := containsOther L (fun x => !Nat.beq (hd x) (hd grp) && r (hd grp) (hd x)) lv (.pointer (some ⟨w.heap.size + 1, 0, none⟩)) (.pointer (some ⟨R, 0, none⟩)) W hL (readsL_below hlr hW) (fun x hx W' hW' => by
      obtain ⟨ao, cp, e, hc⟩ := readsL_below hlr hW
      obtain ⟨j, hj⟩ := List.getElem?_of_mem hx
      obtain ⟨_, _, _, _, hr1, hr0⟩ := hc j x hj
      exact noOther1 grp x.2 A (r (hd grp) (hd x.2)) hAl gv u x.1 W' (w.heap.size + 1) R hg0 hr0 ((hW'.block _ (Array.getElem?_eq_some_iff.1 hG1).1).trans hG1) ((hW'.block _ (Array.getElem?_eq_some_iff.1 hR1).1).trans hR1) (reads_below (reads_below hgr hW) hW') (reads_below hu hW') (reads_below hr1 hW') (hh _))
    unfold noOther
    rw [Bool.not_not]
    exact hco
  have z1 : (w.alloc (.cells #[v] 26)).heap.size = w.heap.size + 1 := by simp
  have z2 : ((w.alloc (.cells #[v] 26)).alloc (.cells #[gv] 30)).heap.size = w.heap.size + 2 := by simp
  have BW : Below w.heap.size w ((w.alloc (.cells #[v] 26)).alloc (.cells #[gv] 30)) := by go_grown
  have X0 : ((w.alloc (.cells #[v] 26)).alloc (.cells #[gv] 30)).heap[w.heap.size]? = some (.cells #[v] 26 (0, 0)) := (old_block (by omega)).trans (heap_alloc_new w _)
  have X1 : ((w.alloc (.cells #[v] 26)).alloc (.cells #[gv] 30)).heap[w.heap.size + 1]? = some (.cells #[gv] 30 (0, 0)) := by
    have := heap_alloc_new (w.alloc (.cells #[v] 26)) (.cells #[gv] 30)
    rw [z1] at this
    exact this
  have c0' := (BW.cell zg).trans c0
  obtain ⟨W2, hW2⟩ : ∃ W2, (w.alloc (.cells #[v] 26)).alloc (.cells #[gv] 30) = W2 := ⟨_, rfl⟩
  rw [hW2] at BW X0 X1 c0' z2
  have HX1 : Hid _ := X1
  have HGV : Hid _ := hgv
  rw [hgv] at X1
  obtain ⟨cb0, fb0⟩ := one_cell X0
  obtain ⟨cb1, fb1⟩ := one_cell X1
  have HW2 : Hid _ := hW2
  have zx0 : w.heap.size < W2.heap.size := by omega
  have zx1 : w.heap.size + 1 < W2.heap.size := by omega
  have zgw : g < W2.heap.size := by simp at zg; omega
  obtain ⟨la, lc, hlv, _⟩ := id hlr
  have HLV : Hid _ := hlv
  rw [hgv, hlv]
  rw [hgv] at HW2
  clear hW2 hgr hlr hG hA hh hRA hgv hlv c0 X0 X1
  go_enter Try.func86, Try.ntmps86
  go_wp2_with fail
  rw [HW2.out]
  have hgl2 : BW.size = BW.size := rfl
  have HRE : Hid _ := hre
  have HBW : Hid (Below w.heap.size w W2) := BW
  have zbw := BW.size
  have HC : Hid (W2.cell? ⟨w.heap.size, 0, none⟩ = some v ∧ W2.cell? ⟨w.heap.size + 1, 0, none⟩ = some (.slice (some ⟨g, off, none⟩) n cap) ∧ W2.cell? ⟨g, off, none⟩ = some (.int .i64 (hd grp : Nat))) := ⟨cb0, cb1, c0'⟩
  clear hgl2 BW hre cb0 cb1 c0' fb0 fb1 z1 z2
  obtain ⟨x, hx⟩ : ∃ x, hd grp = x := ⟨_, rfl⟩
  rw [hx] at HC HRE
  clear hx
  refine wp_region_inv (by kernel_rfl) (by kernel_rfl) (OInvG v (.slice (some ⟨g, off, none⟩) n cap) (.slice la L.length lc) w.heap.size g off x A W2) ?_ ?_ ?_
  · exact ⟨undef, undef, undef, undef, undef, undef, rfl, (Below.refl _ _).drew, by simp, by simp, by simp, by simp, by simp, by simp, by simp⟩
  · intro l i o a wr ho hI hli haf
    obtain ⟨x7, x8, x9, x10, x11, x12, rfl, hbr, pf⟩ := hI
    have hi : i < 7 := (Array.getElem?_eq_some_iff.1 ho).1
    have zbr := hbr.size
    have q0 := (hbr.cell (p := ⟨w.heap.size, 0, none⟩) zx0).trans HC.out.1
    have q1 := (hbr.cell (p := ⟨w.heap.size + 1, 0, none⟩) zx1).trans HC.out.2.1
    have q2 := (hbr.cell (p := ⟨g, off, none⟩) zgw).trans HC.out.2.2
    have hcases : i = 0 ∨ i = 1 ∨ i = 2 ∨ i = 3 ∨ i = 4 ∨ i = 5 ∨ i = 6 := by omega
    have HPF : Hid _ := pf
    rcases hcases with rfl | rfl | rfl | rfl | rfl | rfl | rfl
    · simp only [List.getElem?_toArray, List.getElem?_cons_zero, Option.some.injEq] at ho
      subst ho
      clear pf haf
      go_wp2_with fail
      obtain ⟨p0, p1, p2, p3, p4, p5, p6⟩ := HPF.out
      exact ⟨_, _, _, _, _, _, rfl, hbr, fun _ => rfl, p1, p2, p3, p4, p5, p6⟩
    · simp only [List.getElem?_toArray, List.getElem?_cons_zero, List.getElem?_cons_succ, Option.some.injEq] at ho
      subst ho
      clear pf haf
      go_wp2_with fail
      obtain ⟨p0, p1, p2, p3, p4, p5, p6⟩ := HPF.out
      exact ⟨_, _, _, _, _, _, rfl, hbr, p0, fun _ => rfl, p2, p3, p4, p5, p6⟩
    · simp only [List.getElem?_toArray, List.getElem?_cons_zero, List.getElem?_cons_succ, Option.some.injEq] at ho
      subst ho
      simp [Region.binds] at haf
      obtain rfl := pf.2.1 haf
      clear pf haf
      go_wp2_with fail
      obtain ⟨p0, p1, p2, p3, p4, p5, p6⟩ := HPF.out
      exact ⟨_, _, _, _, _, _, rfl, hbr, p0, fun _ => rfl, fun _ => rfl, p3, p4, p5, p6⟩
    · simp only [List.getElem?_toArray, List.getElem?_cons_zero, List.getElem?_cons_succ, Option.some.injEq] at ho
      subst ho
      simp [Region.binds] at haf
      obtain rfl := pf.2.2.1 haf
      clear pf haf
      go_wp2_with fail
      obtain ⟨p0, p1, p2, p3, p4, p5, p6⟩ := HPF.out
      exact ⟨_, _, _, _, _, _, rfl, hbr, p0, p1, fun _ => rfl, fun _ => rfl, p4, p5, p6⟩
    · simp only [List.getElem?_toArray, List.getElem?_cons_zero, List.getElem?_cons_succ, Option.some.injEq] at ho
      subst ho
      simp [Region.binds] at haf
      obtain rfl := pf.1 haf.1
      obtain rfl := pf.2.2.2.1 haf.2
      have hcal := HRE.out wr (HBW.out.trans (hbr.mono zbw))
      clear pf haf
      go_wp2_with fail
      go_at_call 37
      refine hcal.mono ?_
      rintro e w4 ⟨u4, rfl, o4, b4⟩
      go_wp2_with fail
      obtain ⟨p0, p1, p2, p3, p4, p5, p6⟩ := HPF.out
      refine ⟨_, _, _, _, _, _, rfl, hbr.trans (b4.mono zbr), fun _ => rfl, p1, p2, fun _ => rfl, fun _ => own_mono o4 zbr, fun h => ?_, fun h => ?_⟩
      · obtain ⟨R, e, hR, k1, k2⟩ := p5 (by simpa using h)
        refine ⟨R, e, hR, fun h6 => ?_, fun h6 => ?_⟩
        · have h6 := k1 (by simpa using h6)
          exact (b4.block R (Array.getElem?_eq_some_iff.1 h6).1).trans h6
        · have := (p6 (by simpa using h6)).1
          rw [hli] at this
          cases this
      · have := (p6 (by simpa using h)).1
        rw [hli] at this
        cases this
    · simp only [List.getElem?_toArray, List.getElem?_cons_zero, List.getElem?_cons_succ, Option.some.injEq] at ho
      subst ho
      clear pf haf
      go_wp2_with fail
      obtain ⟨p0, p1, p2, p3, p4, p5, p6⟩ := HPF.out
      have BA : Below wr.heap.size wr (wr.alloc (.cells #[.slice none 0 0] 30)) := by go_grown
      refine ⟨_, _, _, _, _, _, rfl, hbr.trans (BA.mono zbr), p0, p1, p2, p3, fun h => own_kept (p4 (by simpa using h)) BA, fun h => ⟨wr.heap.size, rfl, zbr, fun _ => heap_alloc_new wr _, fun h6 => ?_⟩, fun h => ?_⟩
      · have := (p6 (by simpa using h6)).2
        rw [hli] at this
        cases this
      · have := (p6 (by simpa using h)).2
        rw [hli] at this
        cases this
    · simp only [List.getElem?_toArray, List.getElem?_cons_zero, List.getElem?_cons_succ, Option.some.injEq] at ho
      subst ho
      simp [Region.binds] at haf
      have h5 : l 5 = true := by first | exact haf.1 | exact haf.2.1 | exact haf.2
      have h4 : l 4 = true := by first | exact haf.2 | exact haf.2.2 | exact haf.2.1 | exact haf.1
      obtain ⟨R, rfl, hR, k1, _⟩ := pf.2.2.2.2.2.1 h5
      have o12 := pf.2.2.2.2.1 h4
      have kR := k1 hli
      obtain ⟨cR, fR⟩ := one_cell kR
      obtain ⟨ua, uc, hu, _⟩ := reads_own o12
      rw [ints_length] at hu
      subst hu
      clear pf haf k1
      go_wp2_with fail
      obtain ⟨p0, p1, p2, p3, p4, p5, p6⟩ := HPF.out
      have hgs := grown_setCell1 wr R 0 (.slice ua A.length uc)
      have hne : ∀ k, (Value.slice ua A.length uc).ownBlock = some k → k ≠ R := fun k hk e => by
        subst e
        rcases o12.2 with ⟨e1, _⟩ | ⟨g', cap', cur, e1, _, hg', _⟩
        · rw [e1] at hk; cases hk
        · rw [e1] at hk
          have e2 : g' = k := by simpa [Value.ownBlock] using hk
          subst e2
          have := kR.symm.trans hg'
          simp only [Option.some.injEq, Obj.cells.injEq] at this
          exact absurd this.2.1 (by decide)
      refine ⟨_, _, _, _, _, _, rfl, hbr.grown hgs zbr (fun k e => by cases e; exact hR), p0, p1, p2, p3, fun _ => own_same o12 (fun k hk => hgs.block k (o12.lt k hk).2 (fun e => hne k hk (by simpa using e))), fun _ => ⟨R, rfl, hR, fun h6 => by simp at h6, fun _ => one_set kR _⟩, fun _ => ⟨by simpa using h4, by simpa using h5⟩⟩
  · intro l a wr hI hall
    obtain ⟨x7, x8, x9, x10, x11, x12, rfl, hbr, p0, p1, p2, p3, p4, p5, p6⟩ := hI
    obtain rfl := p0 (hall 0 (by decide))
    obtain rfl := p1 (hall 1 (by decide))
    obtain rfl := p2 (hall 2 (by decide))
    obtain rfl := p3 (hall 3 (by decide))
    have o12 := p4 (hall 4 (by decide))
    obtain ⟨R, rfl, hR, _, k2⟩ := p5 (hall 5 (by decide))
    have kR := k2 (hall 6 (by decide))
    have LW : Below w.heap.size w wr := HBW.out.trans (hbr.mono zbw)
    have hcal := HK.out wr R x12 LW (by omega) ((hbr.block _ zx1).trans HX1.out) kR (reads_own o12)
    rw [HLV.out] at hcal
    obtain ⟨B, hB⟩ : ∃ B, noOther r (L.map Prod.snd) grp = B := ⟨_, rfl⟩
    rw [hB] at hcal
    have HB : Hid _ := hB
    clear p0 p1 p2 p3 p4 p5 p6 o12 kR k2 hB
    go_wp2_with fail
    go_at_call 114
    refine hcal.mono ?_
    rintro e w6 ⟨rfl, b6⟩
    go_wp2
    go_ret
    exact ⟨by rw [HB.out]; simp, LW.trans (b6.mono LW.size)⟩

end Go.Proofs.Ytmloeldgeegddaa
