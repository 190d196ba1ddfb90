/-
  spec.DrawBody: some Proc in rows of its own, and two numbers.
-/
import Derived.Test.YtjlfmjoallnojadDrawProc4
import Derived.Test.YtjlfmjoallnojadSpecLoops
import Derived.Test.YtjlfmjoallnojadLoopsMath
import Derived.BigRegion
namespace Go.Proofs.Ytjlfmjoallnojad
open Go.RowKit
set_option linter.unusedVariables false
set_option maxHeartbeats 2000000
attribute [local go_sem ↓] Go.wp_at_zero Go.wp_at_succ

/-- The world in the last region: the cursor turns, and the answer's block. -/
structure DJ (R X g n : Nat) (bs : List Int) (u : Value) (ss : List Stm) (base : Nat) (w0 : World) (b : Bool) (wr : World) : Prop where
  cur : b = false → Cur wr g bs
  px : wr.heap[X]? = some (.cells #[u] 26 (0, 0))
  pr : ∃ c, wr.heap[R]? = some (.cells #[c] 26 (0, 0)) ∧ (b = true → c = u)
  own : wr.ownsRow base 62 3 u ss.length (cells3 ss)
  low : Below w0.heap.size w0 wr
  hR : R = w0.heap.size
  hg : g < base
  hR2 : R < base

theorem DJ.x0 {R X g n : Nat} {bs : List Int} {u : Value} {ss : List Stm} {base : Nat} {w0 : World} {b : Bool} {wr : World} (h : DJ R X g n bs u ss base w0 b wr) : wr.cell? ⟨X, 0, none⟩ = some u := (oneCell h.px).1
theorem DJ.r0 {R X g n : Nat} {bs : List Int} {u : Value} {ss : List Stm} {base : Nat} {w0 : World} {b : Bool} {wr : World} (h : DJ R X g n bs u ss base w0 b wr) : (wr.cell? ⟨R, 0, none⟩).isSome = true := by
  obtain ⟨c, hc, _⟩ := h.pr
  rw [(oneCell hc).1]; rfl
theorem DJ.r1 {R X g n : Nat} {bs : List Int} {u : Value} {ss : List Stm} {base : Nat} {w0 : World} {b : Bool} {wr : World} (h : DJ R X g n bs u ss base w0 b wr) : wr.frozen? ⟨R, 0, none⟩ = false := by
  obtain ⟨c, hc, _⟩ := h.pr
  exact (oneCell hc).2

theorem DJ.step {R X g n : Nat} {bs : List Int} {u : Value} {ss : List Stm} {base : Nat} {w0 : World} {b : Bool} {wr w' : World} (h : DJ R X g n bs u ss base w0 b wr) (hRg : R < g) (hgX : g < X) (hc : Cur w' g bs) (hg : wr.grownBy w' (some g)) : DJ R X g n bs u ss base w0 b w' where
  cur := fun _ => hc
  px := blockGrown h.px hg hgX
  pr := by
    obtain ⟨c, h1, h2⟩ := h.pr
    exact ⟨c, (hg.block R (Array.getElem?_eq_some_iff.1 h1).1 (by simp; omega)).trans h1, h2⟩
  own := own_grown h.own hg (fun k hk e => by have := (h.own.lt k hk).1; have := h.hg; simp at e; omega)
  low := h.low.grown hg h.low.size (fun k e => by have := h.hR; simp at e; omega)
  hR := h.hR
  hg := h.hg
  hR2 := h.hR2

theorem DJ.store {R X g n : Nat} {bs : List Int} {u : Value} {ss : List Stm} {base : Nat} {w0 : World} {b : Bool} {wr : World} (h : DJ R X g n bs u ss base w0 b wr) (hRg : R < g) (hgX : g < X) : DJ R X g n bs u ss base w0 true (wr.setCell ⟨R, 0, none⟩ u) where
  cur := fun e => absurd e (by simp)
  px := (Below.heap_setCell wr ⟨R, 0, none⟩ u X (by simp; omega)).trans h.px
  pr := by
    obtain ⟨c, h1, h2⟩ := h.pr
    exact ⟨u, one_set' h1 u, fun _ => rfl⟩
  own := ownsRow_setCell_other h.own (a := ⟨R, 0, none⟩) (fun e => by have h1 : base ≤ R := (h.own.lt _ e).1; have := h.hR2; omega) _
  low := h.low.setCell (by have := h.hR; show w0.heap.size ≤ R; omega) _
  hR := h.hR
  hg := h.hg
  hR2 := h.hR2

/-- What the region has, operation by operation. -/
def DBFct (R X g : Nat) (u : Value) (l : Nat → Bool) (x41 x42 x43 x44 x45 x3 x4 : Value) : Prop :=
  (l 0 = true → x41 = .agg #[u]) ∧ (l 1 = true → x42 = .pointer (some ⟨g, 0, none⟩)) ∧ (l 2 = true → ∃ z : Int, x43 = .int .i64 z) ∧ (l 3 = true → x44 = .pointer (some ⟨g, 0, none⟩)) ∧ (l 4 = true → ∃ z : Int, x45 = .int .i64 z) ∧ (l 6 = true → ∃ z : Int, x3 = .int .i64 z) ∧ (l 7 = true → ∃ z : Int, x4 = .int .i64 z)

/-- The invariant of that region. -/
def DBInv (R X g : Nat) (u : Value) (J : Bool → World → Prop) (l : Nat → Bool) (a : Act) (wr : World) : Prop :=
  ∃ y0 y1 y7 y8 y9 y10 y11 y12 y13 y14 y15 y16 y17 y18 y19 y20 y21 y22 y23 y24 y25 y26 y27 y28 y29 y30 y31 y32 y33 y34 y35 y36 y37 y38 y39 y40 x41 x42 x43 x44 x45 x3 x4 : Value,
    a = { tmps := List.toArray (y0 :: y1 :: .pointer (some ⟨R, 0, none⟩) :: x3 :: x4 :: .pointer (some ⟨g, 0, none⟩) :: .pointer (some ⟨X, 0, none⟩) :: y7 :: y8 :: y9 :: y10 :: y11 :: y12 :: y13 :: y14 :: y15 :: y16 :: y17 :: y18 :: y19 :: y20 :: y21 :: y22 :: y23 :: y24 :: y25 :: y26 :: y27 :: y28 :: y29 :: y30 :: y31 :: y32 :: y33 :: y34 :: y35 :: y36 :: y37 :: y38 :: y39 :: y40 :: x41 :: x42 :: x43 :: x44 :: x45 :: []), defers := [] } ∧
    (J (l 5) wr ∧ (l 5 = true → l 4 = true) ∧ (l 4 = true → l 2 = true)) ∧ DBFct R X g u l x41 x42 x43 x44 x45 x3 x4

theorem drawBody (bs : List Int) (v : Value) (w : World) (hl : bs.length ≤ 1048576) (hv : Reads w v (bs.map (Value.int .u8))) :
    Calls Try.prog 5 #[v] w fun e w' => ∃ (u : Value) (ss : List Stm) (i j : Int), e = .returned (.tuple #[.agg #[u], .int .i64 i, .int .i64 j]) ∧ 1 ≤ ss.length ∧ ss.length ≤ 7 ∧ w'.ownsRow w.heap.size 62 3 u ss.length (cells3 ss) ∧ Below w.heap.size w w' := by
  have hb0 : Below w.heap.size w (w.alloc (.cells #[.slice none 0 0] 26)) := by go_grown
  go_enter Try.func5, Try.ntmps5
  go_wp2_with fail
  go_at_call 17
  refine (l1New bs v _ hl (reads_below hv hb0)).mono ?_
  rintro e w1 ⟨g, rfl, hg, hc1, b1⟩
  have lt1 : w.heap.size < g := by have := hg; simp at this; omega
  have R1 : w1.heap[w.heap.size]? = some (.cells #[.slice none 0 0] 26 (0, 0)) := (b1.block _ (by simp)).trans (heap_alloc_new w _)
  have L1 : Below w.heap.size w w1 := hb0.trans (b1.mono hb0.size)
  have g1 := curLt hc1
  go_wp2_with fail
  go_at_call 18
  refine (l4DrawProc g bs w1 hl hc1).mono ?_
  rintro e w2 ⟨u, ss, rfl, h1, h7, own2, hc2, hg2⟩
  have s2 := hg2.size
  have R2 := (hg2.block w.heap.size (by omega) (by simp; omega)).trans R1
  have L2 : Below w.heap.size w w2 := L1.grown hg2 L1.size (fun k e => by simp at e; omega)
  have X3 := heap_alloc_new w2 (.cells #[u] 26)
  have hc3 := curAlloc hc2 (.cells #[u] 26)
  have R3 : (w2.alloc (.cells #[u] 26)).heap[w.heap.size]? = _ := (old_block (by omega)).trans R2
  have L3 : Below w.heap.size w (w2.alloc (.cells #[u] 26)) := L2.alloc L2.size _
  have own3 := own2.alloc (.cells #[u] 26)
  have z3 : (w2.alloc (.cells #[u] 26)).heap.size = w2.heap.size + 1 := by simp
  have W3 : Hid _ := R3
  obtain ⟨ua, un, uc, hu⟩ := ownSlice own2
  have hun : un = ss.length := by
    have := reads3_own own2
    rw [hu] at this
    obtain ⟨_, _, e, _⟩ := this
    simp at e
    exact e.2.1
  subst hu
  subst hun
  obtain ⟨c3, f3⟩ := oneCell X3
  obtain ⟨r3, fr3⟩ := oneCell R3
  have hss : ss.length ≤ maxLen := by unfold maxLen; omega
  have hsl := specLoops ss (.slice ua ss.length uc) _ hss (reads3_own own3)
  have h24 := loopsAns_length ss
  have heach := fun xs (h : xs ∈ loopsAns ss) => loops_in h
  generalize loopsAns ss = LL at *
  go_wp2_with fail
  go_at_call 11
  refine hsl.mono ?_
  rintro e w4 ⟨lv, lus, rfl, oL, b4⟩
  clear hsl
  have s4 := b4.size
  rw [z3] at s4
  have X4 := (b4.block w2.heap.size (by rw [z3]; omega)).trans X3
  have R4 := (b4.block w.heap.size (by rw [z3]; omega)).trans W3.out
  have hc4 := cur_below hc3 b4
  have own4 := own_kept own3 b4
  have L4 : Below w.heap.size w w4 := L3.trans (b4.mono L3.size)
  clear X3 R3 W3 hc3 own3 L3 c3 f3 r3 fr3 b4 hc1 hc2 R1 R2 L1 L2 hg2 b1
  obtain ⟨c4, f4⟩ := oneCell X4
  obtain ⟨r4, fr4⟩ := oneCell R4
  cases LL with
  | nil =>
    obtain ⟨la, lc, rfl⟩ : ∃ la lc, lv = .slice la 0 lc := by
      rcases oL.1.2 with ⟨h, _⟩ | ⟨b, c, d, h, _⟩
      · exact ⟨_, _, h⟩
      · exact ⟨_, _, h⟩
    go_wp2_with fail
    have J0 : DJ w.heap.size w2.heap.size g 0 bs (.slice ua ss.length uc) ss w1.heap.size w false w4.drew := ⟨fun _ => hc4, X4, ⟨_, R4, fun e => absurd e (by simp)⟩, own4, L4.drew, rfl, g1, by omega⟩
    have HJ0 : Hid _ := J0
    have hRg := lt1
    have hgX : g < w2.heap.size := by omega
    clear J0 c4 f4 r4 fr4 X4 R4 hc4 own4 L4
    refine wp_region_inv (by kernel_rfl) (by kernel_rfl) (DBInv w.heap.size w2.heap.size g (.slice ua ss.length uc) (DJ w.heap.size w2.heap.size g 0 bs (.slice ua ss.length uc) ss w1.heap.size w)) ?h0 ?hs ?he
    case h0 => exact ⟨_, _, _, _, _, _, _, _, _, _, _, _, _, _, _, _, _, _, _, _, _, _, _, _, _, _, _, _, _, _, _, _, _, _, _, _, _, _, _, _, _, _, _, rfl, ⟨HJ0.out, by simp, by simp⟩, by simp, by simp, by simp, by simp, by simp, by simp, by simp⟩
    case hs =>
      intro l i o a wr ho hI hli haf
      obtain ⟨y0, y1, y7, y8, y9, y10, y11, y12, y13, y14, y15, y16, y17, y18, y19, y20, y21, y22, y23, y24, y25, y26, y27, y28, y29, y30, y31, y32, y33, y34, y35, y36, y37, y38, y39, y40, x41, x42, x43, x44, x45, x3, x4, rfl, ⟨hJ, hL4, hL2⟩, pf⟩ := hI
      have hi : i < 8 := (Array.getElem?_eq_some_iff.1 ho).1
      have hcases : i = 0 ∨ i = 1 ∨ i = 2 ∨ i = 3 ∨ i = 4 ∨ i = 5 ∨ i = 6 ∨ i = 7 := by omega
      rcases hcases with rfl | rfl | rfl | rfl | rfl | rfl | rfl | rfl
      · simp only [List.getElem?_toArray, List.getElem?_cons_zero, Option.some.injEq] at ho
        subst ho
        have HPF : Hid _ := pf
        clear pf
        have k0 := hJ.x0
        go_wp2_with (fail)
        obtain ⟨p0, p1, p2, p3, p4, p5, p6⟩ := HPF.out
        exact ⟨_, _, _, _, _, _, _, _, _, _, _, _, _, _, _, _, _, _, _, _, _, _, _, _, _, _, _, _, _, _, _, _, _, _, _, _, _, _, _, _, _, _, _, rfl, ⟨hJ, hL4, hL2⟩, fun _ => rfl, p1, p2, p3, p4, p5, p6⟩
      · simp only [List.getElem?_toArray, List.getElem?_cons_zero, List.getElem?_cons_succ, Option.some.injEq] at ho
        subst ho
        have HPF : Hid _ := pf
        clear pf
        go_wp2_with (fail)
        obtain ⟨p0, p1, p2, p3, p4, p5, p6⟩ := HPF.out
        exact ⟨_, _, _, _, _, _, _, _, _, _, _, _, _, _, _, _, _, _, _, _, _, _, _, _, _, _, _, _, _, _, _, _, _, _, _, _, _, _, _, _, _, _, _, rfl, ⟨hJ, hL4, hL2⟩, p0, fun _ => rfl, p2, p3, p4, p5, p6⟩
      · simp only [List.getElem?_toArray, List.getElem?_cons_zero, List.getElem?_cons_succ, Option.some.injEq] at ho
        subst ho
        simp [Region.binds] at haf
        obtain rfl : x42 = _ := pf.2.1 (haf)
        have HPF : Hid _ := pf
        clear pf
        have hcu := hJ.cur (by cases h5 : l 5; exact rfl; exact absurd (hL2 (hL4 h5)) (by rw [hli]; simp))
        go_wp2_with (go_at_call 20; refine (l1Below g bs 7 (by omega) _ hl hcu).mono ?_; rintro e w9 ⟨z, rfl, _, _, _, hc9, hg9⟩)
        obtain ⟨p0, p1, p2, p3, p4, p5, p6⟩ := HPF.out
        exact ⟨_, _, _, _, _, _, _, _, _, _, _, _, _, _, _, _, _, _, _, _, _, _, _, _, _, _, _, _, _, _, _, _, _, _, _, _, _, _, _, _, _, _, _, rfl, ⟨hJ.step hRg hgX hc9 hg9, hL4, fun _ => rfl⟩, p0, fun _ => rfl, fun _ => ⟨_, rfl⟩, p3, p4, p5, p6⟩
      · simp only [List.getElem?_toArray, List.getElem?_cons_zero, List.getElem?_cons_succ, Option.some.injEq] at ho
        subst ho
        have HPF : Hid _ := pf
        clear pf
        go_wp2_with (fail)
        obtain ⟨p0, p1, p2, p3, p4, p5, p6⟩ := HPF.out
        exact ⟨_, _, _, _, _, _, _, _, _, _, _, _, _, _, _, _, _, _, _, _, _, _, _, _, _, _, _, _, _, _, _, _, _, _, _, _, _, _, _, _, _, _, _, rfl, ⟨hJ, hL4, hL2⟩, p0, p1, p2, fun _ => rfl, p4, p5, p6⟩
      · simp only [List.getElem?_toArray, List.getElem?_cons_zero, List.getElem?_cons_succ, Option.some.injEq] at ho
        subst ho
        simp [Region.binds] at haf
        obtain rfl : x44 = _ := pf.2.2.2.1 (haf.1)
        have HPF : Hid _ := pf
        clear pf
        have hcu := hJ.cur (by cases h5 : l 5; exact rfl; exact absurd (hL4 h5) (by rw [hli]; simp))
        go_wp2_with (go_at_call 20; refine (l1Below g bs 7 (by omega) _ hl hcu).mono ?_; rintro e w9 ⟨z, rfl, _, _, _, hc9, hg9⟩)
        obtain ⟨p0, p1, p2, p3, p4, p5, p6⟩ := HPF.out
        exact ⟨_, _, _, _, _, _, _, _, _, _, _, _, _, _, _, _, _, _, _, _, _, _, _, _, _, _, _, _, _, _, _, _, _, _, _, _, _, _, _, _, _, _, _, rfl, ⟨hJ.step hRg hgX hc9 hg9, fun _ => rfl, fun _ => haf.2⟩, p0, p1, p2, fun _ => rfl, fun _ => ⟨_, rfl⟩, p5, p6⟩
      · simp only [List.getElem?_toArray, List.getElem?_cons_zero, List.getElem?_cons_succ, Option.some.injEq] at ho
        subst ho
        simp [Region.binds] at haf
        obtain rfl : x41 = _ := pf.1 (haf.1)
        have HPF : Hid _ := pf
        clear pf
        obtain ⟨cc, hcc, _⟩ := hJ.pr
        obtain ⟨k0, k1⟩ := oneCell hcc
        go_wp2_with (fail)
        obtain ⟨p0, p1, p2, p3, p4, p5, p6⟩ := HPF.out
        exact ⟨_, _, _, _, _, _, _, _, _, _, _, _, _, _, _, _, _, _, _, _, _, _, _, _, _, _, _, _, _, _, _, _, _, _, _, _, _, _, _, _, _, _, _, rfl, ⟨hJ.store hRg hgX, fun _ => haf.2.1, hL2⟩, fun _ => rfl, p1, p2, p3, p4, p5, p6⟩
      · simp only [List.getElem?_toArray, List.getElem?_cons_zero, List.getElem?_cons_succ, Option.some.injEq] at ho
        subst ho
        simp [Region.binds] at haf
        obtain ⟨z2, rfl⟩ := pf.2.2.1 (haf.1)
        have HPF : Hid _ := pf
        clear pf
        go_wp2_with (fail)
        obtain ⟨p0, p1, p2, p3, p4, p5, p6⟩ := HPF.out
        exact ⟨_, _, _, _, _, _, _, _, _, _, _, _, _, _, _, _, _, _, _, _, _, _, _, _, _, _, _, _, _, _, _, _, _, _, _, _, _, _, _, _, _, _, _, rfl, ⟨hJ, hL4, hL2⟩, p0, p1, fun _ => ⟨_, rfl⟩, p3, p4, fun _ => ⟨_, rfl⟩, p6⟩
      · simp only [List.getElem?_toArray, List.getElem?_cons_zero, List.getElem?_cons_succ, Option.some.injEq] at ho
        subst ho
        simp [Region.binds] at haf
        obtain ⟨z4, rfl⟩ := pf.2.2.2.2.1 (haf.1)
        have HPF : Hid _ := pf
        clear pf
        go_wp2_with (fail)
        obtain ⟨p0, p1, p2, p3, p4, p5, p6⟩ := HPF.out
        exact ⟨_, _, _, _, _, _, _, _, _, _, _, _, _, _, _, _, _, _, _, _, _, _, _, _, _, _, _, _, _, _, _, _, _, _, _, _, _, _, _, _, _, _, _, rfl, ⟨hJ, hL4, hL2⟩, p0, p1, p2, p3, fun _ => ⟨_, rfl⟩, p5, fun _ => ⟨_, rfl⟩⟩
    case he =>
      intro l a wr hI hall
      obtain ⟨y0, y1, y7, y8, y9, y10, y11, y12, y13, y14, y15, y16, y17, y18, y19, y20, y21, y22, y23, y24, y25, y26, y27, y28, y29, y30, y31, y32, y33, y34, y35, y36, y37, y38, y39, y40, x41, x42, x43, x44, x45, x3, x4, rfl, ⟨hJ, hL4, hL2⟩, pf⟩ := hI
      obtain ⟨z3, rfl⟩ := pf.2.2.2.2.2.1 (hall 6 (by simp))
      obtain ⟨z4, rfl⟩ := pf.2.2.2.2.2.2 (hall 7 (by simp))
      obtain ⟨c, hcr, hce⟩ := hJ.pr
      obtain rfl := hce (hall 5 (by simp))
      obtain ⟨d5, _⟩ := oneCell hcr
      have oW := own_mono hJ.own (base' := w.heap.size) (by omega)
      have LW := hJ.low
      clear pf hall hJ
      go_wp2
      refine bodyPost_ret (v := .tuple #[.agg #[.slice ua ss.length uc], .int .i64 z3, .int .i64 z4]) (by simp [results, Try.results5, go_sem, d5]) rfl ?_
      first | exact ⟨_, ss, z3, z4, rfl, h1, h7, oW, LW⟩ | exact ⟨_, ss, ⟨z3, z4, rfl⟩, h1, h7, oW, LW⟩ | exact ⟨_, ⟨z3, z4, rfl⟩, ss, h1, h7, oW, LW⟩
  | cons x0 LL =>
    generalize hQ : x0 :: LL = QQ at *
    have hq0 : 0 < QQ.length := by rw [← hQ]; simp
    clear hQ
    obtain ⟨gl, lc, rfl⟩ : ∃ gl lc, lv = .slice (some ⟨gl, 0, none⟩) QQ.length lc := by
      rcases oL.1.2 with ⟨h, e⟩ | ⟨b, c, d, h, _⟩
      · have := oL.1.1
        rw [e] at this
        simp at this
        omega
      · exact ⟨_, _, h⟩
    have hq1 : (0 : Int) < (QQ.length : Int) := by omega
    have hglt := (oL.row.lt gl rfl).2
    go_wp2_with fail
    go_at_call 19
    refine (l1Once g bs 6 (by omega) _ hl hc4).mono ?_
    rintro e w5 ⟨b, rfl, hc5, hg5⟩
    have s5 := hg5.size
    have X5 := blockGrown X4 hg5 (by omega)
    have R5 := (hg5.block w.heap.size (by omega) (by simp; omega)).trans R4
    have own5 := own_grown own4 hg5 (fun k hk e => by have := (own4.lt k hk).1; simp at e; omega)
    have L5 : Below w.heap.size w w5 := L4.grown hg5 L4.size (fun k e => by simp at e; omega)
    have oL5 := oL.same (w' := w5) (fun k hk => hg5.block k (by have := oL.row.lt k hk; omega) (by have := (oL.row.lt k hk).1; simp; omega)) (fun u hu k hk => hg5.block k (by have := oL.ltI hu hk; omega) (by have := (oL.ltI hu hk).1; simp; omega))
    clear c4 f4 r4 fr4 X4 R4 hc4 own4 L4 oL hg5
    cases b
    · obtain ⟨c4, f4⟩ := oneCell X5
      obtain ⟨r4, fr4⟩ := oneCell R5
      go_wp2_with fail
      go_at_call 20
      refine (l1Below g bs (QQ.length : Int) (by omega) _ hl hc5).mono ?_
      rintro e w6 ⟨z, rfl, hz0, hz1, _, hc6, hg6⟩
      have hz2 := hz1 hq1
      obtain ⟨zn, rfl⟩ : ∃ zn : Nat, z = (zn : Int) := ⟨z.toNat, by omega⟩
      have hzn : zn < QQ.length := by omega
      have s6 := hg6.size
      have X6 := blockGrown X5 hg6 (by omega)
      have R6 := (hg6.block w.heap.size (by omega) (by simp; omega)).trans R5
      have own6 := own_grown own5 hg6 (fun k hk e => by have := (own5.lt k hk).1; simp at e; omega)
      have L6 : Below w.heap.size w w6 := L5.grown hg6 L5.size (fun k e => by simp at e; omega)
      have oL6 := oL5.same (w' := w6) (fun k hk => hg6.block k (by have := oL5.row.lt k hk; omega) (by have := (oL5.row.lt k hk).1; simp; omega)) (fun u hu k hk => hg6.block k (by have := oL5.ltI hu hk; omega) (by have := (oL5.ltI hu hk).1; simp; omega))
      clear c4 f4 r4 fr4 X5 R5 hc5 own5 L5 oL5 hg6
      obtain ⟨uu, _, cu, ou⟩ := oL6.at hzn
      obtain ⟨j, y, exs, _⟩ := heach QQ[zn] (by simp)
      rw [exs] at ou
      obtain ⟨gu, uc2, hue⟩ : ∃ gu uc2, uu = .slice (some ⟨gu, 0, none⟩) 2 uc2 := by
        rcases ou.2 with ⟨h, e⟩ | ⟨b, c, d, h, _⟩
        · have := ou.1
          rw [e] at this
          simp [ints] at this
        · exact ⟨_, _, h⟩
      subst hue
      have cu0 : w6.cell? ⟨gu, 0, none⟩ = some (.int .i64 (j : Int)) := by rw [ou.cellAt 0 (by simp)]; rfl
      have cu1 : w6.cell? ⟨gu, 1, none⟩ = some (.int .i64 (y : Int)) := by rw [ou.cellAt 1 (by simp)]; rfl
      obtain ⟨c4, f4⟩ := oneCell X6
      obtain ⟨r4, fr4⟩ := oneCell R6
      have hne1 : gu ≠ w.heap.size := by have := (ou.lt gu rfl).1; rw [z3] at this; omega
      have hne2 : gl ≠ w.heap.size := by have := (oL6.row.lt gl rfl).1; rw [z3] at this; omega
      have hzi : (zn : Int) < (QQ.length : Int) := by omega
      have G7 := one_set' R6 (.slice ua ss.length uc)
      obtain ⟨d7, _⟩ := oneCell G7
      have own7 := ownsRow_setCell_other own6 (a := ⟨w.heap.size, 0, none⟩) (fun e => by have h : w1.heap.size ≤ w.heap.size := (own6.lt _ e).1; omega) (.slice ua ss.length uc)
      have HD : Hid _ := d7
      have HO : Hid _ := own7
      clear d7 own7 G7 X6 R6 own6 oL6 ou hc6
      go_wp2_with fail
      go_region
      go_wp2
      have oW := own_mono HO.out (base' := w.heap.size) (by omega)
      have LW := Below.drew (Below.setCell (p := ⟨w.heap.size, 0, none⟩) L6 (Nat.le_refl _) (.slice ua ss.length uc))
      have d5 := HD.out
      refine bodyPost_ret (v := .tuple #[.agg #[.slice ua ss.length uc], .int .i64 (j : Int), .int .i64 (y : Int)]) (by simp [results, Try.results5, go_sem, d5]) rfl ?_
      first | exact ⟨_, ss, j, y, rfl, h1, h7, oW, LW⟩ | exact ⟨_, ss, ⟨j, y, rfl⟩, h1, h7, oW, LW⟩ | exact ⟨_, ⟨j, y, rfl⟩, ss, h1, h7, oW, LW⟩
    · go_wp2_with fail
      have J0 : DJ w.heap.size w2.heap.size g 0 bs (.slice ua ss.length uc) ss w1.heap.size w false w5.drew := ⟨fun _ => hc5, X5, ⟨_, R5, fun e => absurd e (by simp)⟩, own5, L5.drew, rfl, g1, by omega⟩
      have HJ0 : Hid _ := J0
      have hRg := lt1
      have hgX : g < w2.heap.size := by omega
      clear J0 X5 R5 hc5 own5 L5 oL5
      refine wp_region_inv (by kernel_rfl) (by kernel_rfl) (DBInv w.heap.size w2.heap.size g (.slice ua ss.length uc) (DJ w.heap.size w2.heap.size g 0 bs (.slice ua ss.length uc) ss w1.heap.size w)) ?h0 ?hs ?he
      case h0 => exact ⟨_, _, _, _, _, _, _, _, _, _, _, _, _, _, _, _, _, _, _, _, _, _, _, _, _, _, _, _, _, _, _, _, _, _, _, _, _, _, _, _, _, _, _, rfl, ⟨HJ0.out, by simp, by simp⟩, by simp, by simp, by simp, by simp, by simp, by simp, by simp⟩
      case hs =>
        intro l i o a wr ho hI hli haf
        obtain ⟨y0, y1, y7, y8, y9, y10, y11, y12, y13, y14, y15, y16, y17, y18, y19, y20, y21, y22, y23, y24, y25, y26, y27, y28, y29, y30, y31, y32, y33, y34, y35, y36, y37, y38, y39, y40, x41, x42, x43, x44, x45, x3, x4, rfl, ⟨hJ, hL4, hL2⟩, pf⟩ := hI
        have hi : i < 8 := (Array.getElem?_eq_some_iff.1 ho).1
        have hcases : i = 0 ∨ i = 1 ∨ i = 2 ∨ i = 3 ∨ i = 4 ∨ i = 5 ∨ i = 6 ∨ i = 7 := by omega
        rcases hcases with rfl | rfl | rfl | rfl | rfl | rfl | rfl | rfl
        · simp only [List.getElem?_toArray, List.getElem?_cons_zero, Option.some.injEq] at ho
          subst ho
          have HPF : Hid _ := pf
          clear pf
          have k0 := hJ.x0
          go_wp2_with (fail)
          obtain ⟨p0, p1, p2, p3, p4, p5, p6⟩ := HPF.out
          exact ⟨_, _, _, _, _, _, _, _, _, _, _, _, _, _, _, _, _, _, _, _, _, _, _, _, _, _, _, _, _, _, _, _, _, _, _, _, _, _, _, _, _, _, _, rfl, ⟨hJ, hL4, hL2⟩, fun _ => rfl, p1, p2, p3, p4, p5, p6⟩
        · simp only [List.getElem?_toArray, List.getElem?_cons_zero, List.getElem?_cons_succ, Option.some.injEq] at ho
          subst ho
          have HPF : Hid _ := pf
          clear pf
          go_wp2_with (fail)
          obtain ⟨p0, p1, p2, p3, p4, p5, p6⟩ := HPF.out
          exact ⟨_, _, _, _, _, _, _, _, _, _, _, _, _, _, _, _, _, _, _, _, _, _, _, _, _, _, _, _, _, _, _, _, _, _, _, _, _, _, _, _, _, _, _, rfl, ⟨hJ, hL4, hL2⟩, p0, fun _ => rfl, p2, p3, p4, p5, p6⟩
        · simp only [List.getElem?_toArray, List.getElem?_cons_zero, List.getElem?_cons_succ, Option.some.injEq] at ho
          subst ho
          simp [Region.binds] at haf
          obtain rfl : x42 = _ := pf.2.1 (haf)
          have HPF : Hid _ := pf
          clear pf
          have hcu := hJ.cur (by cases h5 : l 5; exact rfl; exact absurd (hL2 (hL4 h5)) (by rw [hli]; simp))
          go_wp2_with (go_at_call 20; refine (l1Below g bs 7 (by omega) _ hl hcu).mono ?_; rintro e w9 ⟨z, rfl, _, _, _, hc9, hg9⟩)
          obtain ⟨p0, p1, p2, p3, p4, p5, p6⟩ := HPF.out
          exact ⟨_, _, _, _, _, _, _, _, _, _, _, _, _, _, _, _, _, _, _, _, _, _, _, _, _, _, _, _, _, _, _, _, _, _, _, _, _, _, _, _, _, _, _, rfl, ⟨hJ.step hRg hgX hc9 hg9, hL4, fun _ => rfl⟩, p0, fun _ => rfl, fun _ => ⟨_, rfl⟩, p3, p4, p5, p6⟩
        · simp only [List.getElem?_toArray, List.getElem?_cons_zero, List.getElem?_cons_succ, Option.some.injEq] at ho
          subst ho
          have HPF : Hid _ := pf
          clear pf
          go_wp2_with (fail)
          obtain ⟨p0, p1, p2, p3, p4, p5, p6⟩ := HPF.out
          exact ⟨_, _, _, _, _, _, _, _, _, _, _, _, _, _, _, _, _, _, _, _, _, _, _, _, _, _, _, _, _, _, _, _, _, _, _, _, _, _, _, _, _, _, _, rfl, ⟨hJ, hL4, hL2⟩, p0, p1, p2, fun _ => rfl, p4, p5, p6⟩
        · simp only [List.getElem?_toArray, List.getElem?_cons_zero, List.getElem?_cons_succ, Option.some.injEq] at ho
          subst ho
          simp [Region.binds] at haf
          obtain rfl : x44 = _ := pf.2.2.2.1 (haf.1)
          have HPF : Hid _ := pf
          clear pf
          have hcu := hJ.cur (by cases h5 : l 5; exact rfl; exact absurd (hL4 h5) (by rw [hli]; simp))
          go_wp2_with (go_at_call 20; refine (l1Below g bs 7 (by omega) _ hl hcu).mono ?_; rintro e w9 ⟨z, rfl, _, _, _, hc9, hg9⟩)
          obtain ⟨p0, p1, p2, p3, p4, p5, p6⟩ := HPF.out
          exact ⟨_, _, _, _, _, _, _, _, _, _, _, _, _, _, _, _, _, _, _, _, _, _, _, _, _, _, _, _, _, _, _, _, _, _, _, _, _, _, _, _, _, _, _, rfl, ⟨hJ.step hRg hgX hc9 hg9, fun _ => rfl, fun _ => haf.2⟩, p0, p1, p2, fun _ => rfl, fun _ => ⟨_, rfl⟩, p5, p6⟩
        · simp only [List.getElem?_toArray, List.getElem?_cons_zero, List.getElem?_cons_succ, Option.some.injEq] at ho
          subst ho
          simp [Region.binds] at haf
          obtain rfl : x41 = _ := pf.1 (haf.1)
          have HPF : Hid _ := pf
          clear pf
          obtain ⟨cc, hcc, _⟩ := hJ.pr
          obtain ⟨k0, k1⟩ := oneCell hcc
          go_wp2_with (fail)
          obtain ⟨p0, p1, p2, p3, p4, p5, p6⟩ := HPF.out
          exact ⟨_, _, _, _, _, _, _, _, _, _, _, _, _, _, _, _, _, _, _, _, _, _, _, _, _, _, _, _, _, _, _, _, _, _, _, _, _, _, _, _, _, _, _, rfl, ⟨hJ.store hRg hgX, fun _ => haf.2.1, hL2⟩, fun _ => rfl, p1, p2, p3, p4, p5, p6⟩
        · simp only [List.getElem?_toArray, List.getElem?_cons_zero, List.getElem?_cons_succ, Option.some.injEq] at ho
          subst ho
          simp [Region.binds] at haf
          obtain ⟨z2, rfl⟩ := pf.2.2.1 (haf.1)
          have HPF : Hid _ := pf
          clear pf
          go_wp2_with (fail)
          obtain ⟨p0, p1, p2, p3, p4, p5, p6⟩ := HPF.out
          exact ⟨_, _, _, _, _, _, _, _, _, _, _, _, _, _, _, _, _, _, _, _, _, _, _, _, _, _, _, _, _, _, _, _, _, _, _, _, _, _, _, _, _, _, _, rfl, ⟨hJ, hL4, hL2⟩, p0, p1, fun _ => ⟨_, rfl⟩, p3, p4, fun _ => ⟨_, rfl⟩, p6⟩
        · simp only [List.getElem?_toArray, List.getElem?_cons_zero, List.getElem?_cons_succ, Option.some.injEq] at ho
          subst ho
          simp [Region.binds] at haf
          obtain ⟨z4, rfl⟩ := pf.2.2.2.2.1 (haf.1)
          have HPF : Hid _ := pf
          clear pf
          go_wp2_with (fail)
          obtain ⟨p0, p1, p2, p3, p4, p5, p6⟩ := HPF.out
          exact ⟨_, _, _, _, _, _, _, _, _, _, _, _, _, _, _, _, _, _, _, _, _, _, _, _, _, _, _, _, _, _, _, _, _, _, _, _, _, _, _, _, _, _, _, rfl, ⟨hJ, hL4, hL2⟩, p0, p1, p2, p3, fun _ => ⟨_, rfl⟩, p5, fun _ => ⟨_, rfl⟩⟩
      case he =>
        intro l a wr hI hall
        obtain ⟨y0, y1, y7, y8, y9, y10, y11, y12, y13, y14, y15, y16, y17, y18, y19, y20, y21, y22, y23, y24, y25, y26, y27, y28, y29, y30, y31, y32, y33, y34, y35, y36, y37, y38, y39, y40, x41, x42, x43, x44, x45, x3, x4, rfl, ⟨hJ, hL4, hL2⟩, pf⟩ := hI
        obtain ⟨z3, rfl⟩ := pf.2.2.2.2.2.1 (hall 6 (by simp))
        obtain ⟨z4, rfl⟩ := pf.2.2.2.2.2.2 (hall 7 (by simp))
        obtain ⟨c, hcr, hce⟩ := hJ.pr
        obtain rfl := hce (hall 5 (by simp))
        obtain ⟨d5, _⟩ := oneCell hcr
        have oW := own_mono hJ.own (base' := w.heap.size) (by omega)
        have LW := hJ.low
        clear pf hall hJ
        go_wp2
        refine bodyPost_ret (v := .tuple #[.agg #[.slice ua ss.length uc], .int .i64 z3, .int .i64 z4]) (by simp [results, Try.results5, go_sem, d5]) rfl ?_
        first | exact ⟨_, ss, z3, z4, rfl, h1, h7, oW, LW⟩ | exact ⟨_, ss, ⟨z3, z4, rfl⟩, h1, h7, oW, LW⟩ | exact ⟨_, ⟨z3, z4, rfl⟩, ss, h1, h7, oW, LW⟩

end Go.Proofs.Ytjlfmjoallnojad
