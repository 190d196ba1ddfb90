/-
  spec.DrawWays: some Proc in rows of its own, and two numbers.
-/
import Derived.Test.YtjlfmjoallnojabDrawProc4
import Derived.BigRegion
namespace Go.Proofs.Ytjlfmjoallnojab
open Go.RowKit
set_option linter.unusedVariables false
set_option maxHeartbeats 2000000
attribute [local go_sem ↓] Go.wp_at_zero Go.wp_at_succ

/-- The world in the last region: the cursor turns, and the answer's block. -/
structure DJ (R X g n : Nat) (bs : List Int) (u : Value) (ss : List Stm) (base : Nat) (w0 : World) (b : Bool) (wr : World) : Prop where
  cur : b = false → Cur wr g bs
  px : wr.heap[X]? = some (.cells #[u] 26 (0, 0))
  pr : ∃ c, wr.heap[R]? = some (.cells #[c] 26 (0, 0)) ∧ (b = true → c = u)
  own : wr.ownsRow base 64 3 u ss.length (cells3 ss)
  low : Below w0.heap.size w0 wr
  hR : R = w0.heap.size
  hg : g < base
  hR2 : R < base

theorem DJ.x0 {R X g n : Nat} {bs : List Int} {u : Value} {ss : List Stm} {base : Nat} {w0 : World} {b : Bool} {wr : World} (h : DJ R X g n bs u ss base w0 b wr) : wr.cell? ⟨X, 0, none⟩ = some u := (oneCell h.px).1
theorem DJ.r0 {R X g n : Nat} {bs : List Int} {u : Value} {ss : List Stm} {base : Nat} {w0 : World} {b : Bool} {wr : World} (h : DJ R X g n bs u ss base w0 b wr) : (wr.cell? ⟨R, 0, none⟩).isSome = true := by
  obtain ⟨c, hc, _⟩ := h.pr
  rw [(oneCell hc).1]; rfl
theorem DJ.r1 {R X g n : Nat} {bs : List Int} {u : Value} {ss : List Stm} {base : Nat} {w0 : World} {b : Bool} {wr : World} (h : DJ R X g n bs u ss base w0 b wr) : wr.frozen? ⟨R, 0, none⟩ = false := by
  obtain ⟨c, hc, _⟩ := h.pr
  exact (oneCell hc).2

theorem DJ.step {R X g n : Nat} {bs : List Int} {u : Value} {ss : List Stm} {base : Nat} {w0 : World} {b : Bool} {wr w' : World} (h : DJ R X g n bs u ss base w0 b wr) (hRg : R < g) (hgX : g < X) (hc : Cur w' g bs) (hg : wr.grownBy w' (some g)) : DJ R X g n bs u ss base w0 b w' where
  cur := fun _ => hc
  px := blockGrown h.px hg hgX
  pr := by
    obtain ⟨c, h1, h2⟩ := h.pr
    exact ⟨c, (hg.block R (Array.getElem?_eq_some_iff.1 h1).1 (by simp; omega)).trans h1, h2⟩
  own := own_grown h.own hg (fun k hk e => by have := (h.own.lt k hk).1; have := h.hg; simp at e; omega)
  low := h.low.grown hg h.low.size (fun k e => by have := h.hR; simp at e; omega)
  hR := h.hR
  hg := h.hg
  hR2 := h.hR2

theorem DJ.store {R X g n : Nat} {bs : List Int} {u : Value} {ss : List Stm} {base : Nat} {w0 : World} {b : Bool} {wr : World} (h : DJ R X g n bs u ss base w0 b wr) (hRg : R < g) (hgX : g < X) : DJ R X g n bs u ss base w0 true (wr.setCell ⟨R, 0, none⟩ u) where
  cur := fun e => absurd e (by simp)
  px := (Below.heap_setCell wr ⟨R, 0, none⟩ u X (by simp; omega)).trans h.px
  pr := by
    obtain ⟨c, h1, h2⟩ := h.pr
    exact ⟨u, one_set' h1 u, fun _ => rfl⟩
  own := ownsRow_setCell_other h.own (a := ⟨R, 0, none⟩) (fun e => by have h1 : base ≤ R := (h.own.lt _ e).1; have := h.hR2; omega) _
  low := h.low.setCell (by have := h.hR; show w0.heap.size ≤ R; omega) _
  hR := h.hR
  hg := h.hg
  hR2 := h.hR2

/-- The list of eight numbers. -/
def lit8 : List Value := [.int .i64 0, .int .i64 1, .int .i64 3, .int .i64 5, .int .i64 7, .int .i64 8, .int .i64 10, .int .i64 6]

def LitS (X : Nat) (wr : World) (v : Value) : Prop := ∃ B, v = .slice (some ⟨B, 0, none⟩) 8 8 ∧ X < B ∧ wr.heap[B]? = some (.cells lit8.toArray 2 (0, 0))
def LitP (X : Nat) (wr : World) (v : Value) : Prop := ∃ B o, o < 8 ∧ v = .pointer (some ⟨B, o, none⟩) ∧ X < B ∧ wr.heap[B]? = some (.cells lit8.toArray 2 (0, 0))

theorem lit_cell {wr : World} {B o : Nat} (hB : wr.heap[B]? = some (.cells lit8.toArray 2 (0, 0))) (ho : o < 8) : wr.cell? ⟨B, o, none⟩ = some (.int .i64 ([0, 1, 3, 5, 7, 8, 10, 6].getD o (0 : Int))) := by
  rw [cell_of_row _ _ o _ _ (0, 0) hB]
  have hc : o = 0 ∨ o = 1 ∨ o = 2 ∨ o = 3 ∨ o = 4 ∨ o = 5 ∨ o = 6 ∨ o = 7 := by omega
  rcases hc with rfl | rfl | rfl | rfl | rfl | rfl | rfl | rfl <;> rfl

theorem LitS.grown {X : Nat} {wr w' : World} {v : Value} (h : LitS X wr v) {g : Nat} (hg : wr.grownBy w' (some g)) (hgX : g < X) : LitS X w' v := by
  obtain ⟨B, e, hX, hB⟩ := h
  exact ⟨B, e, hX, blockGrown hB hg (by omega)⟩
theorem LitP.grown {X : Nat} {wr w' : World} {v : Value} (h : LitP X wr v) {g : Nat} (hg : wr.grownBy w' (some g)) (hgX : g < X) : LitP X w' v := by
  obtain ⟨B, o, ho, e, hX, hB⟩ := h
  exact ⟨B, o, ho, e, hX, blockGrown hB hg (by omega)⟩
theorem LitP.alloc {X : Nat} {wr : World} {v : Value} (h : LitP X wr v) (o : Obj) : LitP X (wr.alloc o) v := by
  obtain ⟨B, k, ho, e, hX, hB⟩ := h
  exact ⟨B, k, ho, e, hX, (old_block (Array.getElem?_eq_some_iff.1 hB).1).trans hB⟩
theorem LitS.set {X : Nat} {wr : World} {v : Value} (h : LitS X wr v) {R : Nat} (hR : R < X) {u : Value} : LitS X (wr.setCell ⟨R, 0, none⟩ u) v := by
  obtain ⟨B, e, hX, hB⟩ := h
  exact ⟨B, e, hX, (Below.heap_setCell wr ⟨R, 0, none⟩ u B (by simp; omega)).trans hB⟩
theorem LitP.set {X : Nat} {wr : World} {v : Value} (h : LitP X wr v) {R : Nat} (hR : R < X) {u : Value} : LitP X (wr.setCell ⟨R, 0, none⟩ u) v := by
  obtain ⟨B, o, ho, e, hX, hB⟩ := h
  exact ⟨B, o, ho, e, hX, (Below.heap_setCell wr ⟨R, 0, none⟩ u B (by simp; omega)).trans hB⟩

theorem DJ.xlt {R X g n : Nat} {bs : List Int} {u : Value} {ss : List Stm} {base : Nat} {w0 : World} {b : Bool} {wr : World} (h : DJ R X g n bs u ss base w0 b wr) : X < wr.heap.size := (Array.getElem?_eq_some_iff.1 h.px).1

theorem DJ.alloc {R X g n : Nat} {bs : List Int} {u : Value} {ss : List Stm} {base : Nat} {w0 : World} {b : Bool} {wr : World} (h : DJ R X g n bs u ss base w0 b wr) (o : Obj) (_ : 0 ≤ R) : DJ R X g n bs u ss base w0 b (wr.alloc o) where
  cur := fun e => curAlloc (h.cur e) o
  px := (old_block h.xlt).trans h.px
  pr := by
    obtain ⟨c, h1, h2⟩ := h.pr
    exact ⟨c, (old_block (Array.getElem?_eq_some_iff.1 h1).1).trans h1, h2⟩
  own := h.own.alloc o
  low := h.low.alloc h.low.size o
  hR := h.hR
  hg := h.hg
  hR2 := h.hR2

/-- What the region has, operation by operation. -/
def DWFct (R X g : Nat) (u : Value) (at4 : Int) (l : Nat → Bool) (x18 x19 x21 x3 : Value) : Prop :=
  (l 0 = true → x18 = .agg #[u]) ∧ (l 1 = true → x19 = .int .i64 at4) ∧ (l 3 = true → x21 = .pointer (some ⟨g, 0, none⟩)) ∧ (l 8 = true → x3 = .int .i64 at4)

set_option maxRecDepth 20000 in
/-- The invariant of that region. -/
def DWInv (R X g : Nat) (u : Value) (at4 : Int) (J : Bool → World → Prop) (l : Nat → Bool) (a : Act) (wr : World) : Prop :=
  ∃ y0 y1 y4 y8 y9 y10 y11 y12 y13 y14 y15 y16 y17 y20 y22 y23 y24 x18 x19 x21 x3 : Value,
    a = { tmps := List.toArray (y0 :: y1 :: .pointer (some ⟨R, 0, none⟩) :: x3 :: y4 :: .pointer (some ⟨g, 0, none⟩) :: .pointer (some ⟨X, 0, none⟩) :: .int .i64 at4 :: y8 :: y9 :: y10 :: y11 :: y12 :: y13 :: y14 :: y15 :: y16 :: y17 :: x18 :: x19 :: y20 :: x21 :: y22 :: y23 :: y24 :: []), defers := [] } ∧
    (J (l 7) wr ∧ (l 7 = true → l 4 = true) ∧ (l 2 = true → LitS X wr y20) ∧ (l 4 = true → ∃ z : Nat, z < 8 ∧ y22 = .int .i64 (z : Int)) ∧ (l 5 = true → LitP X wr y23) ∧ (l 6 = true → ∃ q : Int, y24 = .int .i64 q) ∧ (l 9 = true → ∃ q : Int, y4 = .int .i64 q)) ∧ DWFct R X g u at4 l x18 x19 x21 x3

theorem drawWays (bs : List Int) (v : Value) (w : World) (hl : bs.length ≤ 1048576) (hv : Reads w v (bs.map (Value.int .u8))) :
    Calls Try.prog 5 #[v] w fun e w' => ∃ (u : Value) (ss : List Stm) (i j : Int), e = .returned (.tuple #[.agg #[u], .int .i64 i, .int .i64 j]) ∧ 1 ≤ ss.length ∧ ss.length ≤ 7 ∧ w'.ownsRow w.heap.size 64 3 u ss.length (cells3 ss) ∧ Below w.heap.size w w' := by
  have hb0 : Below w.heap.size w (w.alloc (.cells #[.slice none 0 0] 26)) := by go_grown
  go_enter Try.func5, Try.ntmps5
  go_wp2_with fail
  go_at_call 16
  refine (l1New bs v _ hl (reads_below hv hb0)).mono ?_
  rintro e w1 ⟨g, rfl, hg, hc1, b1⟩
  have lt1 : w.heap.size < g := by have := hg; simp at this; omega
  have R1 : w1.heap[w.heap.size]? = some (.cells #[.slice none 0 0] 26 (0, 0)) := (b1.block _ (by simp)).trans (heap_alloc_new w _)
  have L1 : Below w.heap.size w w1 := hb0.trans (b1.mono hb0.size)
  have g1 := curLt hc1
  go_wp2_with fail
  go_at_call 17
  refine (l4DrawProc g bs w1 hl hc1).mono ?_
  rintro e w2 ⟨u, ss, rfl, h1, h7, own2, hc2, hg2⟩
  have s2 := hg2.size
  have R2 := (hg2.block w.heap.size (by omega) (by simp; omega)).trans R1
  have L2 : Below w.heap.size w w2 := L1.grown hg2 L1.size (fun k e => by simp at e; omega)
  have X3 := heap_alloc_new w2 (.cells #[u] 26)
  have hc3 := curAlloc hc2 (.cells #[u] 26)
  have R3 : (w2.alloc (.cells #[u] 26)).heap[w.heap.size]? = _ := (old_block (by omega)).trans R2
  have L3 : Below w.heap.size w (w2.alloc (.cells #[u] 26)) := L2.alloc L2.size _
  have own3 := own2.alloc (.cells #[u] 26)
  have z3 : (w2.alloc (.cells #[u] 26)).heap.size = w2.heap.size + 1 := by simp
  have W3 : Hid _ := R3
  obtain ⟨ua, un, uc, hu⟩ := ownSlice own2
  have hun : un = ss.length := by
    have := reads3_own own2
    rw [hu] at this
    obtain ⟨_, _, e, _⟩ := this
    simp at e
    exact e.2.1
  subst hu
  subst hun
  obtain ⟨c3, f3⟩ := oneCell X3
  obtain ⟨r3, fr3⟩ := oneCell R3
  have hss7 : (ss.length : Int) ≤ 7 := by omega
  have hwr : IntKind.i64.wrap ((ss.length : Int) + 1) = (ss.length : Int) + 1 := IntWalk.i64_in _ (by omega)
  go_wp2_with fail
  go_at_call 18
  refine (l1Below g bs ((ss.length : Int) + 1) (by omega) _ hl hc3).mono ?_
  rintro e w4 ⟨at4, rfl, _, _, _, hc4, hg4⟩
  have s4 := hg4.size
  rw [z3] at s4
  have X4 := blockGrown X3 hg4 (by omega)
  have R4 := (hg4.block w.heap.size (by rw [z3]; omega) (by simp; omega)).trans W3.out
  have own4 := own_grown own3 hg4 (fun k hk e => by have := (own2.lt k hk).1; simp at e; omega)
  have L4 : Below w.heap.size w w4 := L3.grown hg4 L3.size (fun k e => by simp at e; omega)
  clear X3 R3 W3 hc3 own3 L3 c3 f3 r3 fr3 hg4 hc1 hc2 R1 R2 L1 L2 hg2 b1
  obtain ⟨c4, f4⟩ := oneCell X4
  obtain ⟨r4, fr4⟩ := oneCell R4
  go_wp2_with fail
  have J0 : DJ w.heap.size w2.heap.size g 0 bs (.slice ua ss.length uc) ss w1.heap.size w false w4.drew := ⟨fun _ => hc4, X4, ⟨_, R4, fun e => absurd e (by simp)⟩, own4, L4.drew, rfl, g1, by omega⟩
  have HJ0 : Hid _ := J0
  have hRg := lt1
  have hgX : g < w2.heap.size := by omega
  clear J0 c4 f4 r4 fr4 X4 R4 hc4 own4 L4
  refine wp_region_inv (by kernel_rfl) (by kernel_rfl) (DWInv w.heap.size w2.heap.size g (.slice ua ss.length uc) at4 (DJ w.heap.size w2.heap.size g 0 bs (.slice ua ss.length uc) ss w1.heap.size w)) ?h0 ?hs ?he
  case h0 => exact ⟨_, _, _, _, _, _, _, _, _, _, _, _, _, _, _, _, _, _, _, _, _, rfl, ⟨HJ0.out, by simp, by simp, by simp, by simp, by simp, by simp⟩, by simp, by simp, by simp, by simp⟩
  case hs =>
    intro l i o a wr ho hI hli haf
    obtain ⟨y0, y1, y4, y8, y9, y10, y11, y12, y13, y14, y15, y16, y17, y20, y22, y23, y24, x18, x19, x21, x3, rfl, ⟨hD, hL7, h2, h4, h5, h6, h9⟩, pf⟩ := hI
    have hi : i < 10 := (Array.getElem?_eq_some_iff.1 ho).1
    have hcases : i = 0 ∨ i = 1 ∨ i = 2 ∨ i = 3 ∨ i = 4 ∨ i = 5 ∨ i = 6 ∨ i = 7 ∨ i = 8 ∨ i = 9 := by omega
    rcases hcases with rfl | rfl | rfl | rfl | rfl | rfl | rfl | rfl | rfl | rfl
    · simp only [List.getElem?_toArray, List.getElem?_cons_zero, Option.some.injEq] at ho
      subst ho
      have HPF : Hid _ := pf
      clear pf
      have k0 := hD.x0
      go_wp2_with (fail)
      obtain ⟨p0, p1, p2, p3⟩ := HPF.out
      exact ⟨_, _, _, _, _, _, _, _, _, _, _, _, _, _, _, _, _, _, _, _, _, rfl, ⟨hD, hL7, h2, h4, h5, h6, h9⟩, fun _ => rfl, p1, p2, p3⟩
    · simp only [List.getElem?_toArray, List.getElem?_cons_zero, List.getElem?_cons_succ, Option.some.injEq] at ho
      subst ho
      have HPF : Hid _ := pf
      clear pf
      go_wp2_with (fail)
      obtain ⟨p0, p1, p2, p3⟩ := HPF.out
      exact ⟨_, _, _, _, _, _, _, _, _, _, _, _, _, _, _, _, _, _, _, _, _, rfl, ⟨hD, hL7, h2, h4, h5, h6, h9⟩, p0, fun _ => rfl, p2, p3⟩
    · simp only [List.getElem?_toArray, List.getElem?_cons_zero, List.getElem?_cons_succ, Option.some.injEq] at ho
      subst ho
      have HPF : Hid _ := pf
      clear pf
      go_wp2_with (fail)
      obtain ⟨p0, p1, p2, p3⟩ := HPF.out
      exact ⟨_, _, _, _, _, _, _, _, _, _, _, _, _, _, _, _, _, _, _, _, _, rfl, ⟨hD.alloc _ (by omega), hL7, fun _ => ⟨wr.heap.size, rfl, hD.xlt, heap_alloc_new wr _⟩, h4, fun h => (h5 h).alloc _, h6, h9⟩, p0, p1, p2, p3⟩
    · simp only [List.getElem?_toArray, List.getElem?_cons_zero, List.getElem?_cons_succ, Option.some.injEq] at ho
      subst ho
      have HPF : Hid _ := pf
      clear pf
      go_wp2_with (fail)
      obtain ⟨p0, p1, p2, p3⟩ := HPF.out
      exact ⟨_, _, _, _, _, _, _, _, _, _, _, _, _, _, _, _, _, _, _, _, _, rfl, ⟨hD, hL7, h2, h4, h5, h6, h9⟩, p0, p1, fun _ => rfl, p3⟩
    · simp only [List.getElem?_toArray, List.getElem?_cons_zero, List.getElem?_cons_succ, Option.some.injEq] at ho
      subst ho
      simp [Region.binds] at haf
      obtain rfl : x21 = _ := pf.2.2.1 (haf)
      have HPF : Hid _ := pf
      clear pf
      have hcu := hD.cur (by cases h7 : l 7; exact rfl; exact absurd (hL7 h7) (by rw [hli]; simp))
      go_wp2_with (go_at_call 18; refine (l1Below g bs 8 (by omega) _ hl hcu).mono ?_; rintro e w9 ⟨z, rfl, hz0, hz1, _, hc9, hg9⟩)
      obtain ⟨p0, p1, p2, p3⟩ := HPF.out
      exact ⟨_, _, _, _, _, _, _, _, _, _, _, _, _, _, _, _, _, _, _, _, _, rfl, ⟨hD.step hRg hgX hc9 hg9, fun _ => rfl, fun h => (h2 h).grown hg9 hgX, fun _ => ⟨z.toNat, by have := hz1 (by omega); omega, by rw [Int.toNat_of_nonneg hz0]⟩, fun h => (h5 h).grown hg9 hgX, h6, h9⟩, p0, p1, fun _ => rfl, p3⟩
    · simp only [List.getElem?_toArray, List.getElem?_cons_zero, List.getElem?_cons_succ, Option.some.injEq] at ho
      subst ho
      have HPF : Hid _ := pf
      clear pf
      simp [Region.binds] at haf
      obtain ⟨B, rfl, hXB, hB⟩ := h2 haf.1
      obtain ⟨z, hz, rfl⟩ := h4 haf.2
      have hz8 : (z : Int) < 8 := by omega
      go_wp2_with (fail)
      obtain ⟨p0, p1, p2, p3⟩ := HPF.out
      exact ⟨_, _, _, _, _, _, _, _, _, _, _, _, _, _, _, _, _, _, _, _, _, rfl, ⟨hD, hL7, fun _ => ⟨B, rfl, hXB, hB⟩, fun _ => ⟨z, hz, rfl⟩, fun _ => ⟨B, z, hz, rfl, hXB, hB⟩, h6, h9⟩, p0, p1, p2, p3⟩
    · simp only [List.getElem?_toArray, List.getElem?_cons_zero, List.getElem?_cons_succ, Option.some.injEq] at ho
      subst ho
      have HPF : Hid _ := pf
      clear pf
      simp [Region.binds] at haf
      obtain ⟨B, o, ho8, rfl, hXB, hB⟩ := h5 haf
      have k0 := lit_cell hB ho8
      go_wp2_with (fail)
      obtain ⟨p0, p1, p2, p3⟩ := HPF.out
      exact ⟨_, _, _, _, _, _, _, _, _, _, _, _, _, _, _, _, _, _, _, _, _, rfl, ⟨hD, hL7, h2, h4, fun _ => ⟨B, o, ho8, rfl, hXB, hB⟩, fun _ => ⟨_, rfl⟩, h9⟩, p0, p1, p2, p3⟩
    · simp only [List.getElem?_toArray, List.getElem?_cons_zero, List.getElem?_cons_succ, Option.some.injEq] at ho
      subst ho
      simp [Region.binds] at haf
      obtain rfl : x18 = _ := pf.1 (haf.1)
      have HPF : Hid _ := pf
      clear pf
      obtain ⟨cc, hcc, _⟩ := hD.pr
      obtain ⟨k0, k1⟩ := oneCell hcc
      go_wp2_with (fail)
      obtain ⟨p0, p1, p2, p3⟩ := HPF.out
      exact ⟨_, _, _, _, _, _, _, _, _, _, _, _, _, _, _, _, _, _, _, _, _, rfl, ⟨hD.store hRg hgX, fun _ => haf.2.1, fun h => (h2 h).set (by omega), h4, fun h => (h5 h).set (by omega), h6, h9⟩, fun _ => rfl, p1, p2, p3⟩
    · simp only [List.getElem?_toArray, List.getElem?_cons_zero, List.getElem?_cons_succ, Option.some.injEq] at ho
      subst ho
      simp [Region.binds] at haf
      obtain rfl : x19 = _ := pf.2.1 (haf.1)
      have HPF : Hid _ := pf
      clear pf
      go_wp2_with (fail)
      obtain ⟨p0, p1, p2, p3⟩ := HPF.out
      exact ⟨_, _, _, _, _, _, _, _, _, _, _, _, _, _, _, _, _, _, _, _, _, rfl, ⟨hD, hL7, h2, h4, h5, h6, h9⟩, p0, fun _ => rfl, p2, fun _ => rfl⟩
    · simp only [List.getElem?_toArray, List.getElem?_cons_zero, List.getElem?_cons_succ, Option.some.injEq] at ho
      subst ho
      have HPF : Hid _ := pf
      clear pf
      simp [Region.binds] at haf
      obtain ⟨q, rfl⟩ := h6 haf.1
      go_wp2_with (fail)
      obtain ⟨p0, p1, p2, p3⟩ := HPF.out
      exact ⟨_, _, _, _, _, _, _, _, _, _, _, _, _, _, _, _, _, _, _, _, _, rfl, ⟨hD, hL7, h2, h4, h5, fun _ => ⟨q, rfl⟩, fun _ => ⟨q, rfl⟩⟩, p0, p1, p2, p3⟩
  case he =>
    intro l a wr hI hall
    obtain ⟨y0, y1, y4, y8, y9, y10, y11, y12, y13, y14, y15, y16, y17, y20, y22, y23, y24, x18, x19, x21, x3, rfl, ⟨hD, hL7, h2, h4, h5, h6, h9⟩, pf⟩ := hI
    obtain ⟨q, rfl⟩ := h9 (hall 9 (by simp))
    obtain rfl : x3 = _ := pf.2.2.2 (hall 8 (by simp))
    obtain ⟨c, hcr, hce⟩ := hD.pr
    obtain rfl := hce (hall 7 (by simp))
    obtain ⟨d5, _⟩ := oneCell hcr
    have oW := own_mono hD.own (base' := w.heap.size) (by omega)
    have LW := hD.low
    clear pf hall hD h2 h4 h5 h6 h9 hL7
    go_wp2
    refine bodyPost_ret (v := .tuple #[.agg #[.slice ua ss.length uc], .int .i64 at4, .int .i64 q]) (by simp [results, Try.results5, go_sem, d5]) rfl ?_
    first | exact ⟨_, ss, at4, q, rfl, h1, h7, oW, LW⟩ | exact ⟨_, ss, ⟨at4, q, rfl⟩, h1, h7, oW, LW⟩ | exact ⟨_, ⟨at4, q, rfl⟩, ss, h1, h7, oW, LW⟩

end Go.Proofs.Ytjlfmjoallnojab
