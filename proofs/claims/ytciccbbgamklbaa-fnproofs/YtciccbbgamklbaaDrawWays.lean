/-
  spec.DrawWays: some Proc in rows of its own, and two numbers.
-/
import Derived.Test.YtciccbbgamklbaaDrawProc4
import Derived.BigRegion
namespace Go.Proofs.Ytciccbbgamklbaa
open Go.RowKit
set_option linter.unusedVariables false
set_option maxHeartbeats 2000000
attribute [local go_sem ↓] Go.wp_at_zero Go.wp_at_succ

/-- The world in the last region: the cursor turns, and the answer's block. -/
structure DJ (R X g n : Nat) (bs : List Int) (u : Value) (ss : List Stm) (base : Nat) (w0 : World) (b : Bool) (wr : World) : Prop where
  cur : b = false → Cur wr g bs
  px : wr.heap[X]? = some (.cells #[u] 30 (0, 0))
  pr : ∃ c, wr.heap[R]? = some (.cells #[c] 30 (0, 0)) ∧ (b = true → c = u)
  own : wr.ownsRow base 54 3 u ss.length (cells3 ss)
  low : Below w0.heap.size w0 wr
  hR : R = w0.heap.size
  hg : g < base
  hR2 : R < base

theorem DJ.x0 {R X g n : Nat} {bs : List Int} {u : Value} {ss : List Stm} {base : Nat} {w0 : World} {b : Bool} {wr : World} (h : DJ R X g n bs u ss base w0 b wr) : wr.cell? ⟨X, 0, none⟩ = some u := (oneCell h.px).1
theorem DJ.r0 {R X g n : Nat} {bs : List Int} {u : Value} {ss : List Stm} {base : Nat} {w0 : World} {b : Bool} {wr : World} (h : DJ R X g n bs u ss base w0 b wr) : (wr.cell? ⟨R, 0, none⟩).isSome = true := by
  obtain ⟨c, hc, _⟩ := h.pr
  rw [(oneCell hc).1]; rfl
theorem DJ.r1 {R X g n : Nat} {bs : List Int} {u : Value} {ss : List Stm} {base : Nat} {w0 : World} {b : Bool} {wr : World} (h : DJ R X g n bs u ss base w0 b wr) : wr.frozen? ⟨R, 0, none⟩ = false := by
  obtain ⟨c, hc, _⟩ := h.pr
  exact (oneCell hc).2

theorem DJ.step {R X g n : Nat} {bs : List Int} {u : Value} {ss : List Stm} {base : Nat} {w0 : World} {b : Bool} {wr w' : World} (h : DJ R X g n bs u ss base w0 b wr) (hRg : R < g) (hgX : g < X) (hc : Cur w' g bs) (hg : wr.grownBy w' (some g)) : DJ R X g n bs u ss base w0 b w' where
  cur := fun _ => hc
  px := blockGrown h.px hg hgX
  pr := by
    obtain ⟨c, h1, h2⟩ := h.pr
    exact ⟨c, (hg.block R (Array.getElem?_eq_some_iff.1 h1).1 (by simp; omega)).trans h1, h2⟩
  own := own_grown h.own hg (fun k hk e => by have := (h.own.lt k hk).1; have := h.hg; simp at e; omega)
  low := h.low.grown hg h.low.size (fun k e => by have := h.hR; simp at e; omega)
  hR := h.hR
  hg := h.hg
  hR2 := h.hR2

theorem DJ.store {R X g n : Nat} {bs : List Int} {u : Value} {ss : List Stm} {base : Nat} {w0 : World} {b : Bool} {wr : World} (h : DJ R X g n bs u ss base w0 b wr) (hRg : R < g) (hgX : g < X) : DJ R X g n bs u ss base w0 true (wr.setCell ⟨R, 0, none⟩ u) where
  cur := fun e => absurd e (by simp)
  px := (Below.heap_setCell wr ⟨R, 0, none⟩ u X (by simp; omega)).trans h.px
  pr := by
    obtain ⟨c, h1, h2⟩ := h.pr
    exact ⟨u, one_set' h1 u, fun _ => rfl⟩
  own := ownsRow_setCell_other h.own (a := ⟨R, 0, none⟩) (fun e => by have h1 : base ≤ R := (h.own.lt _ e).1; have := h.hR2; omega) _
  low := h.low.setCell (by have := h.hR; show w0.heap.size ≤ R; omega) _
  hR := h.hR
  hg := h.hg
  hR2 := h.hR2

/-- The list of eight numbers. -/
def lit8 : List Value := [.int .i64 0, .int .i64 1, .int .i64 3, .int .i64 5, .int .i64 7, .int .i64 8, .int .i64 10, .int .i64 6]

def LitS (X : Nat) (wr : World) (v : Value) : Prop := ∃ B, v = .slice (some ⟨B, 0, none⟩) 8 8 ∧ X < B ∧ wr.heap[B]? = some (.cells lit8.toArray 2 (0, 0))
def LitP (X : Nat) (wr : World) (v : Value) : Prop := ∃ B o, o < 8 ∧ v = .pointer (some ⟨B, o, none⟩) ∧ X < B ∧ wr.heap[B]? = some (.cells lit8.toArray 2 (0, 0))

theorem lit_cell {wr : World} {B o : Nat} (hB : wr.heap[B]? = some (.cells lit8.toArray 2 (0, 0))) (ho : o < 8) : wr.cell? ⟨B, o, none⟩ = some (.int .i64 ([0, 1, 3, 5, 7, 8, 10, 6].getD o (0 : Int))) := by
  rw [cell_of_row _ _ o _ _ (0, 0) hB]
  have hc : o = 0 ∨ o = 1 ∨ o = 2 ∨ o = 3 ∨ o = 4 ∨ o = 5 ∨ o = 6 ∨ o = 7 := by omega
  rcases hc with rfl | rfl | rfl | rfl | rfl | rfl | rfl | rfl <;> rfl

theorem LitS.grown {X : Nat} {wr w' : World} {v : Value} (h : LitS X wr v) {g : Nat} (hg : wr.grownBy w' (some g)) (hgX : g < X) : LitS X w' v := by
  obtain ⟨B, e, hX, hB⟩ := h
  exact ⟨B, e, hX, blockGrown hB hg (by omega)⟩
theorem LitP.grown {X : Nat} {wr w' : World} {v : Value} (h : LitP X wr v) {g : Nat} (hg : wr.grownBy w' (some g)) (hgX : g < X) : LitP X w' v := by
  obtain ⟨B, o, ho, e, hX, hB⟩ := h
  exact ⟨B, o, ho, e, hX, blockGrown hB hg (by omega)⟩
theorem LitP.alloc {X : Nat} {wr : World} {v : Value} (h : LitP X wr v) (o : Obj) : LitP X (wr.alloc o) v := by
  obtain ⟨B, k, ho, e, hX, hB⟩ := h
  exact ⟨B, k, ho, e, hX, (old_block (Array.getElem?_eq_some_iff.1 hB).1).trans hB⟩
theorem LitS.set {X : Nat} {wr : World} {v : Value} (h : LitS X wr v) {R : Nat} (hR : R < X) {u : Value} : LitS X (wr.setCell ⟨R, 0, none⟩ u) v := by
  obtain ⟨B, e, hX, hB⟩ := h
  exact ⟨B, e, hX, (Below.heap_setCell wr ⟨R, 0, none⟩ u B (by simp; omega)).trans hB⟩
theorem LitP.set {X : Nat} {wr : World} {v : Value} (h : LitP X wr v) {R : Nat} (hR : R < X) {u : Value} : LitP X (wr.setCell ⟨R, 0, none⟩ u) v := by
  obtain ⟨B, o, ho, e, hX, hB⟩ := h
  exact ⟨B, o, ho, e, hX, (Below.heap_setCell wr ⟨R, 0, none⟩ u B (by simp; omega)).trans hB⟩

theorem DJ.xlt {R X g n : Nat} {bs : List Int} {u : Value} {ss : List Stm} {base : Nat} {w0 : World} {b : Bool} {wr : World} (h : DJ R X g n bs u ss base w0 b wr) : X < wr.heap.size := (Array.getElem?_eq_some_iff.1 h.px).1

theorem DJ.alloc {R X g n : Nat} {bs : List Int} {u : Value} {ss : List Stm} {base : Nat} {w0 : World} {b : Bool} {wr : World} (h : DJ R X g n bs u ss base w0 b wr) (o : Obj) (_ : 0 ≤ R) : DJ R X g n bs u ss base w0 b (wr.alloc o) where
  cur := fun e => curAlloc (h.cur e) o
  px := (old_block h.xlt).trans h.px
  pr := by
    obtain ⟨c, h1, h2⟩ := h.pr
    exact ⟨c, (old_block (Array.getElem?_eq_some_iff.1 h1).1).trans h1, h2⟩
  own := h.own.alloc o
  low := h.low.alloc h.low.size o
  hR := h.hR
  hg := h.hg
  hR2 := h.hR2

/-- What the region has, operation by operation. -/
def DWFct (R X g : Nat) (u : Value) (at4 : Int) (l : Nat → Bool) (x18 x19 x21 x3 : Value) : Prop :=
  (l 0 = true → x18 = .agg #[u]) ∧ (l 1 = true → x19 = .int .i64 at4) ∧ (l 3 = true → x21 = .pointer (some ⟨g, 0, none⟩)) ∧ (l 8 = true → x3 = .int .i64 at4)

set_option maxRecDepth 20000 in
/-- The invariant of that region. -/
def DWInv (R X g : Nat) (u : Value) (at4 : Int) (J : Bool → World → Prop) (l : Nat → Bool) (a : Act) (wr : World) : Prop :=
  ∃ y0 y1 y4 y8 y9 y10 y11 y12 y13 y14 y15 y16 y17 y20 y22 y23 y24 x18 x19 x21 x3 : Value,
    a = { tmps := List.toArray (y0 :: y1 :: .pointer (some ⟨R, 0, none⟩) :: x3 :: y4 :: .pointer (some ⟨g, 0, none⟩) :: .pointer (some ⟨X, 0, none⟩) :: .int .i64 at4 :: y8 :: y9 :: y10 :: y11 :: y12 :: y13 :: y14 :: y15 :: y16 :: y17 :: x18 :: x19 :: y20 :: x21 :: y22 :: y23 :: y24 :: []), defers := [] } ∧
    (J (l 7) wr ∧ (l 7 = true → l 4 = true) ∧ (l 2 = true → LitS X wr y20) ∧ (l 4 = true → ∃ z : Nat, z < 8 ∧ y22 = .int .i64 (z : Int)) ∧ (l 5 = true → LitP X wr y23) ∧ (l 6 = true → ∃ q : Int, y24 = .int .i64 q) ∧ (l 9 = true → ∃ q : Int, y4 = .int .i64 q)) ∧ DWFct R X g u at4 l x18 x19 x21 x3

end Go.Proofs.Ytciccbbgamklbaa
