/-
 Put together out of: Stmts, DrawKit.
-/
import Derived.Test.YtnjbihfceckpfaaG00Stmt
import Derived.Lib.QuietBelow
/-
 Slices of statements as they lie in memory (three cells each): toStmtS, szStmtS, eqStmt, eqStmtS.
-/
namespace Go.Proofs.Ytnjbihfceckpfaa
open Go.RowKit
set_option linter.unusedVariables false
set_option maxHeartbeats 4000000

/-- A statement's three numbers. -/
structure Stm where
 k : Int
 x : Int
 y : Int

/-- The cells of statements. -/
def cells3 : List Stm → List Value
 | [] => []
 | s :: ss => .int .i64 s.k :: .int .i64 s.x :: .int .i64 s.y :: cells3 ss

theorem cells3_length : ∀ ss : List Stm, (cells3 ss).length = ss.length * 3
 | [] => rfl
 | s :: ss => by simp [cells3, cells3_length ss]; omega

theorem cells3_append : ∀ (a b : List Stm), cells3 (a ++ b) = cells3 a ++ cells3 b
 | [], b => rfl
 | s :: a, b => by simp [cells3, cells3_append a b]

/-- The slice v holds the statements ss. -/
def Reads3 (w : World) (v : Value) (ss : List Stm) : Prop :=
 ∃ ao cap, v = .slice ao ss.length cap ∧ ∀ j s, ss[j]? = some s → ∃ g off, ao = some ⟨g, off, none⟩ ∧
  w.cell? ⟨g, off + j * 3, none⟩ = some (.int .i64 s.k) ∧ w.cell? ⟨g, off + j * 3 + 1, none⟩ = some (.int .i64 s.x) ∧ w.cell? ⟨g, off + j * 3 + 2, none⟩ = some (.int .i64 s.y)

theorem reads3_below {w w' : World} {v : Value} {ss : List Stm} (h : Reads3 w v ss) (hb : Below w.heap.size w w') : Reads3 w' v ss := by
 obtain ⟨ao, cap, rfl, hc⟩ := h
 refine ⟨ao, cap, rfl, fun j s hs => ?_⟩
 obtain ⟨g, off, hg, c0, c1, c2⟩ := hc j s hs
 have hB := World.block_lt_of_cell? w _ c0
 exact ⟨g, off, hg, (hb.cell hB).trans c0, (hb.cell (p := ⟨g, off + j * 3 + 1, none⟩) hB).trans c1, (hb.cell (p := ⟨g, off + j * 3 + 2, none⟩) hB).trans c2⟩

/-- A cell of a row that is owned: it is there. -/
theorem own_cell {w : World} {base : Nat} {e : TypeId} {s n g cap : Nat} {xs : List Value} (h : w.ownsRow base e s (.slice (some ⟨g, 0, none⟩) n cap) n xs) (j : Nat) (hj : j < n * s) : ∃ x, w.cell? ⟨g, j, none⟩ = some x := by
 have h1 := h.cellAt j hj
 have h2 := h.1
 exact ⟨xs[j]'(by omega), by rw [h1]; simp⟩

end Go.Proofs.Ytnjbihfceckpfaa

/-
 Small laws over cursors and worlds that grow, for the draws of programs.
-/
namespace Go.Proofs.Ytnjbihfceckpfaa
open Go.RowKit
set_option linter.unusedVariables false

theorem curLt {w : World} {g : Nat} {bs : List Int} (h : Cur w g bs) : g < w.heap.size := by
 obtain ⟨ao, cap, i, h, hh, _⟩ := h
 exact (Array.getElem?_eq_some_iff.1 hh).1

theorem curAlloc {w : World} {g : Nat} {bs : List Int} (h : Cur w g bs) (o : Obj) : Cur (w.alloc o) g bs := cur_below h (Below.alloc (Below.refl _ _) (Nat.le_refl _) o)

theorem grownAlloc {a w : World} {row : Option Nat} (h : a.grownBy w row) (o : Obj) : a.grownBy (w.alloc o) row := grown_trans h (World.grownBy_alloc w o row)

/-- A store into a block that was not there. -/
theorem grownSet {a w : World} {row : Option Nat} (h : a.grownBy w row) {b o : Nat} (hb : a.heap.size ≤ b) (u : Value) : a.grownBy (w.setCell ⟨b, o, none⟩ u) row :=
 ⟨h.os, h.tape, h.output, by simpa [World.setCell] using h.size, fun k hk hr => (Below.heap_setCell _ _ _ _ (by simp; omega)).trans (h.block k hk hr)⟩

theorem blockGrown {wr wr' : World} {g b : Nat} {o : Obj} (h : wr.heap[b]? = some o) (hg : wr.grownBy wr' (some g)) (hb : g < b) : wr'.heap[b]? = some o := by
 rw [hg.block b (Array.getElem?_eq_some_iff.1 h).1 (by simp; omega)]; exact h

theorem curSet {w : World} {g : Nat} {bs : List Int} (h : Cur w g bs) {b o : Nat} (hb : g < b) (u : Value) : Cur (w.setCell ⟨b, o, none⟩ u) g bs :=
 cur_grown h (grown_setCell w b o u) (by simp; omega)

theorem threeCells {w : World} {b : Nat} {x0 x1 x2 : Value} {T : TypeId} (h : w.heap[b]? = some (.cells #[x0, x1, x2] T (0, 0))) :
 w.cell? ⟨b, 0, none⟩ = some x0 ∧ w.cell? ⟨b, 1, none⟩ = some x1 ∧ w.cell? ⟨b, 2, none⟩ = some x2 ∧
  w.frozen? ⟨b, 0, none⟩ = false ∧ w.frozen? ⟨b, 1, none⟩ = false ∧ w.frozen? ⟨b, 2, none⟩ = false := by
 refine ⟨?_, ?_, ?_, ?_, ?_, ?_⟩ <;> simp [World.cell?, World.frozen?, h]

theorem threeSet {w : World} {b : Nat} {p0 p1 p2 : Value} {t : TypeId} (h : w.heap[b]? = some (.cells #[p0, p1, p2] t (0, 0))) (x0 x1 x2 : Value) :
 (((w.setCell ⟨b, 0, none⟩ x0).setCell ⟨b, 1, none⟩ x1).setCell ⟨b, 2, none⟩ x2).heap[b]? = some (.cells #[x0, x1, x2] t (0, 0)) := by
 have h1 := heap_setCell_same w b 0 _ t x0 h
 have h2 := heap_setCell_same _ b 1 _ t x1 h1
 have h3 := heap_setCell_same _ b 2 _ t x2 h2
 simpa using h3

end Go.Proofs.Ytnjbihfceckpfaa
