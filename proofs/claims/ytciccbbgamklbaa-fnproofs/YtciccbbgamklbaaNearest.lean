/-
  impl.nearestFirst: the iterator's contract.
-/
import Derived.Test.YtciccbbgamklbaaG06RangeFootH
import Derived.Test.YtciccbbgamklbaaBfs2
import Derived.Test.YtciccbbgamklbaaQueueS
namespace Go.Proofs.Ytciccbbgamklbaa
open Go.RowKit Go.Shelf
set_option linter.unusedVariables false
set_option maxHeartbeats 2000000
attribute [local go_sem] Oper.semAt_some

abbrev DPs (ss : List Stm) : Type := { p : Int × Int // DP ss p }

def isZ : Value → Bool
  | .int _ n => n == 0
  | _ => false

/-- How many noughts block B holds. -/
def zw (w : World) (B : Nat) : Nat :=
  match w.heap[B]? with
  | some (.cells cur _ _) => cur.toList.countP isZ
  | _ => 0

def lenV : Value → Nat
  | .slice _ n _ => n
  | _ => 0

theorem zw_eq {w : World} {B : Nat} {t : TypeId} {fz : Nat × Nat} {ds : List Int} (h : w.heap[B]? = some (.cells (ints ds).toArray t fz)) : zw w B = zeros ds := by
  unfold zw
  rw [h]
  simp only [ints, zeros]
  rw [List.countP_map]
  rfl

theorem sizes_cell {w : World} {B : Nat} {t : TypeId} {ds : List Int} (h : w.heap[B]? = some (.cells (ints ds).toArray t (0, 0))) (j : Nat) (hj : j < ds.length) : w.cell? ⟨B, j, none⟩ = some (.int .i64 (ds.getD j 0)) ∧ w.frozen? ⟨B, j, none⟩ = false := by
  refine ⟨?_, frozen_of_row w B j _ t h⟩
  rw [cell_of_row w B j _ t (0, 0) h]
  simp [ints, hj, List.getD]

theorem sizes_set {w : World} {B : Nat} {t : TypeId} {ds : List Int} (h : w.heap[B]? = some (.cells (ints ds).toArray t (0, 0))) (j : Nat) (x : Int) : (w.setCell ⟨B, j, none⟩ (.int .i64 x)).heap[B]? = some (.cells (ints (ds.set j x)).toArray t (0, 0)) := by
  have := heap_setCell_same w B j _ t (.int .i64 x) h
  rw [this]
  simp [ints, List.map_set]

/-- Nothing of the foot is the iterator's. -/
structure Apart (w : World) (B Bn : Nat) (f : Nat → Prop) (line : Value) (wr : World) : Prop where
  lt : ∀ r, f r → r < wr.heap.size
  low : ∀ r, r < w.heap.size → ¬ f r
  box : ¬ f Bn
  siz : ¬ f B
  row : ∀ k, line.ownBlock = some k → ¬ f k

/-- The iterator's own state. -/
structure NSt {α : Type} (v : Value) (w : World) (B Bn : Nat) (J : List α → (Nat → Prop) → World → Prop) (pre : List α) (f : Nat → Prop) (line : Value) (xs ds : List Int) (wr : World) : Prop where
  q : Queue wr (B + 1) line xs
  s : wr.heap[B]? = some (.cells (ints ds).toArray 78 (0, 0))
  j : J pre f wr
  ap : Apart w B Bn f line wr
  bl : Below w.heap.size w wr
  bx : wr.heap[Bn]? = some (.cells #[v] 30 (0, 0))

section
variable {α : Type} {v : Value} {w : World} {B Bn : Nat} {J J' : List α → (Nat → Prop) → World → Prop} {pre pre' : List α} {f f' : Nat → Prop} {line : Value} {xs ds : List Int} {wr wr' : World}

theorem NSt.sz (h : NSt v w B Bn J pre f line xs ds wr) : B < wr.heap.size := (Array.getElem?_eq_some_iff.1 h.s).1
theorem NSt.bxlt (h : NSt v w B Bn J pre f line xs ds wr) : Bn < wr.heap.size := (Array.getElem?_eq_some_iff.1 h.bx).1

/-- New blocks. -/
theorem NSt.grow (hJ : FootAbides B J) (h : NSt v w B Bn J pre f line xs ds wr) (hg : wr.grownBy wr' none) : NSt v w B Bn J pre f line xs ds wr' where
  q := h.q.kept hg (by simp)
  s := (hg.block _ h.sz (by simp)).trans h.s
  j := hJ _ _ _ _ none h.j hg (by simp)
  ap := { h.ap with lt := fun r hr => Nat.lt_of_lt_of_le (h.ap.lt r hr) hg.size }
  bl := h.bl.grown hg h.bl.size (by simp)
  bx := (hg.block _ h.bxlt (by simp)).trans h.bx

/-- A size is laid. -/
theorem NSt.set (hJ : FootAbides B J) (hB : w.heap.size ≤ B) (hne : Bn ≠ B) (h : NSt v w B Bn J pre f line xs ds wr) (j : Nat) (x : Int) : NSt v w B Bn J pre f line xs (ds.set j x) (wr.setCell ⟨B, j, none⟩ (.int .i64 x)) where
  q := h.q.kept (grown_setCell1 wr B j _) (fun k hk e => by have := (h.q.lt k hk).1; simp at e; omega)
  s := sizes_set h.s j x
  j := hJ _ _ _ _ (some B) h.j (grown_setCell1 wr B j _) (fun r e => by cases e; exact ⟨Nat.le_refl _, h.ap.siz⟩)
  ap := { h.ap with lt := fun r hr => Nat.lt_of_lt_of_le (h.ap.lt r hr) (grown_setCell1 wr B j (.int .i64 x)).size }
  bl := h.bl.setCell (by simpa using hB) _
  bx := ((grown_setCell1 wr B j (.int .i64 x)).block _ h.bxlt (fun e => hne (by simpa using e))).trans h.bx

/-- The list has been appended to. -/
theorem NSt.app (hJ : FootAbides B J) (hB : w.heap.size ≤ B) (hne : Bn < B) (h : NSt v w B Bn J pre f line xs ds wr) {line' : Value} {ys : List Int} (hq : Queue wr' (B + 1) line' ys) (hg : wr.grownBy wr' line.ownBlock)
    (hk : ∀ k, line'.ownBlock = some k → line.ownBlock = some k ∨ wr.heap.size ≤ k) : NSt v w B Bn J pre f line' ys ds wr' where
  q := hq
  s := (hg.block _ h.sz (fun e => by have := (h.q.lt _ e.symm).1; omega)).trans h.s
  j := hJ _ _ _ _ line.ownBlock h.j hg (fun r e => ⟨by have := (h.q.lt _ e).1; omega, h.ap.row r e⟩)
  ap := { lt := fun r hr => Nat.lt_of_lt_of_le (h.ap.lt r hr) hg.size, low := h.ap.low, box := h.ap.box, siz := h.ap.siz, row := fun k hk' hf => by
            rcases hk k hk' with e | e
            · exact h.ap.row k e hf
            · have := h.ap.lt k hf; omega }
  bl := h.bl.grown hg h.bl.size (fun k e => by have := (h.q.lt k e).1; omega)
  bx := (hg.block _ h.bxlt (fun e => by have := (h.q.lt _ e.symm).1; omega)).trans h.bx

/-- A round has been made. -/
theorem NSt.round (h : NSt v w B Bn J pre f line xs ds wr) (hO : Outside f wr f' wr') (hj : J' pre' f' wr') : NSt v w B Bn J' pre' f' line xs ds wr' where
  q := h.q.same hO.size (fun k hk => hO.block k (h.q.lt k hk).2 (h.ap.row k hk))
  s := (hO.block _ h.sz h.ap.siz).trans h.s
  j := hj
  ap := { lt := hO.lt, low := fun r hr hf => h.ap.low r hr (hO.less r (Nat.lt_of_lt_of_le hr h.bl.size) hf), box := fun hf => h.ap.box (hO.less _ h.bxlt hf), siz := fun hf => h.ap.siz (hO.less _ h.sz hf), row := fun k hk hf => h.ap.row k hk (hO.less k (h.q.lt k hk).2 hf) }
  bl := ⟨hO.os.trans h.bl.os, hO.tape.trans h.bl.tape, hO.output.trans h.bl.output, Nat.le_trans h.bl.size hO.size, fun k hk => (hO.block k (Nat.lt_of_lt_of_le hk h.bl.size) (h.ap.low k hk)).trans (h.bl.block k hk)⟩
  bx := (hO.block _ h.bxlt h.ap.box).trans h.bx

/-- Another list of the iterator's own. -/
theorem NSt.other (h : NSt v w B Bn J pre f line xs ds wr) {line' : Value} {ys : List Int} (hq : Queue wr (B + 1) line' ys) (hk : line'.ownBlock = line.ownBlock) : NSt v w B Bn J pre f line' ys ds wr :=
  { h with q := hq, ap := { h.ap with row := fun k e => h.ap.row k (hk ▸ e) } }

end

end Go.Proofs.Ytciccbbgamklbaa
