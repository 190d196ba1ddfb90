/-
  spec.l4DrawWay, DrawWayOk: some Proc in rows of its own, and some way in a row of its own.
-/
import Derived.Test.YtciccbbgamklbaaDrawWays
import Derived.Test.YtciccbbgamklbaaIntLaws
import Derived.Test.YtciccbbgamklbaaWaysMath
namespace Go.Proofs.Ytciccbbgamklbaa
open Go.RowKit
set_option linter.unusedVariables false
set_option linter.unusedSimpArgs false
set_option maxRecDepth 40000
set_option maxHeartbeats 2000000
attribute [local go_sem ↓] Go.wp_at_zero Go.wp_at_succ

/-- What the drawing of a way has in hand. -/
structure WyS (X g base lo : Nat) (bs : List Int) (pv : Value) (ss : List Stm) (ys : List Int) (a : Value) (w wr : World) : Prop where
  cur : Cur wr g bs
  box : wr.heap[X]? = some (.cells #[pv] 30 (0, 0))
  own : wr.ownsRow base 54 3 pv ss.length (cells3 ss)
  way : wr.ownsRow lo 2 1 a ys.length (ints ys)
  gr : w.grownBy wr (some g)

/-- What grows a row of its own has grown by the cursor alone. -/
theorem grownRow' {a w w' : World} {row row' : Option Nat} (h : a.grownBy w row) (hg : w.grownBy w' row') (hr : ∀ k, row' = some k → a.heap.size ≤ k) : a.grownBy w' row :=
  ⟨hg.os.trans h.os, hg.tape.trans h.tape, hg.output.trans h.output, Nat.le_trans h.size hg.size, fun i hi hne => (hg.block i (Nat.lt_of_lt_of_le hi h.size) (fun e => by have := hr i e.symm; omega)).trans (h.block i hi hne)⟩

theorem WyS.step {X g base lo : Nat} {bs : List Int} {pv : Value} {ss : List Stm} {ys : List Int} {a : Value} {w wr w' : World} (h : WyS X g base lo bs pv ss ys a w wr) (hb : Below wr.heap.size wr w') : WyS X g base lo bs pv ss ys a w w' where
  cur := cur_below h.cur hb
  box := (hb.block X (Array.getElem?_eq_some_iff.1 h.box).1).trans h.box
  own := own_kept h.own hb
  way := own_kept h.way hb
  gr := grown_trans h.gr (grown_of_below hb _)

theorem WyS.draw {X g base lo : Nat} {bs : List Int} {pv : Value} {ss : List Stm} {ys : List Int} {a : Value} {w wr w' : World} (h : WyS X g base lo bs pv ss ys a w wr) (hgX : g < X) (hgb : g < base) (hgl : g < lo) (hc : Cur w' g bs) (hg : wr.grownBy w' (some g)) : WyS X g base lo bs pv ss ys a w w' where
  cur := hc
  box := blockGrown h.box hg hgX
  own := own_grown h.own hg (fun k hk e => by have := (h.own.lt k hk).1; simp at e; omega)
  way := own_grown h.way hg (fun k hk e => by have := (h.way.lt k hk).1; simp at e; omega)
  gr := grown_trans h.gr hg

theorem WyS.app {g base : Nat} {bs : List Int} {pv : Value} {ss : List Stm} {ys : List Int} {a v6 : Value} {w wr w6 : World} {y : Int} (h : WyS w.heap.size g base (w.heap.size + 1) bs pv ss ys a w wr) (hgw : g < w.heap.size)
    (own6 : w6.ownsRow (w.heap.size + 1) 2 1 v6 (ys.length + 1) (ints ys ++ [.int .i64 y])) (grow6 : (wr.alloc (.cells #[.int .i64 y] 2)).grownBy w6 a.ownBlock) : WyS w.heap.size g base (w.heap.size + 1) bs pv ss (ys ++ [y]) v6 w w6 where
  cur := cur_grown (curAlloc h.cur _) grow6 (fun q hq => by have := (h.way.lt q hq).1; omega)
  box := by
    have hX := (Array.getElem?_eq_some_iff.1 h.box).1
    refine (grow6.block w.heap.size (by simp; omega) (fun e => by have := (h.way.lt _ e.symm).1; omega)).trans ((old_block hX).trans h.box)
  own := own_grown (h.own.alloc _) grow6 (fun k hk e => row_kind h.own h.way (by decide) hk e)
  way := by
    have e : ints (ys ++ [y]) = ints ys ++ [.int .i64 y] := by simp [ints]
    rw [e, List.length_append]
    exact own6
  gr := grownRow' (grown_trans h.gr (World.grownBy_alloc wr _ _)) grow6 (fun q hq => by have := (h.way.lt q hq).1; omega)

end Go.Proofs.Ytciccbbgamklbaa
