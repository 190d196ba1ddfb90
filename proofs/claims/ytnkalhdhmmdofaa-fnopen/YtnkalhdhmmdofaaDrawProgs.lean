/-
  What the laws draw of programs: spec.DrawProgramOk, DrawCalls, DrawCircles, DrawReach, DrawTables, DrawInner.
-/
import Derived.Test.YtnkalhdhmmdofaaDrawAny
import Derived.Test.YtnkalhdhmmdofaaDrawFlow
import Derived.Test.YtnkalhdhmmdofaaDrawProc4
namespace Go.Proofs.Ytnkalhdhmmdofaa
open Go.RowKit
set_option linter.unusedVariables false
set_option linter.unusedSimpArgs false
set_option maxHeartbeats 1000000
attribute [local go_sem ↓] Go.wp_at_zero Go.wp_at_succ

theorem PrOk.slice {w : World} {base : Nat} {u : Value} {L : List Nat} (h : PrOk w base u L) : ∃ a n c, u = .slice a n c := by
  obtain ⟨ao, cap, e, _⟩ := h
  exact ⟨_, _, _, e⟩

theorem PrOk.mono {w : World} {base base' : Nat} {u : Value} {L : List Nat} (h : PrOk w base u L) (hb : base' ≤ base) : PrOk w base' u L := by
  obtain ⟨ao, cap, e, hcc⟩ := h
  refine ⟨ao, cap, e, fun j n hj => ?_⟩
  obtain ⟨q, off, x, e1, hb1, cx, hs⟩ := hcc j n hj
  refine ⟨q, off, x, e1, by omega, cx, ?_⟩
  rcases hs with hs | ⟨g', o, c', m, e', hb', hsb, hle⟩
  · exact .inl hs
  · exact .inr ⟨g', o, c', m, e', by omega, hsb, hle⟩

/-- The answer is laid into its box. -/
theorem PrOk.answered {w' : World} {base b : Nat} {u x : Value} {L : List Nat} (h : PrOk w' base u L) (hb : b < base) : PrOk (w'.setCell ⟨b, 0, none⟩ x) b u L :=
  (h.grown (grown_setCell7 w' b 0 x) (fun k hk => by cases hk; omega)).mono (Nat.le_of_lt hb)

/-- What a draw has in hand behind l3DrawAny: the Program in its box (P), the box of what is answered, the cursor. -/
structure PB (w : World) (g : Nat) (bs : List Int) (P base : Nat) (u : Value) (L : List Nat) (W : World) : Prop where
  pr : PrOk W base u L
  box : W.heap[P]? = some (.cells #[u] 26 (0, 0))
  res : W.heap[w.heap.size]? = some (.cells #[.slice none 0 0] 26 (0, 0))
  cur : Cur W g bs
  bel : Below w.heap.size w W

theorem PB.begin {w w1 w2 : World} {g : Nat} {bs : List Int} {u : Value} {L : List Nat} (lt1 : w.heap.size < g) (g1 : g < w1.heap.size) (R1 : w1.heap[w.heap.size]? = some (.cells #[.slice none 0 0] 26 (0, 0))) (L1 : Below w.heap.size w w1)
    (pr2 : PrOk w2 w1.heap.size u L) (hc2 : Cur w2 g bs) (hg2 : w1.grownBy w2 (some g)) : PB w g bs w2.heap.size w1.heap.size u L (w2.alloc (.cells #[u] 26)) := by
  have s2 := hg2.size
  have R2 := (hg2.block w.heap.size (by omega) (by simp; omega)).trans R1
  have L2 : Below w.heap.size w w2 := L1.grown hg2 L1.size (fun k e => by simp at e; omega)
  exact ⟨pr2.grown (World.grownBy_alloc w2 _ (some g)) (fun k hk => by cases hk; omega), heap_alloc_new w2 _, (old_block (by omega)).trans R2, curAlloc hc2 _, L2.alloc L2.size _⟩

theorem PB.draw {w : World} {g : Nat} {bs : List Int} {P base : Nat} {u : Value} {L : List Nat} {W W' : World} (h : PB w g bs P base u L W) (lt1 : w.heap.size < g) (g1 : g < base) (hP : g < P) (hc : Cur W' g bs) (hg : W.grownBy W' (some g)) : PB w g bs P base u L W' :=
  ⟨h.pr.grown hg (fun k hk => by cases hk; omega), blockGrown h.box hg (by omega), (hg.block w.heap.size (Array.getElem?_eq_some_iff.1 h.res).1 (by simp; omega)).trans h.res, hc, h.bel.grown hg h.bel.size (fun k e => by simp at e; omega)⟩

theorem PB.boxKept {w : World} {g : Nat} {bs : List Int} {P base : Nat} {u : Value} {L : List Nat} {W : World} (h : PB w g bs P base u L W) (hP : w.heap.size < P) (x : Value) : (W.setCell ⟨w.heap.size, 0, none⟩ x).cell? ⟨P, 0, none⟩ = some u :=
  (oneCell ((Below.heap_setCell _ _ _ _ (by simp; omega)).trans h.box)).1

theorem PB.ends {w : World} {g : Nat} {bs : List Int} {P base : Nat} {u : Value} {L : List Nat} {W : World} (h : PB w g bs P base u L W) (hb : w.heap.size < base) :
    PrOk (W.setCell ⟨w.heap.size, 0, none⟩ u) w.heap.size u L ∧ Below w.heap.size w (W.setCell ⟨w.heap.size, 0, none⟩ u) ∧ (W.setCell ⟨w.heap.size, 0, none⟩ u).cell? ⟨w.heap.size, 0, none⟩ = some u :=
  ⟨h.pr.answered hb, h.bel.setCell (by simp) _, (oneCell (one_set' h.res u)).1⟩

end Go.Proofs.Ytnkalhdhmmdofaa
