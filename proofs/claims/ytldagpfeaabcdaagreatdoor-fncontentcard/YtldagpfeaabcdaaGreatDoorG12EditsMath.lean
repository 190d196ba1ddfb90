/-
 Put together out of: LawEdSt, OpenEdit, UndM, Und, EditsMath.
-/
import Derived.Test.YtldagpfeaabcdaaGreatDoorG11HeldProg
import Derived.BigRegion
namespace Go.Proofs.YtldagpfeaabcdaaGreatDoor
open Go.RowKit
set_option linter.unusedVariables false
set_option linter.unusedSimpArgs false
set_option maxHeartbeats 2000000
end Go.Proofs.YtldagpfeaabcdaaGreatDoor
namespace Go.Proofs.YtldagpfeaabcdaaGreatDoor
open Go.ChangeShapes Go.WideShapes Go.ChangeAt Go.RowKit
set_option linter.unusedVariables false
set_option maxRecDepth 100000
set_option maxHeartbeats 4000000
end Go.Proofs.YtldagpfeaabcdaaGreatDoor
namespace Go.Proofs.YtldagpfeaabcdaaGreatDoor
open Go.RowKit
set_option linter.unusedVariables false
set_option linter.unusedSimpArgs false
set_option maxHeartbeats 4000000
set_option maxRecDepth 20000
end Go.Proofs.YtldagpfeaabcdaaGreatDoor
namespace Go.Proofs.YtldagpfeaabcdaaGreatDoor
open Go.RowKit
set_option linter.unusedVariables false
set_option linter.unusedSimpArgs false
set_option maxHeartbeats 8000000
set_option maxRecDepth 20000
def zeroE : Edt := ⟨0, 0, 0, ⟨0, 0, 0⟩⟩
theorem six_set {w : World} {b : Nat} {T : TypeId} {x0 x1 x2 x3 x4 x5 : Value} (y0 y1 y2 y3 y4 y5 : Value) (h : w.heap[b]? = some (.cells #[x0, x1, x2, x3, x4, x5] T (0, 0))) :
 ((((((w.setCell ⟨b, 0, none⟩ y0).setCell ⟨b, 1, none⟩ y1).setCell ⟨b, 2, none⟩ y2).setCell ⟨b, 3, none⟩ y3).setCell ⟨b, 4, none⟩ y4).setCell ⟨b, 5, none⟩ y5).heap[b]? = some (.cells #[y0, y1, y2, y3, y4, y5] T (0, 0)) := by
 have h0 := heap_setCell_same w b 0 _ _ y0 h
 have h1 := heap_setCell_same _ b 1 _ _ y1 h0
 have h2 := heap_setCell_same _ b 2 _ _ y2 h1
 have h3 := heap_setCell_same _ b 3 _ _ y3 h2
 have h4 := heap_setCell_same _ b 4 _ _ y4 h3
 have h5 := heap_setCell_same _ b 5 _ _ y5 h4
 rw [h5]
 simp
structure UN (w : World) (ao : Option Addr) (n vcap : Nat) (k pr a sk sx sy : Int) (W : World) : Prop where
 p : W.heap[w.heap.size]? = some (.cells #[.slice ao n vcap] 26 (0, 0))
 e : W.heap[w.heap.size + 1]? = some (.cells #[.int .i64 k, .int .i64 pr, .int .i64 a, .int .i64 sk, .int .i64 sx, .int .i64 sy] 54 (0, 0))
 r : W.heap[w.heap.size + 1 + 1]? = some (.cells #[.int .i64 0, .int .i64 0, .int .i64 0, .int .i64 0, .int .i64 0, .int .i64 0] 54 (0, 0))
 below : Below w.heap.size w W
 size : w.heap.size + 3 ≤ W.heap.size
theorem UN.kept {w : World} {ao : Option Addr} {n vcap : Nat} {k pr a sk sx sy : Int} {W W' : World} {B : Nat} (h : UN w ao n vcap k pr a sk sx sy W) (hb : Below B W W') (hB : w.heap.size + 3 ≤ B) : UN w ao n vcap k pr a sk sx sy W' :=
 ⟨(hb.block _ (by omega)).trans h.p, (hb.block _ (by omega)).trans h.e, (hb.block _ (by omega)).trans h.r, h.below.trans (hb.mono (by omega)), Nat.le_trans h.size hb.size⟩
end Go.Proofs.YtldagpfeaabcdaaGreatDoor
namespace Go.Proofs.YtldagpfeaabcdaaGreatDoor
open Go.RowKit
set_option linter.unusedVariables false
set_option linter.unusedSimpArgs false
theorem jp7 {ps qs : List (List Stm)} {e : Edt} (h : jf2 ps e.k e.pr e.a e.s = some qs) : ja5 ps = true ∧ ja5 qs = true ∧ jn4 ps e.k e.pr e.a e.s = some qs := by
 unfold jf2 at h
 by_cases h1 : ja5 ps = true
 · rw [if_pos h1] at h
   cases h2 : jn4 ps e.k e.pr e.a e.s with
   | none => rw [h2] at h; cases h
   | some rs =>
    rw [h2] at h
    simp only at h
    by_cases h3 : ja5 rs = true
    · rw [if_pos h3] at h
      cases h
      exact ⟨h1, h3, rfl⟩
    · rw [if_neg h3] at h
      cases h
 · rw [if_neg h1] at h
   cases h
end Go.Proofs.YtldagpfeaabcdaaGreatDoor
