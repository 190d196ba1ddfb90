/-
  spec.l13Do: a statement in place of another.
-/
import Derived.Test.YtbbcbfhijmhnkaaDoorDo13M
import Derived.BigRegion
namespace Go.Proofs.YtbbcbfhijmhnkaaDoor
open Go.RowKit
set_option linter.unusedVariables false
set_option linter.unusedSimpArgs false
set_option maxHeartbeats 8000000
set_option maxRecDepth 20000

theorem cells3_set3 : ∀ (L : List Stm) (j : Nat) (k x y : Int), j < L.length → (((cells3 L).set (j * 3) (.int .i64 k)).set (j * 3 + 1) (.int .i64 x)).set (j * 3 + 2) (.int .i64 y) = cells3 (L.set j ⟨k, x, y⟩)
  | [], j, k, x, y, h => by simp at h
  | t :: L, 0, k, x, y, h => rfl
  | t :: L, j + 1, k, x, y, h => by
    have ih := cells3_set3 L j k x y (by simpa using h)
    have e1 : (j + 1) * 3 = j * 3 + 1 + 1 + 1 := by omega
    have e2 : (j + 1) * 3 + 1 = j * 3 + 1 + 1 + 1 + 1 := by omega
    have e3 : (j + 1) * 3 + 2 = j * 3 + 2 + 1 + 1 + 1 := by omega
    rw [e2, e3, e1]
    simp only [cells3, List.set_cons_succ, ih]

theorem edSet_eq (p : List Stm) (j : Nat) (s : Stm) (h : j < p.length) : edSet p j s = p.set j s := by
  unfold edSet
  rw [List.set_eq_take_append_cons_drop, if_pos h]

theorem own_set3 {w : World} {base g m c j : Nat} {p : List Stm} (h : w.ownsRow base 36 3 (.slice (some ⟨g, 0, none⟩) m c) m (cells3 p)) (hm : p.length = m) (hj : j < m) (k x y : Int) :
    (((w.setCell ⟨g, j * 3, none⟩ (.int .i64 k)).setCell ⟨g, j * 3 + 1, none⟩ (.int .i64 x)).setCell ⟨g, j * 3 + 2, none⟩ (.int .i64 y)).ownsRow base 36 3 (.slice (some ⟨g, 0, none⟩) m c) m (cells3 (edSet p j ⟨k, x, y⟩)) := by
  have h3 := (((h.stored (j * 3) (.int .i64 k)).1.stored (j * 3 + 1) (.int .i64 x)).1.stored (j * 3 + 2) (.int .i64 y)).1
  rw [cells3_set3 p j k x y (by omega)] at h3
  rw [edSet_eq _ _ _ (by omega)]
  exact h3

end Go.Proofs.YtbbcbfhijmhnkaaDoor
