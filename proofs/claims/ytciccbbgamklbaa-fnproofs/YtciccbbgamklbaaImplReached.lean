/-
  impl.nearestFirst as a function, impl.Reached.
-/
import Derived.Test.YtciccbbgamklbaaNearest
import Derived.Test.YtciccbbgamklbaaNumbers
namespace Go.Proofs.Ytciccbbgamklbaa
open Go.RowKit Go.Shelf
set_option linter.unusedVariables false
set_option maxHeartbeats 2000000
attribute [local go_sem] Oper.semAt_some

theorem mem_nums : ∀ (bs : List Bool) (i : Int) (x : Int), x ∈ nums bs i ↔ ∃ j : Nat, x = i + j ∧ bs.getD j false = true
  | [], i, x => by simp [nums]
  | b :: bs, i, x => by
    have ih := mem_nums bs (i + 1) x
    have key : (∃ j : Nat, x = i + j ∧ (b :: bs).getD j false = true) ↔ (x = i ∧ b = true) ∨ ∃ j : Nat, x = i + 1 + j ∧ bs.getD j false = true := by
      constructor
      · rintro ⟨j, hj, hb⟩
        cases j with
        | zero => exact .inl ⟨by omega, by simpa using hb⟩
        | succ j => exact .inr ⟨j, by omega, by simpa using hb⟩
      · rintro (⟨h, hb⟩ | ⟨j, hj, hb⟩)
        · exact ⟨0, by omega, by simpa using hb⟩
        · exact ⟨j + 1, by omega, by simpa using hb⟩
    rw [key, ← ih]
    cases b <;> simp [nums]

theorem nums_sorted : ∀ (bs : List Bool) (i : Int), (nums bs i).Pairwise (· < ·)
  | [], i => by simp [nums]
  | b :: bs, i => by
    have ih := nums_sorted bs (i + 1)
    cases b
    · simpa [nums] using ih
    · simp only [nums, if_true, List.pairwise_cons]
      refine ⟨fun y hy => ?_, ih⟩
      obtain ⟨j, rfl, _⟩ := (mem_nums bs (i + 1) y).1 hy
      omega

def bools (bs : List Bool) : List Value := bs.map .bool

theorem bools_set {w : World} {B : Nat} {t : TypeId} {bs : List Bool} (h : w.heap[B]? = some (.cells (bools bs).toArray t (0, 0))) (j : Nat) (x : Bool) : (w.setCell ⟨B, j, none⟩ (.bool x)).heap[B]? = some (.cells (bools (bs.set j x)).toArray t (0, 0)) := by
  have := heap_setCell_same w B j _ t (.bool x) h
  rw [this]
  simp [bools, List.map_set]

theorem bools_cell {w : World} {B : Nat} {t : TypeId} {bs : List Bool} (h : w.heap[B]? = some (.cells (bools bs).toArray t (0, 0))) (j : Nat) (hj : j < bs.length) : w.cell? ⟨B, j, none⟩ = some (.bool (bs.getD j false)) ∧ w.frozen? ⟨B, j, none⟩ = false := by
  refine ⟨?_, frozen_of_row w B j _ t h⟩
  rw [cell_of_row w B j _ t (0, 0) h]
  simp [bools, hj, List.getD]

theorem getDB_set (bs : List Bool) (j i : Nat) (x : Bool) (hj : j < bs.length) : (bs.set j x).getD i false = if i = j then x else bs.getD i false := by
  simp only [List.getD, List.getElem?_set]
  by_cases h : j = i
  · subst h; simp [hj]
  · rw [if_neg h, if_neg (fun e => h e.symm)]

end Go.Proofs.Ytciccbbgamklbaa
