/-
  Put together out of: FlowImpl, SpecFlow.
-/
import Derived.Test.YtjdmmpdcafbneaaDoorG08FlowRel
import Derived.BigRegion
/-
  Chapter 7, the program's side: Flow.
-/
namespace Go.Proofs.YtjdmmpdcafbneaaDoor
open Go.RowKit
set_option linter.unusedVariables false
set_option maxHeartbeats 2000000
set_option maxRecDepth 4000

/-- What a statement does. -/
def flowL (c k x y : Int) : List Int :=
  if k = 2 then mkL unitL (factN x.toNat) (factN y.toNat)
  else if k = 3 then mkL unitL (factN x.toNat) (lor (factN x.toNat) (factN y.toNat))
  else if k = 4 then mkL unitL (factN x.toNat) 0
  else if k = 5 then mkL unitL (factN x.toNat) (if c = 1 then 1 else 0)
  else unitL

def flowAns (c k x y : Int) : List Int := if (c = 1 ∨ c = 2) ∧ stmtOk k x y = true then flowL c k x y else []

theorem flowL_length (c k x y : Int) : (flowL c k x y).length = 7 := by
  unfold flowL
  split
  · exact mkL_length _ _ _
  split
  · exact mkL_length _ _ _
  split
  · exact mkL_length _ _ _
  split
  · exact mkL_length _ _ _
  rfl

theorem inB_nat {x n : Int} (h : inB x 0 n = true) : ∃ i : Nat, x = i ∧ (i : Int) ≤ n := by
  simp [inB] at h
  exact ⟨x.toNat, by omega, by omega⟩

theorem stmtOk_xy {k x y : Int} (h : stmtOk k x y = true) (hk : k = 2 ∨ k = 3) : ∃ i j : Nat, x = i ∧ y = j ∧ i < 6 ∧ j < 6 := by
  have h1 : inB x 0 5 = true ∧ inB y 0 5 = true := by
    rcases hk with rfl | rfl <;> simpa [stmtOk] using h
  obtain ⟨i, rfl, hi⟩ := inB_nat h1.1
  obtain ⟨j, rfl, hj⟩ := inB_nat h1.2
  exact ⟨i, j, rfl, rfl, by omega, by omega⟩

theorem stmtOk_x {k x y : Int} (h : stmtOk k x y = true) (hk : k = 4 ∨ k = 5) : ∃ i : Nat, x = i ∧ i < 6 := by
  have h1 : inB x 0 5 = true ∧ inB y 0 0 = true := by
    rcases hk with rfl | rfl <;> simpa [stmtOk] using h
  obtain ⟨i, rfl, hi⟩ := inB_nat h1.1
  exact ⟨i, rfl, by omega⟩

theorem stmt_cells {W : World} {B : Nat} {k x y : Int} {t : TypeId} (q : W.heap[B]? = some (.cells #[.int .i64 k, .int .i64 x, .int .i64 y] t (0, 0))) :
    W.cell? ⟨B, 0, none⟩ = some (.int .i64 k) ∧ W.cell? ⟨B, 1, none⟩ = some (.int .i64 x) ∧ W.cell? ⟨B, 2, none⟩ = some (.int .i64 y) :=
  ⟨by rw [cell_of_row _ _ 0 _ _ (0, 0) q]; rfl, by rw [cell_of_row _ _ 1 _ _ (0, 0) q]; rfl, by rw [cell_of_row _ _ 2 _ _ (0, 0) q]; rfl⟩

theorem four_cells {W : World} {B : Nat} {v0 v1 v2 v3 : Value} {t : TypeId} (q : W.heap[B]? = some (.cells #[v0, v1, v2, v3] t (0, 0))) :
    W.cell? ⟨B, 0, none⟩ = some v0 ∧ W.cell? ⟨B, 1, none⟩ = some v1 ∧ W.cell? ⟨B, 2, none⟩ = some v2 ∧ W.cell? ⟨B, 3, none⟩ = some v3 :=
  ⟨by rw [cell_of_row _ _ 0 _ _ (0, 0) q]; rfl, by rw [cell_of_row _ _ 1 _ _ (0, 0) q]; rfl, by rw [cell_of_row _ _ 2 _ _ (0, 0) q]; rfl, by rw [cell_of_row _ _ 3 _ _ (0, 0) q]; rfl⟩

theorem flow_pre {w w1 : World} {o : Obj} (b1 : Below (w.alloc o).heap.size (w.alloc o) w1) : Below w.heap.size w w1 ∧ w1.heap[w.heap.size]? = some o := by
  have a1 : Below w.heap.size w (w.alloc o) := (Below.refl _ _).alloc (Nat.le_refl _) o
  exact ⟨a1.trans (b1.mono a1.size), (b1.block _ (by simp)).trans (heap_alloc_new w _)⟩

end Go.Proofs.YtjdmmpdcafbneaaDoor

/-
  Chapter 7, the specification's side: Start, Leave, Keep, Enter, Flow.
-/
namespace Go.Proofs.YtjdmmpdcafbneaaDoor
open Go.RowKit
set_option linter.unusedVariables false
set_option maxHeartbeats 2000000
set_option maxRecDepth 4000

/-- The block B holds these seven numbers. -/
abbrev IntAt (w : World) (B : Nat) (xs : List Int) : Prop := w.heap[B]? = some (.cells (ints xs).toArray 2 (0, 0))

theorem IntAt.cell {w : World} {B : Nat} {xs : List Int} (h : IntAt w B xs) (j : Nat) (hj : j < xs.length) : w.cell? ⟨B, j, none⟩ = some (.int .i64 (xs.getD j 0)) ∧ w.frozen? ⟨B, j, none⟩ = false := by
  refine ⟨?_, frozen_of_row w B j _ _ h⟩
  rw [cell_of_row w B j _ _ (0, 0) h]
  simp [ints, List.getD, hj]

theorem IntAt.set {w : World} {B : Nat} {xs : List Int} (h : IntAt w B xs) (j : Nat) (x : Int) : IntAt (w.setCell ⟨B, j, none⟩ (.int .i64 x)) B (xs.set j x) := by
  have := heap_setCell_same w B j _ _ (.int .i64 x) h
  show (w.setCell ⟨B, j, none⟩ (.int .i64 x)).heap[B]? = _
  rw [this]
  simp [ints, List.map_set]

theorem IntAt.lt {w : World} {B : Nat} {xs : List Int} (h : IntAt w B xs) : B < w.heap.size := (Array.getElem?_eq_some_iff.1 h).1

theorem IntAt.own {w : World} {B : Nat} {xs : List Int} (h : IntAt w B xs) {base : Nat} (hb : base ≤ B) (hl : xs.length = 7) : w.ownsRow base 2 1 (.slice (some ⟨B, 0, none⟩) 7 7) 7 (ints xs) :=
  ⟨by simp [ints, hl], .inr ⟨B, 7, (ints xs).toArray, rfl, hb, h, by omega, by unfold maxLen; omega, by simp [ints, hl], by rw [List.toList_toArray, Nat.mul_one]; exact List.take_of_length_le (by simp [ints, hl])⟩⟩

theorem flow2_same (x : Nat) (hx : x < 6) : mkL unitL (factN x) (factN x) = unitL := by
  have hc : x = 0 ∨ x = 1 ∨ x = 2 ∨ x = 3 ∨ x = 4 ∨ x = 5 := by omega
  rcases hc with rfl | rfl | rfl | rfl | rfl | rfl <;> first | decide | kernel_rfl

theorem flow2_set (x y : Nat) (hx : x < 6) (hy : y < 6) (hn : ¬ x = y) : (unitL.set (x + 1) 0).set (y + 1) (bits .or .i64 ((unitL.set (x + 1) 0).getD (y + 1) 0) (2 * 2 ^ x)) = mkL unitL (factN x) (factN y) := by
  have hc : x = 0 ∨ x = 1 ∨ x = 2 ∨ x = 3 ∨ x = 4 ∨ x = 5 := by omega
  have hd : y = 0 ∨ y = 1 ∨ y = 2 ∨ y = 3 ∨ y = 4 ∨ y = 5 := by omega
  rcases hc with rfl | rfl | rfl | rfl | rfl | rfl <;> rcases hd with rfl | rfl | rfl | rfl | rfl | rfl <;> first | exact absurd rfl hn | decide

theorem wrap_bit (x : Nat) (hx : x < 6) : wrap64 (2 * 2 ^ x) = 2 * 2 ^ x := by
  unfold wrap64
  have hc : x = 0 ∨ x = 1 ∨ x = 2 ∨ x = 3 ∨ x = 4 ∨ x = 5 := by omega
  rcases hc with rfl | rfl | rfl | rfl | rfl | rfl <;> decide

theorem flow3_set (x y : Nat) (hx : x < 6) (hy : y < 6) : unitL.set (y + 1) (bits .or .i64 (unitL.getD (y + 1) 0) (2 * 2 ^ x)) = mkL unitL (factN x) (lor (factN x) (factN y)) := by
  have hc : x = 0 ∨ x = 1 ∨ x = 2 ∨ x = 3 ∨ x = 4 ∨ x = 5 := by omega
  have hd : y = 0 ∨ y = 1 ∨ y = 2 ∨ y = 3 ∨ y = 4 ∨ y = 5 := by omega
  rcases hc with rfl | rfl | rfl | rfl | rfl | rfl <;> rcases hd with rfl | rfl | rfl | rfl | rfl | rfl <;> decide

theorem flow4_set (x : Nat) (hx : x < 6) : unitL.set (x + 1) 0 = mkL unitL (factN x) 0 := by
  have hc : x = 0 ∨ x = 1 ∨ x = 2 ∨ x = 3 ∨ x = 4 ∨ x = 5 := by omega
  rcases hc with rfl | rfl | rfl | rfl | rfl | rfl <;> decide

theorem flow5_set (x : Nat) (hx : x < 6) : (unitL.set (x + 1) 0).set 0 (bits .or .i64 ((unitL.set (x + 1) 0).getD 0 0) (2 * 2 ^ x)) = mkL unitL (factN x) 1 := by
  have hc : x = 0 ∨ x = 1 ∨ x = 2 ∨ x = 3 ∨ x = 4 ∨ x = 5 := by omega
  rcases hc with rfl | rfl | rfl | rfl | rfl | rfl <;> decide

theorem stmtOk_x6 {k x y : Int} (h : stmtOk k x y = true) : ∃ i : Nat, x = i ∧ i < 6 := by
  have h1 : inB x 0 5 = true := by
    rcases kinds k with rfl | rfl | rfl | rfl | rfl | rfl | rfl | rfl | rfl | ⟨h1, h2, h3, h4, h5, h6, h7, h8, h9⟩
    all_goals simp [stmtOk, *] at h
    all_goals simp [inB] at h ⊢
    all_goals omega
  obtain ⟨i, rfl, hi⟩ := inB_nat h1
  exact ⟨i, rfl, by omega⟩

end Go.Proofs.YtjdmmpdcafbneaaDoor
