/-
  Put together out of: EqT, EditOk.
-/
import Derived.Test.YtbbcbfhijmhnkaaDoorCloned
/-
  == of two statements, of two Edits.
-/
namespace Go.Proofs.YtbbcbfhijmhnkaaDoor
open Go.RowKit
set_option maxRecDepth 20000
set_option maxHeartbeats 1000000
set_option linter.unusedVariables false
set_option linter.unusedSimpArgs false

theorem equal_stmtD (d : Nat) (w : World) (a b c x y z : Int) : (Op.equalIn (d + 1 + 1) 36 (.agg #[.int .i64 a, .int .i64 b, .int .i64 c]) (.agg #[.int .i64 x, .int .i64 y, .int .i64 z])).run Tryd.prog w = .ok (decide (a = x) && decide (b = y) && decide (c = z)) w := by
  have u3 := Tryd.underlying2
  have hS : Tryd.prog.underlying 36 = some (.struct (Tryd.prog.fieldsOf 36)) := by kernel_rfl
  rw [run_equalIn_struct w (d + 1) 36 _ _ hS (by kernel_rfl)]
  simp only [Program.fieldsOf, Tryd.underlying36]
  go_simp
  by_cases h1 : a = x <;> by_cases h2 : b = y <;> by_cases h3 : c = z <;> simp [h1, h2, h3]

theorem equal_stmt (w : World) (a b c x y z : Int) : (Op.equalIn 10000 36 (.agg #[.int .i64 a, .int .i64 b, .int .i64 c]) (.agg #[.int .i64 x, .int .i64 y, .int .i64 z])).run Tryd.prog w = .ok (decide (a = x) && decide (b = y) && decide (c = z)) w := equal_stmtD 9998 w a b c x y z

end Go.Proofs.YtbbcbfhijmhnkaaDoor

/-
  impl.hasPlace, impl.editOk.
-/
namespace Go.Proofs.YtbbcbfhijmhnkaaDoor
open Go.RowKit
set_option linter.unusedVariables false
set_option linter.unusedSimpArgs false
set_option maxHeartbeats 4000000
set_option maxRecDepth 20000

/-- An Edit. -/
structure Edt where
  k : Int
  pr : Int
  a : Int
  s : Stm

def edV (e : Edt) : Value := .agg #[.int .i64 e.k, .int .i64 e.pr, .int .i64 e.a, .int .i64 e.s.k, .int .i64 e.s.x, .int .i64 e.s.y]

theorem edit_cells {w : World} {b : Nat} {x0 x1 x2 x3 x4 x5 : Value} {T : TypeId} (h : w.heap[b]? = some (.cells #[x0, x1, x2, x3, x4, x5] T (0, 0))) :
    w.cell? ⟨b, 3, none⟩ = some x3 ∧ w.cell? ⟨b, 4, none⟩ = some x4 ∧ w.cell? ⟨b, 5, none⟩ = some x5 := by
  refine ⟨?_, ?_, ?_⟩ <;> simp [World.cell?, h]
theorem edit_cells0 {w : World} {b : Nat} {x0 x1 x2 x3 x4 x5 : Value} {T : TypeId} (h : w.heap[b]? = some (.cells #[x0, x1, x2, x3, x4, x5] T (0, 0))) :
    w.cell? ⟨b, 0, none⟩ = some x0 ∧ w.cell? ⟨b, 1, none⟩ = some x1 ∧ w.cell? ⟨b, 2, none⟩ = some x2 := by
  refine ⟨?_, ?_, ?_⟩ <;> simp [World.cell?, h]

def placeB (ps : List (List Stm)) (pr a : Int) : Bool := wiB pr ps.length && wiB a (ps.getD pr.toNat []).length

theorem wiB_true {x n : Int} (h : wiB x n = true) : 0 ≤ x ∧ x < n := by unfold wiB at h; simpa using h

/-- What editOk answers. -/
def editB (ps : List (List Stm)) (e : Edt) : Bool :=
  if e.k = 1 ∨ e.k = 2 then placeB ps e.pr e.a
  else if e.k = 3 then placeB ps e.pr e.a && zeroS e.s
  else if e.k = 4 then decide (e.pr = 0) && decide (e.a = 0) && zeroS e.s
  else false

end Go.Proofs.YtbbcbfhijmhnkaaDoor
