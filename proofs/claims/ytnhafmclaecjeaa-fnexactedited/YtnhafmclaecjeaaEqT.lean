/-
  == of two statements, of two Edits.
-/
import Derived.Test.YtnhafmclaecjeaaCloned
namespace Go.Proofs.Ytnhafmclaecjeaa
open Go.RowKit
set_option maxRecDepth 20000
set_option maxHeartbeats 1000000
set_option linter.unusedVariables false
set_option linter.unusedSimpArgs false

theorem equal_stmtD (d : Nat) (w : World) (a b c x y z : Int) : (Op.equalIn (d + 1 + 1) 36 (.agg #[.int .i64 a, .int .i64 b, .int .i64 c]) (.agg #[.int .i64 x, .int .i64 y, .int .i64 z])).run Try.prog w = .ok (decide (a = x) && decide (b = y) && decide (c = z)) w := by
  have u3 := Try.underlying2
  have hS : Try.prog.underlying 36 = some (.struct (Try.prog.fieldsOf 36)) := by kernel_rfl
  rw [run_equalIn_struct w (d + 1) 36 _ _ hS (by kernel_rfl)]
  simp only [Program.fieldsOf, Try.underlying36]
  go_simp
  by_cases h1 : a = x <;> by_cases h2 : b = y <;> by_cases h3 : c = z <;> simp [h1, h2, h3]

theorem equal_stmt (w : World) (a b c x y z : Int) : (Op.equalIn 10000 36 (.agg #[.int .i64 a, .int .i64 b, .int .i64 c]) (.agg #[.int .i64 x, .int .i64 y, .int .i64 z])).run Try.prog w = .ok (decide (a = x) && decide (b = y) && decide (c = z)) w := equal_stmtD 9998 w a b c x y z

theorem equal_edit (w : World) (k p q a b c k' p' q' x y z : Int) : (Op.equalIn 10000 38 (.agg #[.int .i64 k, .int .i64 p, .int .i64 q, .int .i64 a, .int .i64 b, .int .i64 c]) (.agg #[.int .i64 k', .int .i64 p', .int .i64 q', .int .i64 x, .int .i64 y, .int .i64 z])).run Try.prog w = .ok (decide (k = k') && decide (p = p') && decide (q = q') && (decide (a = x) && decide (b = y) && decide (c = z))) w := by
  have u3 := Try.underlying2
  have hE := equal_stmtD 9997 w a b c x y z
  have hS : Try.prog.underlying 38 = some (.struct (Try.prog.fieldsOf 38)) := by kernel_rfl
  rw [show (10000 : Nat) = 9999 + 1 from rfl, run_equalIn_struct w 9999 38 _ _ hS (by kernel_rfl)]
  simp only [Program.fieldsOf, Try.underlying38]
  go_simp
  by_cases h1 : k = k' <;> by_cases h2 : p = p' <;> by_cases h3 : q = q' <;> by_cases h4 : a = x <;> by_cases h5 : b = y <;> by_cases h6 : c = z <;> simp [h1, h2, h3, h4, h5, h6]

end Go.Proofs.Ytnhafmclaecjeaa
