/-
  == of two statements, of two Edits.
-/
import Derived.Test.YtocdcmdllacgnaaCloned
namespace Go.Proofs.Ytocdcmdllacgnaa
open Go.RowKit
set_option maxRecDepth 20000
set_option maxHeartbeats 1000000
set_option linter.unusedVariables false
set_option linter.unusedSimpArgs false

theorem equal_stmtD (d : Nat) (w : World) (a b c x y z : Int) : (Op.equalIn (d + 1 + 1) 28 (.agg #[.int .i64 a, .int .i64 b, .int .i64 c]) (.agg #[.int .i64 x, .int .i64 y, .int .i64 z])).run Try.prog w = .ok (decide (a = x) && decide (b = y) && decide (c = z)) w := by
  have u3 := Try.underlying2
  have hS : Try.prog.underlying 28 = some (.struct (Try.prog.fieldsOf 28)) := by kernel_rfl
  rw [run_equalIn_struct w (d + 1) 28 _ _ hS (by kernel_rfl)]
  simp only [Program.fieldsOf, Try.underlying28]
  go_simp
  by_cases h1 : a = x <;> by_cases h2 : b = y <;> by_cases h3 : c = z <;> simp [h1, h2, h3]

theorem equal_stmt (w : World) (a b c x y z : Int) : (Op.equalIn 10000 28 (.agg #[.int .i64 a, .int .i64 b, .int .i64 c]) (.agg #[.int .i64 x, .int .i64 y, .int .i64 z])).run Try.prog w = .ok (decide (a = x) && decide (b = y) && decide (c = z)) w := equal_stmtD 9998 w a b c x y z

theorem equal_edit (w : World) (k p q a b c k' p' q' x y z : Int) : (Op.equalIn 10000 30 (.agg #[.int .i64 k, .int .i64 p, .int .i64 q, .int .i64 a, .int .i64 b, .int .i64 c]) (.agg #[.int .i64 k', .int .i64 p', .int .i64 q', .int .i64 x, .int .i64 y, .int .i64 z])).run Try.prog w = .ok (decide (k = k') && decide (p = p') && decide (q = q') && (decide (a = x) && decide (b = y) && decide (c = z))) w := by
  have u3 := Try.underlying2
  have hE := equal_stmtD 9997 w a b c x y z
  have hS : Try.prog.underlying 30 = some (.struct (Try.prog.fieldsOf 30)) := by kernel_rfl
  rw [show (10000 : Nat) = 9999 + 1 from rfl, run_equalIn_struct w 9999 30 _ _ hS (by kernel_rfl)]
  simp only [Program.fieldsOf, Try.underlying30]
  go_simp
  by_cases h1 : k = k' <;> by_cases h2 : p = p' <;> by_cases h3 : q = q' <;> by_cases h4 : a = x <;> by_cases h5 : b = y <;> by_cases h6 : c = z <;> simp [h1, h2, h3, h4, h5, h6]

end Go.Proofs.Ytocdcmdllacgnaa
