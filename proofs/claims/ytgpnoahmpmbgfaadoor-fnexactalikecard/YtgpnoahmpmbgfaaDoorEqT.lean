/-
  == of two statements, of two Edits.
-/
import Derived.Test.YtgpnoahmpmbgfaaDoorCloned
namespace Go.Proofs.YtgpnoahmpmbgfaaDoor
open Go.RowKit
set_option maxRecDepth 20000
set_option maxHeartbeats 1000000
set_option linter.unusedVariables false
set_option linter.unusedSimpArgs false

theorem equal_stmtD (d : Nat) (w : World) (a b c x y z : Int) : (Op.equalIn (d + 1 + 1) 48 (.agg #[.int .i64 a, .int .i64 b, .int .i64 c]) (.agg #[.int .i64 x, .int .i64 y, .int .i64 z])).run Tryd.prog w = .ok (decide (a = x) && decide (b = y) && decide (c = z)) w := by
  have u3 := Tryd.underlying2
  have hS : Tryd.prog.underlying 48 = some (.struct (Tryd.prog.fieldsOf 48)) := by kernel_rfl
  rw [run_equalIn_struct w (d + 1) 48 _ _ hS (by kernel_rfl)]
  simp only [Program.fieldsOf, Tryd.underlying48]
  go_simp
  by_cases h1 : a = x <;> by_cases h2 : b = y <;> by_cases h3 : c = z <;> simp [h1, h2, h3]

theorem equal_stmt (w : World) (a b c x y z : Int) : (Op.equalIn 10000 48 (.agg #[.int .i64 a, .int .i64 b, .int .i64 c]) (.agg #[.int .i64 x, .int .i64 y, .int .i64 z])).run Tryd.prog w = .ok (decide (a = x) && decide (b = y) && decide (c = z)) w := equal_stmtD 9998 w a b c x y z

end Go.Proofs.YtgpnoahmpmbgfaaDoor
