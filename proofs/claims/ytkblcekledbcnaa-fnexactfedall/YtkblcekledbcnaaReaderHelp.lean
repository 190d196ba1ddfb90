/-
  The laws' helpers over Readers: toReader, szReader, eqReader.
-/
import Derived.Test.YtkblcekledbcnaaBase
namespace Go.Proofs.Ytkblcekledbcnaa
open Go.RowKit
set_option linter.unusedVariables false
set_option maxHeartbeats 4000000

theorem toReader (a : ByteArray) (b : Bool) (w : World) :
    Calls Try.prog 23 #[.agg #[.string a, .bool b]] w fun e w' => e = .returned (.agg #[.string a, .bool b]) ∧ Below w.heap.size w w' := by
  go_enter Try.func23, Try.ntmps23
  go_wp2
  go_returns
  exact ⟨rfl, by go_grown⟩

theorem szReader (a : ByteArray) (ha : a.size ≤ maxLen) (b : Bool) (w : World) :
    Calls Try.prog 22 #[.agg #[.string a, .bool b], .int .i64 1048576] w fun e w' => e = .returned (.int .i64 (if (1048576 : Int) < (a.size : Int) then -1 else 1048576 - (a.size : Int))) ∧ Below w.heap.size w w' := by
  simp only [maxLen] at ha
  by_cases h : (1048576 : Int) < (a.size : Int)
  · rw [if_pos h]
    have hx : (decide (1048576 - (a.size : Int) < 0)) = true := by simp; omega
    go_enter Try.func22, Try.ntmps22
    go_wp2
    go_ret
    exact ⟨rfl, by go_grown⟩
  · rw [if_neg h]
    have hx : (decide (1048576 - (a.size : Int) < 0)) = false := by simp; omega
    go_enter Try.func22, Try.ntmps22
    go_wp2
    go_ret
    exact ⟨rfl, by go_grown⟩

theorem eqReader (a : ByteArray) (b : Bool) (w : World) :
    Calls Try.prog 24 #[.agg #[.string a, .bool b], .agg #[.string a, .bool b]] w fun e w' => e = .returned (.bool true) ∧ Below w.heap.size w w' := by
  go_enter Try.func24, Try.ntmps24
  go_wp2
  go_ret
  exact ⟨rfl, by go_grown⟩

end Go.Proofs.Ytkblcekledbcnaa
