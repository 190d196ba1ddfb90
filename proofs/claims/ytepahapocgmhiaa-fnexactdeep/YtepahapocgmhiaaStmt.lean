/-
  Chapter 3: l1In, within, toStmt, spec.StmtOk, impl.StmtOk: what both answer of a statement.
-/
import Derived.Test.YtepahapocgmhiaaBase
namespace Go.Proofs.Ytepahapocgmhiaa
open Go.RowKit
set_option linter.unusedVariables false
set_option maxHeartbeats 4000000

/-- Is it from lo to hi? -/
def inB (x lo hi : Int) : Bool := decide (lo ≤ x) && decide (x ≤ hi)

theorem l1In (x lo hi : Int) (w : World) :
    Calls Try.prog 62 #[.int .i64 x, .int .i64 lo, .int .i64 hi] w fun e w' => e = .returned (.bool (inB x lo hi)) ∧ w = w' := by
  unfold inB
  by_cases h : lo ≤ x
  · have h' : decide (lo ≤ x) = true := by simpa using h
    go_enter Try.func62, Try.ntmps62
    go_wp2
    go_ret
    exact ⟨by simp [h], rfl⟩
  · have h' : decide (lo ≤ x) = false := by simpa using h
    go_enter Try.func62, Try.ntmps62
    go_wp2
    go_ret
    exact ⟨by simp, rfl⟩

/-- Is it below n, and not below 0? -/
def wiB (x n : Int) : Bool := decide (0 ≤ x) && decide (x < n)

/-- What both answer of a statement. -/
def stmtOk (k x y : Int) : Bool :=
  if k = 1 ∨ k = 9 then inB x 0 0 && inB y 0 0
  else if k = 2 ∨ k = 3 then inB x 0 5 && inB y 0 5
  else if k = 4 ∨ k = 5 ∨ k = 6 then inB x 0 5 && inB y 0 0
  else if k = 7 then inB x 0 0 && inB y 0 11
  else if k = 8 then inB x 0 0 && inB y 0 3
  else false

theorem inB_nil (x : Int) : inB x 0 0 = (x == 0) := by
  unfold inB
  rw [Bool.eq_iff_iff]
  simp
  omega

theorem inB_wi (x n : Int) : inB x 0 n = wiB x (n + 1) := by
  unfold inB wiB
  rw [Bool.eq_iff_iff]
  simp
  omega

theorem kinds (k : Int) : k = 1 ∨ k = 2 ∨ k = 3 ∨ k = 4 ∨ k = 5 ∨ k = 6 ∨ k = 7 ∨ k = 8 ∨ k = 9 ∨ (k ≠ 1 ∧ k ≠ 2 ∧ k ≠ 3 ∧ k ≠ 4 ∧ k ≠ 5 ∧ k ≠ 6 ∧ k ≠ 7 ∧ k ≠ 8 ∧ k ≠ 9) := by omega

end Go.Proofs.Ytepahapocgmhiaa
