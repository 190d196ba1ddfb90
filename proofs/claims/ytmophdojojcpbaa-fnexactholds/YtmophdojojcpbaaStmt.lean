/-
  Chapter 3: l1In, within, toStmt, spec.StmtOk, impl.StmtOk: what both answer of a statement.
-/
import Derived.Test.YtmophdojojcpbaaBase
namespace Go.Proofs.Ytmophdojojcpbaa
open Go.RowKit
set_option linter.unusedVariables false
set_option maxHeartbeats 4000000

/-- Is it from lo to hi? -/
def inB (x lo hi : Int) : Bool := decide (lo ≤ x) && decide (x ≤ hi)

theorem l1In (x lo hi : Int) (w : World) :
    Calls Try.prog 82 #[.int .i64 x, .int .i64 lo, .int .i64 hi] w fun e w' => e = .returned (.bool (inB x lo hi)) ∧ w = w' := by
  unfold inB
  by_cases h : lo ≤ x
  · have h' : decide (lo ≤ x) = true := by simpa using h
    go_enter Try.func82, Try.ntmps82
    go_wp2
    go_ret
    exact ⟨by simp [h], rfl⟩
  · have h' : decide (lo ≤ x) = false := by simpa using h
    go_enter Try.func82, Try.ntmps82
    go_wp2
    go_ret
    exact ⟨by simp, rfl⟩

/-- Is it below n, and not below 0? -/
def wiB (x n : Int) : Bool := decide (0 ≤ x) && decide (x < n)

theorem within (x n : Int) (w : World) :
    Calls Try.prog 54 #[.int .i64 x, .int .i64 n] w fun e w' => e = .returned (.bool (wiB x n)) ∧ w = w' := by
  unfold wiB
  by_cases h : 0 ≤ x
  · have h' : decide (0 ≤ x) = true := by simpa using h
    go_enter Try.func54, Try.ntmps54
    go_wp2
    go_ret
    exact ⟨by simp [h], rfl⟩
  · have h' : decide (0 ≤ x) = false := by simpa using h
    go_enter Try.func54, Try.ntmps54
    go_wp2
    go_ret
    exact ⟨by simp, rfl⟩

theorem toStmt (k x y : Int) (w : World) :
    Calls Try.prog 140 #[.agg #[.int .i64 k, .int .i64 x, .int .i64 y]] w fun e w' => e = .returned (.agg #[.int .i64 k, .int .i64 x, .int .i64 y]) ∧ Below w.heap.size w w' := by
  go_enter Try.func140, Try.ntmps140
  go_wp2
  go_returns
  exact ⟨rfl, by go_grown⟩

/-- What both answer of a statement. -/
def stmtOk (k x y : Int) : Bool :=
  if k = 1 ∨ k = 9 then inB x 0 0 && inB y 0 0
  else if k = 2 ∨ k = 3 then inB x 0 5 && inB y 0 5
  else if k = 4 ∨ k = 5 ∨ k = 6 then inB x 0 5 && inB y 0 0
  else if k = 7 then inB x 0 0 && inB y 0 11
  else if k = 8 then inB x 0 0 && inB y 0 3
  else false

theorem inB_nil (x : Int) : inB x 0 0 = (x == 0) := by
  unfold inB
  rw [Bool.eq_iff_iff]
  simp
  omega

theorem inB_wi (x n : Int) : inB x 0 n = wiB x (n + 1) := by
  unfold inB wiB
  rw [Bool.eq_iff_iff]
  simp
  omega

theorem kinds (k : Int) : k = 1 ∨ k = 2 ∨ k = 3 ∨ k = 4 ∨ k = 5 ∨ k = 6 ∨ k = 7 ∨ k = 8 ∨ k = 9 ∨ (k ≠ 1 ∧ k ≠ 2 ∧ k ≠ 3 ∧ k ≠ 4 ∧ k ≠ 5 ∧ k ≠ 6 ∧ k ≠ 7 ∧ k ≠ 8 ∧ k ≠ 9) := by omega

theorem specStmtOk (k x y : Int) (w : World) :
    Calls Try.prog 88 #[.agg #[.int .i64 k, .int .i64 x, .int .i64 y]] w fun e w' => e = .returned (.bool (stmtOk k x y)) ∧ Below w.heap.size w w' := by
  unfold stmtOk
  rw [inB_nil, inB_nil]
  rcases kinds k with rfl | rfl | rfl | rfl | rfl | rfl | rfl | rfl | rfl | ⟨h1, h2, h3, h4, h5, h6, h7, h8, h9⟩
  all_goals
    simp only [Int.reduceEq, or_false, or_true, or_self, if_true, if_false, *]
    first
      | cases hx : inB x 0 5
      | skip
    all_goals
      go_enter Try.func88, Try.ntmps88
      go_wp2_with (first | (go_at_call 82; refine (l1In _ _ _ _).mono ?_; rintro e w' ⟨rfl, rfl⟩))
      all_goals
        go_ret
        exact ⟨by simp [*], by go_grown⟩

theorem implStmtOk (k x y : Int) (w : World) :
    Calls Try.prog 128 #[.agg #[.int .i64 k, .int .i64 x, .int .i64 y]] w fun e w' => e = .returned (.bool (stmtOk k x y)) ∧ Below w.heap.size w w' := by
  unfold stmtOk
  rw [inB_wi, inB_wi, inB_wi, inB_wi, inB_wi, inB_wi]
  rcases kinds k with rfl | rfl | rfl | rfl | rfl | rfl | rfl | rfl | rfl | ⟨h1, h2, h3, h4, h5, h6, h7, h8, h9⟩
  all_goals
    simp only [Int.reduceEq, or_false, or_true, or_self, if_true, if_false, Int.reduceAdd, Int.zero_add, *]
    first
      | (cases hx : wiB x 1)
      | (cases hx : wiB x 6)
      | skip
    all_goals
      go_enter Try.func128, Try.ntmps128
      go_wp2_with (first | (go_at_call 54; refine (within _ _ _).mono ?_; rintro e w' ⟨rfl, rfl⟩))
      all_goals
        go_ret
        exact ⟨by simp [*], by go_grown⟩

end Go.Proofs.Ytmophdojojcpbaa
