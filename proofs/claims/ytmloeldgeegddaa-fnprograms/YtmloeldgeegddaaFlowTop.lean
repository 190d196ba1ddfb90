/-
  Chapter 7, the program's side: Enter, Leave, Keep, Start, Flow.
-/
import Derived.Test.YtmloeldgeegddaaFlowM
import Derived.Laws.EntriesVeiled
namespace Go.Proofs.Ytmloeldgeegddaa
set_option maxRecDepth 20000
open Go.RowKit
set_option linter.unusedVariables false
set_option maxHeartbeats 1000000

def leaveL : List Int := [1, 2, 4, 8, 0, 0, 0]
def keepL : List Int := [1, 0, 0, 0, 16, 32, 64]
def enterAns (c : Int) : List Int := if c = 1 then leaveL else if c = 2 then [113, 2, 4, 8, 0, 0, 0] else []
def startAns (c : Int) : Int := if c = 1 then 1 else if c = 2 then 127 else -1

theorem only15 : onlyL 15 = leaveL := by decide
theorem only113 : onlyL 113 = keepL := by decide

/-- Seven cells that are new, and what is stored there. -/
abbrev fresh7 (w : World) : World := w.alloc (.cells #[.int .i64 0, .int .i64 0, .int .i64 0, .int .i64 0, .int .i64 0, .int .i64 0, .int .i64 0] 95)

theorem fresh_at (w : World) : RelAt (fresh7 w) w.heap.size (List.replicate 7 0) := heap_alloc_new w _

theorem fresh_there (w : World) : (fresh7 w).there w.heap.size 0 7 := by simpa using (fresh_at w).there

theorem fresh_rel (w : World) (zs : List Int) (h : zs.length = 7) : RelAt ((fresh7 w).setCells w.heap.size 0 (ints zs)) w.heap.size zs := RelAt.store (fresh_at w) (by simpa using h)

theorem fresh_below {base : Nat} {w0 w : World} (hb : Below base w0 w) (h : base ≤ w.heap.size) (vs : List Value) : Below base w0 ((fresh7 w).setCells w.heap.size 0 vs) := by
  have h1 : Below base w0 (fresh7 w) := hb.alloc h _
  exact h1.grown (grown_setCells7 _ _ _ _) (by simp; omega) (fun k hk => by simp at hk; omega)

/-- A client's flows, as a value. -/
def flowsV (m : Nat) : Value := .agg #[.func (.func 117) #[] #[], .func (.func 118) #[] #[], .func (.func 119) #[] #[], .func (.func m) #[] #[]]

theorem flowsOf1 (w : World) : Calls Try.prog 98 #[.int .i64 1] w fun e w' => e = .returned (.tuple #[flowsV 120, .bool true]) ∧ Below w.heap.size w w' := by
  go_enter Try.func98, Try.ntmps98
  go_wp2
  go_returns
  exact ⟨rfl, by go_grown⟩

theorem flowsOf2 (w : World) : Calls Try.prog 98 #[.int .i64 2] w fun e w' => e = .returned (.tuple #[flowsV 119, .bool true]) ∧ Below w.heap.size w w' := by
  go_enter Try.func98, Try.ntmps98
  go_wp2
  go_returns
  exact ⟨rfl, by go_grown⟩

theorem flowsOfNo (c : Int) (h1 : ¬ c = 1) (h2 : ¬ c = 2) (w : World) : Calls Try.prog 98 #[.int .i64 c] w fun e w' => e = .returned (.tuple #[.agg #[.nilFunc, .nilFunc, .nilFunc, .nilFunc], .bool false]) ∧ Below w.heap.size w w' := by
  go_enter Try.func98, Try.ntmps98
  go_wp2
  go_returns
  exact ⟨rfl, by go_grown⟩

theorem factOfY (k x : Int) (y : Nat) (hy : y < 6) (w : World) : Calls Try.prog 117 #[.agg #[.int .i64 k, .int .i64 x, .int .i64 y]] w fun e w' => e = .returned (.int .i64 (factN y)) ∧ Below w.heap.size w w' := by
  have hf := fun W => factOf y hy W
  go_enter Try.func117, Try.ntmps117
  go_wp2_with fail
  go_at_call 123
  refine (hf _).mono ?_
  rintro e w1 ⟨rfl, rfl⟩
  go_wp2
  go_ret
  exact ⟨rfl, by go_grown⟩

theorem factsOfXAndY (k : Int) (x y : Nat) (hx : x < 6) (hy : y < 6) (w : World) : Calls Try.prog 118 #[.agg #[.int .i64 k, .int .i64 x, .int .i64 y]] w fun e w' => e = .returned (.int .i64 (lor (factN x) (factN y))) ∧ Below w.heap.size w w' := by
  have hf := fun W => factOf x hx W
  have hg := fun W => factOf y hy W
  go_enter Try.func118, Try.ntmps118
  go_wp2_with fail
  go_region_with (first
    | (go_at_call 123; refine (hf _).mono ?_; rintro e w1 ⟨rfl, rfl⟩)
    | (go_at_call 123; refine (hg _).mono ?_; rintro e w1 ⟨rfl, rfl⟩))
  all_goals
    go_wp2
    go_ret
    exact ⟨rfl, by go_grown⟩

theorem noFact (k x y : Int) (w : World) : Calls Try.prog 119 #[.agg #[.int .i64 k, .int .i64 x, .int .i64 y]] w fun e w' => e = .returned (.int .i64 0) ∧ Below w.heap.size w w' := by
  go_enter Try.func119, Try.ntmps119
  go_wp2
  go_ret
  exact ⟨rfl, by go_grown⟩

theorem factThatAlwaysHolds (k x y : Int) (w : World) : Calls Try.prog 120 #[.agg #[.int .i64 k, .int .i64 x, .int .i64 y]] w fun e w' => e = .returned (.int .i64 1) ∧ Below w.heap.size w w' := by
  go_enter Try.func120, Try.ntmps120
  go_wp2
  go_ret
  exact ⟨rfl, by go_grown⟩

end Go.Proofs.Ytmloeldgeegddaa
