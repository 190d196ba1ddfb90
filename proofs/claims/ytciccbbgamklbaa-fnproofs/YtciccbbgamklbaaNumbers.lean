/-
  impl.numbersIn.
-/
import Derived.Test.YtciccbbgamklbaaG00RelA
namespace Go.Proofs.Ytciccbbgamklbaa
open Go.RowKit
set_option linter.unusedVariables false
set_option maxHeartbeats 1000000

/-- The numbers in a set, from i on. -/
def nums : List Bool → Int → List Int
  | [], _ => []
  | b :: bs, i => if b then i :: nums bs (i + 1) else nums bs (i + 1)

theorem nums_snoc : ∀ (bs : List Bool) (b : Bool) (i : Int), nums (bs ++ [b]) i = nums bs i ++ (if b then [i + bs.length] else [])
  | [], b, i => by cases b <;> simp [nums]
  | c :: bs, b, i => by
    have e : i + 1 + (bs.length : Int) = i + ((bs.length : Int) + 1) := by omega
    cases c <;> simp [nums, nums_snoc bs b (i + 1), e]

theorem nums_length : ∀ (bs : List Bool) (i : Int), (nums bs i).length ≤ bs.length
  | [], _ => by simp [nums]
  | b :: bs, i => by
    have := nums_length bs (i + 1)
    cases b <;> simp [nums] <;> omega

end Go.Proofs.Ytciccbbgamklbaa
