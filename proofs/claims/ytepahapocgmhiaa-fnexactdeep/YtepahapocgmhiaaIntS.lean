/-
  Slices of int64: eqInt64S, markInt64S, heldInt64S, l1Has, l1Put.
-/
import Derived.Test.YtepahapocgmhiaaStmts
namespace Go.Proofs.Ytepahapocgmhiaa
open Go.RowKit
set_option linter.unusedVariables false
set_option maxHeartbeats 1000000

def ints (xs : List Int) : List Value := xs.map (.int .i64)

theorem ints_length (xs : List Int) : (ints xs).length = xs.length := by simp [ints]


/-- The marks that markInt64S lays from k on. -/
def markI (k : Int) : Nat → List Value
  | 0 => []
  | n + 1 => .int .i64 k :: markI (k + 1) n

theorem markI_length : ∀ (n : Nat) (k : Int), (markI k n).length = n
  | 0, _ => rfl
  | n + 1, k => by simp [markI, markI_length n]

theorem markI_get : ∀ (n : Nat) (k : Int) (j : Nat), j < n → (markI k n)[j]? = some (.int .i64 (k + j))
  | 0, _, _, h => absurd h (by omega)
  | n + 1, k, 0, _ => by simp [markI]
  | n + 1, k, j + 1, h => by
    rw [markI, List.getElem?_cons_succ, markI_get n (k + 1) j (by omega)]
    congr 2
    push_cast
    omega



end Go.Proofs.Ytepahapocgmhiaa
