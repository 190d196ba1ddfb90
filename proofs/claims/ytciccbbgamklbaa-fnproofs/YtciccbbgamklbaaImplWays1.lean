/-
  impl.waysUpTo: the iterator's contract.
-/
import Derived.Test.YtciccbbgamklbaaWaysIt
namespace Go.Proofs.Ytciccbbgamklbaa
open Go.RowKit Go.Shelf
set_option linter.unusedVariables false
set_option maxHeartbeats 4000000
attribute [local go_sem] Oper.semAt_some

def nTo' (ss : List Stm) (m c : Nat) : List (List Int) := ((levs ss m).take c).flatMap (grow1 ss)

theorem nTo'_all (ss : List Stm) (m : Nat) : nTo' ss m (levs ss m).length = levs ss (m + 1) := by simp [nTo', levs]
theorem nTo'_next (ss : List Stm) (m c : Nat) (hc : c < (levs ss m).length) : nTo' ss m (c + 1) = nTo' ss m c ++ grow1 ss (levs ss m)[c] := by
  unfold nTo'
  rw [List.take_succ_eq_append_getElem hc, List.flatMap_append]
  simp

/-- All ways of at most m statements. -/
def allTo (ss : List Stm) : Nat → List (List Int)
  | 0 => []
  | k + 1 => allTo ss k ++ levs ss k

theorem allTo_len (ss : List Stm) : ∀ k, k ≤ 9 → (allTo ss k).length ≤ 512 * k
  | 0, _ => by simp [allTo]
  | k + 1, h => by
    have h1 := allTo_len ss k (by omega)
    have h2 := levs_small ss k (by omega)
    simp only [allTo, List.length_append]
    omega

/-- What the iterator tells of a way that it hands over. -/
def WG (x : Value × List Int) (f : Nat → Prop) (W : World) : Prop := Reads W x.1 (ints x.2) ∧ (∀ k, x.1.ownBlock = some k → ¬ f k) ∧ 0 < x.2.length ∧ x.2.length ≤ 10

end Go.Proofs.Ytciccbbgamklbaa
