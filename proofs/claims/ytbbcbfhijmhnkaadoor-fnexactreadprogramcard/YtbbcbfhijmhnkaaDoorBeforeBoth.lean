/-
  slices.Contains over int64; spec.Before, impl.Before.
-/
import Derived.Test.YtbbcbfhijmhnkaaDoorNexts
namespace Go.Proofs.YtbbcbfhijmhnkaaDoor
open Go.RowKit
set_option linter.unusedVariables false
set_option maxHeartbeats 1000000

def hasI (xs : List Int) (n : Int) : Bool := xs.any (fun x => decide (x = n))


/-- Of the first k statements, those behind which i may come. -/
def befN (ss : List Stm) (i : Int) : Nat → List Int
  | 0 => []
  | k + 1 => befN ss i k ++ (if hasI (nextsS (ss.getD k ⟨0, 0, 0⟩) k) i then [(k : Int)] else [])

theorem befN_lt (ss : List Stm) (i : Int) : ∀ (k : Nat) (x : Int), x ∈ befN ss i k → 0 ≤ x ∧ x < k
  | 0, x, h => by simp [befN] at h
  | k + 1, x, h => by
    unfold befN at h
    rw [List.mem_append] at h
    rcases h with h | h
    · have := befN_lt ss i k x h; omega
    · split at h
      · simp at h; omega
      · simp at h

theorem befN_length (ss : List Stm) (i : Int) : ∀ k : Nat, (befN ss i k).length ≤ k
  | 0 => by simp [befN]
  | k + 1 => by
    have := befN_length ss i k
    unfold befN
    rw [List.length_append]
    split
    · simp; omega
    · simp; omega

theorem ins_end (n : Int) : ∀ xs : List Int, (∀ x ∈ xs, x < n) → ins n xs = xs ++ [n]
  | [], _ => rfl
  | x :: xs, h => by
    rw [ins, if_pos (h x (by simp)), ins_end n xs (fun y hy => h y (by simp [hy]))]
    rfl

/-- What both answer. -/
def beforeAns (ss : List Stm) (i : Int) : List Int := if hasS ss i then befN ss i ss.length else []

theorem beforeAns_length (ss : List Stm) (i : Int) : (beforeAns ss i).length ≤ 12 := by
  unfold beforeAns
  cases h : hasS ss i
  · simp
  · rw [if_pos rfl]
    obtain ⟨hp, _⟩ := hasS_true h
    obtain ⟨_, h12, _⟩ := procOk_parts hp
    have := befN_length ss i ss.length
    omega

end Go.Proofs.YtbbcbfhijmhnkaaDoor
