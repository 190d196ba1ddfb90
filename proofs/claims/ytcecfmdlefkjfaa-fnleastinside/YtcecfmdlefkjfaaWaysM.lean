/-
  Mathematics: all ways, level by level.
-/
import Derived.Test.YtcecfmdlefkjfaaBfs
namespace Go.Proofs.Ytcecfmdlefkjfaa
set_option linter.unusedVariables false

def lastI (way : List Int) : Int := way.getD (way.length - 1) 0

theorem lastI_snoc (way : List Int) (y : Int) : lastI (way ++ [y]) = y := by simp [lastI, List.getD]

def grow1 (ss : List Stm) (way : List Int) : List (List Int) := (nx ss (lastI way).toNat).map (fun y => way ++ [y])

def levs (ss : List Stm) : Nat → List (List Int)
  | 0 => [[0]]
  | k + 1 => (levs ss k).flatMap (grow1 ss)

def waysTo (ss : List Stm) (i : Int) : Nat → List (List Int)
  | 0 => []
  | k + 1 => waysTo ss i k ++ (levs ss k).filter (fun way => decide (lastI way = i))

theorem levs_mem {ss : List Stm} (hp : procOk ss = true) : ∀ (k : Nat) (way : List Int), way ∈ levs ss k → way.length = k + 1 ∧ ∃ j : Nat, lastI way = (j : Int) ∧ j < ss.length
  | 0, way, h => by
    simp [levs] at h
    subst h
    exact ⟨rfl, 0, rfl, (procOk_parts hp).1⟩
  | k + 1, way, h => by
    simp only [levs, List.mem_flatMap, grow1, List.mem_map] at h
    obtain ⟨w0, h0, y, hy, rfl⟩ := h
    obtain ⟨hl, j, hj, hlt⟩ := levs_mem hp k w0 h0
    rw [hj, Int.toNat_natCast] at hy
    refine ⟨by simp [hl], ?_⟩
    rw [lastI_snoc]
    exact nx_in hp hlt y hy

theorem grow1_len (ss : List Stm) (way : List Int) : (grow1 ss way).length ≤ 2 := by
  simp only [grow1, List.length_map]
  exact nextsS_length _ _

theorem flat_len (ss : List Stm) : ∀ l : List (List Int), (l.flatMap (grow1 ss)).length ≤ 2 * l.length
  | [] => by simp
  | x :: l => by
    have := flat_len ss l
    have := grow1_len ss x
    simp only [List.flatMap_cons, List.length_append, List.length_cons]
    omega

theorem levs_len (ss : List Stm) : ∀ k : Nat, (levs ss k).length ≤ 2 ^ k
  | 0 => by simp [levs]
  | k + 1 => by
    have h1 := levs_len ss k
    have h2 := flat_len ss (levs ss k)
    show ((levs ss k).flatMap (grow1 ss)).length ≤ 2 ^ (k + 1)
    rw [Nat.pow_succ]
    omega

theorem levs_small (ss : List Stm) (k : Nat) (h : k ≤ 9) : (levs ss k).length ≤ 512 := by
  refine Nat.le_trans (levs_len ss k) ?_
  exact Nat.le_trans (Nat.pow_le_pow_right (by omega) h) (by decide)

theorem waysTo_small (ss : List Stm) (i : Int) : ∀ k : Nat, k ≤ 9 → (waysTo ss i k).length ≤ 512 * k
  | 0, _ => by simp [waysTo]
  | k + 1, h => by
    have h1 := waysTo_small ss i k (by omega)
    have h2 := levs_small ss k (by omega)
    have h3 := List.length_filter_le (fun way => decide (lastI way = i)) (levs ss k)
    simp only [waysTo, List.length_append]
    omega

end Go.Proofs.Ytcecfmdlefkjfaa
