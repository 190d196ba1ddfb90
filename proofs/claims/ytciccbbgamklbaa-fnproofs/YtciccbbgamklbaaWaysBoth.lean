/-
  Ways, both sides.
-/
import Derived.Test.YtciccbbgamklbaaImplWays3
import Derived.Test.YtciccbbgamklbaaMarkedB
namespace Go.Proofs.Ytciccbbgamklbaa

theorem waysTo_mem {ss : List Stm} (hp : procOk ss = true) (i : Int) : ∀ (M : Nat) (xs : List Int), xs ∈ waysTo ss i M → xs.length ≤ M
  | 0, xs, h => by simp [waysTo] at h
  | M + 1, xs, h => by
    rw [waysTo, List.mem_append] at h
    rcases h with h | h
    · have := waysTo_mem hp i M xs h; omega
    · have := (levs_mem hp M xs (List.mem_filter.1 h).1).1
      omega

theorem waysTo_size (ss : List Stm) (i : Int) (M : Nat) (hM : M ≤ 9) : (waysTo ss i M).length ≤ 512 * M := by
  rw [← allTo_filter]
  exact Nat.le_trans (List.length_filter_le _ _) (allTo_len ss M hM)

theorem waysAns_length (ss : List Stm) (i most : Int) : (waysAns ss i most).length ≤ 5000 := by
  unfold waysAns
  split
  · rename_i h
    simp [inB] at h
    have := waysTo_size ss i most.toNat (by omega)
    omega
  · simp

theorem waysAns_each {ss : List Stm} {i most : Int} {xs : List Int} (h : xs ∈ waysAns ss i most) : xs.length ≤ 10 := by
  unfold waysAns at h
  split at h
  · rename_i hh
    simp [inB] at hh
    have hok : procOk ss = true := by
      cases hp : procOk ss
      · simp [hasS, hp] at hh
      · rfl
    have := waysTo_mem hok i most.toNat xs h
    omega
  · simp at h

end Go.Proofs.Ytciccbbgamklbaa
