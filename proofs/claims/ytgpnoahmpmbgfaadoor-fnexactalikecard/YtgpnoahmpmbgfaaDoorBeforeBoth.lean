/-
  slices.Contains over int64; spec.Before, impl.Before.
-/
import Derived.Test.YtgpnoahmpmbgfaaDoorNexts
namespace Go.Proofs.YtgpnoahmpmbgfaaDoor
open Go.RowKit
set_option linter.unusedVariables false
set_option maxHeartbeats 1000000

def hasI (xs : List Int) (n : Int) : Bool := xs.any (fun x => decide (x = n))

theorem sliceIndex (xs : List Int) (n : Int) (v : Value) (w : World) (hl : xs.length ≤ maxLen) (hv : Reads w v (ints xs)) :
    Calls Tryd.prog 77 #[v, .int .i64 n] w fun e w' => ∃ r : Int, e = .returned (.int .i64 r) ∧ decide (0 ≤ r) = hasI xs n ∧ -1 ≤ r ∧ r ≤ 9223372036854775807 ∧ w = w' := by
  unfold maxLen at hl
  obtain ⟨ao, cap, rfl, hc⟩ := hv
  rw [ints_length]
  obtain ⟨B, hB⟩ : ∃ B, hasI xs n = B := ⟨_, rfl⟩
  rw [hB]
  have HB : Hid (hasI xs n = B) := hB
  clear hB
  go_enter Tryd.func77, Tryd.ntmps77
  go_wp2
  go_loopw [8] (fun i wr => ∃ k : Nat, k ≤ xs.length ∧ i = .int .i64 k ∧ w = wr ∧ hasI (xs.take k) n = false) (fun i _ => xs.length - (intOf i).toNat)
  case atStart => exact ⟨0, Nat.zero_le _, rfl, rfl, by simp [hasI]⟩
  case round =>
    obtain ⟨k, hk, rfl, rfl, hno⟩ := hrel
    have HNO : Hid _ := hno
    clear hno
    by_cases hlt : k < xs.length
    · have hlt' : (k : Int) < (xs.length : Int) := by omega
      obtain ⟨g, off, rfl, hg⟩ := hc k (.int .i64 xs[k]) (by simp [ints, hlt])
      have h1 : hasI (xs.take (k + 1)) n = decide (xs[k] = n) := by
        unfold hasI
        rw [List.take_succ_eq_append_getElem hlt, List.any_append]
        have := HNO.out
        unfold hasI at this
        rw [this]; simp
      have h2 : xs[k] = n → hasI xs n = true := fun h => List.any_eq_true.2 ⟨xs[k], List.getElem_mem hlt, by simp [h]⟩
      have H1 : Hid _ := h1
      have H2 : Hid _ := h2
      clear h1 h2 hc
      generalize xs[k] = x at *
      by_cases hx : x = n
      · have H4 : Hid (B = true) := HB.out.symm.trans (H2.out hx)
        have hx' : (n == x) = true := by simpa using hx.symm
        clear H1 H2 hx
        go_wp2
        go_ret
        exact ⟨k, rfl, by rw [H4.out]; simp, by omega, by omega, rfl⟩
      · have hx' : (n == x) = false := by simpa using fun h => hx h.symm
        have H3 : Hid (hasI (xs.take (k + 1)) n = false) := H1.out.trans (by simp [hx])
        clear H1 H2
        go_wp2
        go_roundw
        case rel => exact ⟨k + 1, by omega, by go_num, by trivial, H3.out⟩
        case measure => simp [intOf]; omega
    · have hkk : k = xs.length := by omega
      subst hkk
      go_wp2
      go_ret
      have h := HNO.out
      rw [List.take_length, HB.out] at h
      exact ⟨-1, rfl, by rw [h]; rfl, by omega, by omega, rfl⟩

theorem sliceContains (xs : List Int) (n : Int) (v : Value) (w : World) (hl : xs.length ≤ maxLen) (hv : Reads w v (ints xs)) :
    Calls Tryd.prog 75 #[v, .int .i64 n] w fun e w' => e = .returned (.bool (hasI xs n)) ∧ w = w' := by
  have hi := sliceIndex xs n v w hl hv
  go_enter Tryd.func75, Tryd.ntmps75
  go_wp2_with fail
  go_at_call 77
  refine hi.mono ?_
  rintro e w1 ⟨r, rfl, hr, _, _, rfl⟩
  have HR : Hid _ := hr
  clear hi hr
  go_wp2
  go_ret
  exact ⟨by rw [← HR.out]; simp, rfl⟩

/-- Of the first k statements, those behind which i may come. -/
def befN (ss : List Stm) (i : Int) : Nat → List Int
  | 0 => []
  | k + 1 => befN ss i k ++ (if hasI (nextsS (ss.getD k ⟨0, 0, 0⟩) k) i then [(k : Int)] else [])

theorem befN_lt (ss : List Stm) (i : Int) : ∀ (k : Nat) (x : Int), x ∈ befN ss i k → 0 ≤ x ∧ x < k
  | 0, x, h => by simp [befN] at h
  | k + 1, x, h => by
    unfold befN at h
    rw [List.mem_append] at h
    rcases h with h | h
    · have := befN_lt ss i k x h; omega
    · split at h
      · simp at h; omega
      · simp at h

theorem befN_length (ss : List Stm) (i : Int) : ∀ k : Nat, (befN ss i k).length ≤ k
  | 0 => by simp [befN]
  | k + 1 => by
    have := befN_length ss i k
    unfold befN
    rw [List.length_append]
    split
    · simp; omega
    · simp; omega

theorem ins_end (n : Int) : ∀ xs : List Int, (∀ x ∈ xs, x < n) → ins n xs = xs ++ [n]
  | [], _ => rfl
  | x :: xs, h => by
    rw [ins, if_pos (h x (by simp)), ins_end n xs (fun y hy => h y (by simp [hy]))]
    rfl

/-- What both answer. -/
def beforeAns (ss : List Stm) (i : Int) : List Int := if hasS ss i then befN ss i ss.length else []

theorem beforeAns_length (ss : List Stm) (i : Int) : (beforeAns ss i).length ≤ 12 := by
  unfold beforeAns
  cases h : hasS ss i
  · simp
  · rw [if_pos rfl]
    obtain ⟨hp, _⟩ := hasS_true h
    obtain ⟨_, h12, _⟩ := procOk_parts hp
    have := befN_length ss i ss.length
    omega

end Go.Proofs.YtgpnoahmpmbgfaaDoor
