/-
  The laws' helpers over lists of numbers: likeInts, has, rises; the draw l1From.
-/
import Derived.Test.YtjlpjjddnkceoaaPut
import Derived.Test.YtjlpjjddnkceoaaDraw
namespace Go.Proofs.Ytjlpjjddnkceoaa
open Go.RowKit
set_option linter.unusedVariables false
set_option maxHeartbeats 1000000

theorem likeInts (xs : List Int) (v u : Value) (w : World) (hl : xs.length ≤ maxLen) (hv : Reads w v (ints xs)) (hu : Reads w u (ints xs)) :
    Calls Try.prog 19 #[v, u] w fun e w' => e = .returned (.bool true) ∧ Below w.heap.size w w' := by
  unfold maxLen at hl
  obtain ⟨ao, cap, rfl, hc⟩ := hv
  obtain ⟨bo, cap', rfl, hd⟩ := hu
  simp only [ints_length]
  go_enter Try.func19, Try.ntmps19
  go_wp2
  go_loopw [5] (fun i wr => ∃ k : Nat, k ≤ xs.length ∧ i = .int .i64 k ∧ Below w.heap.size w wr) (fun i _ => xs.length - (intOf i).toNat)
  case atStart => exact ⟨0, Nat.zero_le _, rfl, Below.refl _ _⟩
  case round =>
    obtain ⟨k, hk, rfl, hb⟩ := hrel
    by_cases hlt : k < xs.length
    · obtain ⟨g, off, rfl, hg⟩ := hc k (.int .i64 xs[k]) (by simp [ints, hlt])
      obtain ⟨g', off', rfl, hg'⟩ := hd k (.int .i64 xs[k]) (by simp [ints, hlt])
      have hg := (hb.cell (World.block_lt_of_cell? w _ hg)).trans hg
      have hg' := (hb.cell (World.block_lt_of_cell? w _ hg')).trans hg'
      have hlt' : (k : Int) < (xs.length : Int) := by omega
      clear hc hd
      generalize xs[k] = x at *
      go_wp2
      go_quiet (fail)
      go_wp2
      go_roundw
      case rel => exact ⟨k + 1, by omega, by go_num, below_drewN hb _⟩
      case measure => simp [intOf]; omega
    · go_wp2
      go_ret
      exact ⟨rfl, hb⟩

theorem lawHas (xs : List Int) (n : Int) (v : Value) (w : World) (hl : xs.length ≤ maxLen) (hv : Reads w v (ints xs)) :
    Calls Try.prog 14 #[v, .int .i64 n] w fun e w' => e = .returned (.bool (xs.any (fun x => decide (x = n)))) ∧ Below w.heap.size w w' := by
  unfold maxLen at hl
  obtain ⟨ao, cap, rfl, hc⟩ := hv
  rw [ints_length]
  go_enter Try.func14, Try.ntmps14
  go_wp2
  go_loopw [5] (fun i wr => ∃ k : Nat, k ≤ xs.length ∧ i = .int .i64 k ∧ w = wr ∧ (xs.take k).any (fun x => decide (x = n)) = false) (fun i _ => xs.length - (intOf i).toNat)
  case atStart => exact ⟨0, Nat.zero_le _, rfl, rfl, by simp⟩
  case round =>
    obtain ⟨k, hk, rfl, rfl, hno⟩ := hrel
    have HNO : Hid _ := hno
    clear hno
    by_cases hlt : k < xs.length
    · have hlt' : (k : Int) < (xs.length : Int) := by omega
      obtain ⟨g, off, rfl, hg⟩ := hc k (.int .i64 xs[k]) (by simp [ints, hlt])
      have h1 : (xs.take (k + 1)).any (fun x => decide (x = n)) = decide (xs[k] = n) := by
        rw [List.take_succ_eq_append_getElem hlt, List.any_append, HNO.out]; simp
      have h2 : xs[k] = n → xs.any (fun x => decide (x = n)) = true := fun h => List.any_eq_true.2 ⟨xs[k], List.getElem_mem hlt, by simp [h]⟩
      have H1 : Hid _ := h1
      have H2 : Hid _ := h2
      clear h1 h2 hc
      generalize xs[k] = x at *
      by_cases hx : x = n
      · have H4 : Hid (xs.any (fun x => decide (x = n)) = true) := H2.out hx
        have hx' : (x == n) = true := by simpa using hx
        clear H1 H2 hx
        go_wp2
        go_ret
        exact ⟨by rw [H4.out]; rfl, Below.refl _ _⟩
      · have hx' : (x == n) = false := by simpa using hx
        have H3 : Hid ((xs.take (k + 1)).any (fun x => decide (x = n)) = false) := H1.out.trans (by simp [hx])
        clear H1 H2
        go_wp2
        go_roundw
        case rel => exact ⟨k + 1, by omega, by go_num, by trivial, H3.out⟩
        case measure => simp [intOf]; omega
    · have hkk : k = xs.length := by omega
      subst hkk
      go_wp2
      go_ret
      have h := HNO.out
      rw [List.take_length] at h
      exact ⟨by rw [h]; rfl, Below.refl _ _⟩

/-- Each number is greater than the one ahead of it. -/
def Rises (xs : List Int) : Prop := ∀ (j : Nat) (x y : Int), xs[j]? = some x → xs[j + 1]? = some y → x < y



end Go.Proofs.Ytjlpjjddnkceoaa
