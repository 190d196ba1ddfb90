/-
  Chapter 6: RelOk, both sides.
-/
import Derived.Test.YtmophdojojcpbaaPut
namespace Go.Proofs.Ytmophdojojcpbaa
open Go.RowKit
set_option linter.unusedVariables false
set_option maxHeartbeats 1000000

/-- Is it a relation: seven sets, each from 0 to 127? -/
def relOk (xs : List Int) : Bool := xs.all (fun x => inB x 0 127) && decide (xs.length = 7)

theorem wiB_inB (x : Int) : wiB x 128 = inB x 0 127 := by
  unfold wiB inB
  congr 1
  simp only [decide_eq_decide]
  omega

theorem take_all {xs : List Int} {k : Nat} (hk : k < xs.length) (h : (xs.take k).all (fun x => inB x 0 127) = true) (hx : inB xs[k] 0 127 = true) : (xs.take (k + 1)).all (fun x => inB x 0 127) = true := by
  rw [List.take_add_one, List.getElem?_eq_getElem hk]
  simp only [Option.toList_some, List.all_append, h, List.all_cons, hx, List.all_nil, Bool.and_self]

theorem all_not {xs : List Int} {k : Nat} (hk : k < xs.length) (hx : inB xs[k] 0 127 = false) : xs.all (fun x => inB x 0 127) = false := by
  rw [List.all_eq_false]
  exact ⟨xs[k], List.getElem_mem hk, by simp [hx]⟩

theorem specRelOk (xs : List Int) (v : Value) (w : World) (hl : xs.length ≤ maxLen) (hv : Reads w v (ints xs)) :
    Calls Try.prog 49 #[v] w fun e w' => e = .returned (.bool (relOk xs)) ∧ Below w.heap.size w w' := by
  unfold maxLen at hl
  obtain ⟨ao, cap, rfl, hc⟩ := hv
  simp only [ints_length]
  go_enter Try.func49, Try.ntmps49
  go_wp2
  go_loopw [3] (fun i wr => ∃ k : Nat, k ≤ xs.length ∧ i = .int .i64 k ∧ w = wr ∧ (xs.take k).all (fun x => inB x 0 127) = true) (fun i _ => xs.length - (intOf i).toNat)
  case atStart => exact ⟨0, Nat.zero_le _, rfl, rfl, by simp⟩
  case round =>
    obtain ⟨k, hk, rfl, rfl, hb⟩ := hrel
    by_cases hlt : k < xs.length
    · have hlt' : (k : Int) < (xs.length : Int) := by omega
      obtain ⟨g, off, rfl, hg⟩ := hc k (.int .i64 xs[k]) (by simp [ints, hlt])
      have ht := take_all hlt hb
      have hn := all_not hlt
      clear hc hb
      have HT : Hid _ := ht
      have HN : Hid _ := hn
      clear ht hn
      generalize xs[k] = x at *
      cases hx : inB x 0 127
      · go_wp2_with (go_at_call 82; refine (l1In _ _ _ _).mono ?_; rintro e w1 ⟨rfl, rfl⟩; simp only [hx])
        go_ret
        exact ⟨by rw [relOk, HN.out hx, Bool.false_and]; rfl, Below.refl _ _⟩
      · go_wp2_with (go_at_call 82; refine (l1In _ _ _ _).mono ?_; rintro e w1 ⟨rfl, rfl⟩; simp only [hx])
        go_roundw
        case rel => exact ⟨k + 1, by omega, by go_num, trivial, HT.out hx⟩
        case measure => simp [intOf]; omega
    · have hkk : k = xs.length := by omega
      subst hkk
      rw [List.take_length] at hb
      have h7 : relOk xs = decide ((xs.length : Int) = 7) := by rw [relOk, hb, Bool.true_and]; simp only [decide_eq_decide]; omega
      have H7 : Hid _ := h7
      clear hb h7
      go_wp2
      go_ret
      exact ⟨by rw [H7.out]; rfl, Below.refl _ _⟩

theorem implRelOk (xs : List Int) (v : Value) (w : World) (hl : xs.length ≤ maxLen) (hv : Reads w v (ints xs)) :
    Calls Try.prog 17 #[v] w fun e w' => e = .returned (.bool (relOk xs)) ∧ Below w.heap.size w w' := by
  unfold maxLen at hl
  obtain ⟨ao, cap, rfl, hc⟩ := hv
  simp only [ints_length]
  by_cases h7 : (xs.length : Int) = 7
  · have h7' : xs.length = 7 := by omega
    go_enter Try.func17, Try.ntmps17
    go_wp2
    go_loopw [10] (fun i wr => ∃ k : Nat, k ≤ xs.length ∧ i = .int .i64 k ∧ w = wr ∧ (xs.take k).all (fun x => inB x 0 127) = true) (fun i _ => xs.length - (intOf i).toNat)
    case atStart => exact ⟨0, Nat.zero_le _, rfl, rfl, by simp⟩
    case round =>
      obtain ⟨k, hk, rfl, rfl, hb⟩ := hrel
      by_cases hlt : k < xs.length
      · have hlt' : (k : Int) < 7 := by omega
        obtain ⟨g, off, rfl, hg⟩ := hc k (.int .i64 xs[k]) (by simp [ints, hlt])
        have ht := take_all hlt hb
        have hn := all_not hlt
        clear hc hb
        have HT : Hid _ := ht
        have HN : Hid _ := hn
        clear ht hn
        generalize xs[k] = x at *
        cases hx : inB x 0 127
        · go_wp2_with (go_at_call 54; refine (within _ _ _).mono ?_; rintro e w1 ⟨rfl, rfl⟩; simp only [wiB_inB, hx])
          go_ret
          exact ⟨by rw [relOk, HN.out hx, Bool.false_and]; rfl, Below.refl _ _⟩
        · go_wp2_with (go_at_call 54; refine (within _ _ _).mono ?_; rintro e w1 ⟨rfl, rfl⟩; simp only [wiB_inB, hx])
          go_roundw
          case rel => exact ⟨k + 1, by omega, by go_num, trivial, HT.out hx⟩
          case measure => simp [intOf]; omega
      · have hkk : k = xs.length := by omega
        rw [hkk, List.take_length] at hb
        have h8 : relOk xs = true := by rw [relOk, hb, Bool.true_and]; simp [h7']
        have H8 : Hid _ := h8
        have hlt' : ¬ (k : Int) < 7 := by omega
        clear hb h8
        go_wp2
        go_ret
        exact ⟨by rw [H8.out]; rfl, Below.refl _ _⟩
  · have h8 : relOk xs = false := by
      have : ¬ xs.length = 7 := by omega
      simp [relOk, this]
    rw [h8]
    go_enter Try.func17, Try.ntmps17
    go_wp2
    go_ret
    exact ⟨rfl, Below.refl _ _⟩

end Go.Proofs.Ytmophdojojcpbaa
