/-
  Put together out of: IntLaws, FnProgM.
-/
import Derived.Test.YtmloeldgeegddaaPut
import Derived.Test.YtmloeldgeegddaaG32Draw
import Derived.Test.YtmloeldgeegddaaCallersBoth
import Derived.Test.YtmloeldgeegddaaG05CallsFn
/-
  The laws' helpers over lists of numbers: likeInts, has, rises; the draw l1From.
-/
namespace Go.Proofs.Ytmloeldgeegddaa
open Go.RowKit
set_option linter.unusedVariables false
set_option maxHeartbeats 1000000

theorem likeInts (xs : List Int) (v u : Value) (w : World) (hl : xs.length ≤ maxLen) (hv : Reads w v (ints xs)) (hu : Reads w u (ints xs)) :
    Calls Try.prog 14 #[v, u] w fun e w' => e = .returned (.bool true) ∧ Below w.heap.size w w' := by
  unfold maxLen at hl
  obtain ⟨ao, cap, rfl, hc⟩ := hv
  obtain ⟨bo, cap', rfl, hd⟩ := hu
  simp only [ints_length]
  go_enter Try.func14, Try.ntmps14
  go_wp2
  go_loopw [5] (fun i wr => ∃ k : Nat, k ≤ xs.length ∧ i = .int .i64 k ∧ Below w.heap.size w wr) (fun i _ => xs.length - (intOf i).toNat)
  case atStart => exact ⟨0, Nat.zero_le _, rfl, Below.refl _ _⟩
  case round =>
    obtain ⟨k, hk, rfl, hb⟩ := hrel
    by_cases hlt : k < xs.length
    · obtain ⟨g, off, rfl, hg⟩ := hc k (.int .i64 xs[k]) (by simp [ints, hlt])
      obtain ⟨g', off', rfl, hg'⟩ := hd k (.int .i64 xs[k]) (by simp [ints, hlt])
      have hg := (hb.cell (World.block_lt_of_cell? w _ hg)).trans hg
      have hg' := (hb.cell (World.block_lt_of_cell? w _ hg')).trans hg'
      have hlt' : (k : Int) < (xs.length : Int) := by omega
      clear hc hd
      generalize xs[k] = x at *
      go_wp2
      go_quiet (fail)
      go_wp2
      go_roundw
      case rel => exact ⟨k + 1, by omega, by go_num, below_drewN hb _⟩
      case measure => simp [intOf]; omega
    · go_wp2
      go_ret
      exact ⟨rfl, hb⟩

theorem lawHas (xs : List Int) (n : Int) (v : Value) (w : World) (hl : xs.length ≤ maxLen) (hv : Reads w v (ints xs)) :
    Calls Try.prog 23 #[v, .int .i64 n] w fun e w' => e = .returned (.bool (xs.any (fun x => decide (x = n)))) ∧ Below w.heap.size w w' := by
  unfold maxLen at hl
  obtain ⟨ao, cap, rfl, hc⟩ := hv
  rw [ints_length]
  go_enter Try.func23, Try.ntmps23
  go_wp2
  go_loopw [5] (fun i wr => ∃ k : Nat, k ≤ xs.length ∧ i = .int .i64 k ∧ w = wr ∧ (xs.take k).any (fun x => decide (x = n)) = false) (fun i _ => xs.length - (intOf i).toNat)
  case atStart => exact ⟨0, Nat.zero_le _, rfl, rfl, by simp⟩
  case round =>
    obtain ⟨k, hk, rfl, rfl, hno⟩ := hrel
    have HNO : Hid _ := hno
    clear hno
    by_cases hlt : k < xs.length
    · have hlt' : (k : Int) < (xs.length : Int) := by omega
      obtain ⟨g, off, rfl, hg⟩ := hc k (.int .i64 xs[k]) (by simp [ints, hlt])
      have h1 : (xs.take (k + 1)).any (fun x => decide (x = n)) = decide (xs[k] = n) := by
        rw [List.take_succ_eq_append_getElem hlt, List.any_append, HNO.out]; simp
      have h2 : xs[k] = n → xs.any (fun x => decide (x = n)) = true := fun h => List.any_eq_true.2 ⟨xs[k], List.getElem_mem hlt, by simp [h]⟩
      have H1 : Hid _ := h1
      have H2 : Hid _ := h2
      clear h1 h2 hc
      generalize xs[k] = x at *
      by_cases hx : x = n
      · have H4 : Hid (xs.any (fun x => decide (x = n)) = true) := H2.out hx
        have hx' : (x == n) = true := by simpa using hx
        clear H1 H2 hx
        go_wp2
        go_ret
        exact ⟨by rw [H4.out]; rfl, Below.refl _ _⟩
      · have hx' : (x == n) = false := by simpa using hx
        have H3 : Hid ((xs.take (k + 1)).any (fun x => decide (x = n)) = false) := H1.out.trans (by simp [hx])
        clear H1 H2
        go_wp2
        go_roundw
        case rel => exact ⟨k + 1, by omega, by go_num, by trivial, H3.out⟩
        case measure => simp [intOf]; omega
    · have hkk : k = xs.length := by omega
      subst hkk
      go_wp2
      go_ret
      have h := HNO.out
      rw [List.take_length] at h
      exact ⟨by rw [h]; rfl, Below.refl _ _⟩

/-- Each number is greater than the one ahead of it. -/
def Rises (xs : List Int) : Prop := ∀ (j : Nat) (x y : Int), xs[j]? = some x → xs[j + 1]? = some y → x < y

theorem lawRises (xs : List Int) (v : Value) (w : World) (hl : xs.length ≤ maxLen) (hr : Rises xs) (hv : Reads w v (ints xs)) :
    Calls Try.prog 22 #[v] w fun e w' => e = .returned (.bool true) ∧ Below w.heap.size w w' := by
  unfold maxLen at hl
  obtain ⟨ao, cap, rfl, hc⟩ := hv
  rw [ints_length]
  go_enter Try.func22, Try.ntmps22
  go_wp2
  go_loopw [3] (fun i wr => ∃ k : Nat, 1 ≤ k ∧ (k ≤ xs.length ∨ k = 1) ∧ i = .int .i64 k ∧ Below w.heap.size w wr) (fun i _ => xs.length - (intOf i).toNat)
  case atStart => exact ⟨1, by omega, .inr rfl, rfl, Below.refl _ _⟩
  case round =>
    obtain ⟨k, hk1, hk, rfl, hb⟩ := hrel
    by_cases hlt : k < xs.length
    · have hlt' : (k : Int) < (xs.length : Int) := by omega
      have hlt2 : (k : Int) - 1 < (xs.length : Int) := by omega
      have hk0 : ((k : Int) - 1).toNat = k - 1 := by omega
      obtain ⟨g, off, rfl, hg⟩ := hc k (.int .i64 xs[k]) (by simp [ints, hlt])
      obtain ⟨g', off', e, hg'⟩ := hc (k - 1) (.int .i64 (xs[k - 1]'(by omega))) (by simp [ints, show k - 1 < xs.length by omega])
      simp only [Option.some.injEq, Addr.mk.injEq, and_true] at e
      obtain ⟨rfl, rfl⟩ := e
      have hg := (hb.cell (World.block_lt_of_cell? w _ hg)).trans hg
      have hg' := (hb.cell (World.block_lt_of_cell? w _ hg')).trans hg'
      have hxy : xs[k - 1]'(by omega) < xs[k] := hr (k - 1) _ _ (by simp [show k - 1 < xs.length by omega]) (by rw [show k - 1 + 1 = k by omega]; simp [hlt])
      clear hc
      generalize xs[k] = x at *
      generalize xs[k - 1]'(by omega) = y at *
      have hd : decide (x ≤ y) = false := by simp; omega
      go_wp2
      go_quiet (fail)
      go_wp2
      go_roundw
      case rel => exact ⟨k + 1, by omega, .inl (by omega), by go_num, below_drewN hb _⟩
      case measure => simp [intOf]; omega
    · have hlt' : ¬ (k : Int) < (xs.length : Int) := by omega
      go_wp2
      go_ret
      exact ⟨rfl, hb⟩

theorem l1From (g : Nat) (bs : List Int) (lo hi : Int) (h0 : -1000000 ≤ lo) (h1 : lo ≤ hi) (h2 : hi ≤ 1000000) (w : World) (hl : bs.length ≤ 1048576) (hc : Cur w g bs) :
    Calls Try.prog 46 #[.pointer (some ⟨g, 0, none⟩), .int .i64 lo, .int .i64 hi] w fun e w' => ∃ x : Int, e = .returned (.int .i64 x) ∧ lo ≤ x ∧ x ≤ hi ∧ Cur w' g bs ∧ w.grownBy w' (some g) := by
  have hbel := l1Below g bs (hi - lo + 1) (by omega) w hl hc
  go_enter Try.func46, Try.ntmps46
  go_wp2_with fail
  go_at_call 52
  refine hbel.mono ?_
  rintro e w1 ⟨x, rfl, hx0, hx1, _, hc1, hg1⟩
  have hx1 := hx1 (by omega)
  go_wp2
  go_ret
  exact ⟨lo + x, rfl, by omega, by omega, hc1, hg1⟩

end Go.Proofs.Ytmloeldgeegddaa

/-
  FnPrograms: its mathematics.
-/
namespace Go.Proofs.Ytmloeldgeegddaa
open Go.RowKit
set_option linter.unusedVariables false

theorem nums_low : ∀ (bs : List Bool) (i x : Int), x ∈ nums bs i → i ≤ x
  | [], i, x, h => by simp [nums] at h
  | b :: bs, i, x, h => by
    unfold nums at h
    cases b with
    | false => have := nums_low bs (i + 1) x (by simpa using h); omega
    | true =>
      simp at h
      rcases h with h | h
      · omega
      · have := nums_low bs (i + 1) x h; omega
theorem nums_rise : ∀ (bs : List Bool) (i : Int), (nums bs i).Pairwise (· < ·)
  | [], i => by simp [nums]
  | b :: bs, i => by
    unfold nums
    cases b with
    | false => simpa using nums_rise bs (i + 1)
    | true =>
      simp only [if_true, List.pairwise_cons]
      exact ⟨fun x hx => by have := nums_low bs (i + 1) x hx; omega, nums_rise bs (i + 1)⟩
theorem rises_of {xs : List Int} (h : xs.Pairwise (· < ·)) : Rises xs := fun j x y hx hy => by
  obtain ⟨h1, rfl⟩ := List.getElem?_eq_some_iff.1 hx
  obtain ⟨h2, rfl⟩ := List.getElem?_eq_some_iff.1 hy
  exact List.pairwise_iff_getElem.1 h j (j + 1) h1 h2 (by omega)
theorem nums_any : ∀ (bs : List Bool) (i : Int) (k : Nat), (nums bs i).any (fun x => decide (x = i + k)) = bs.getD k false
  | [], i, k => by simp [nums]
  | b :: bs, i, 0 => by
    have hno : (nums bs (i + 1)).any (fun x => decide (x = i + (0 : Nat))) = false := by
      rw [List.any_eq_false]
      intro x hx
      have := nums_low bs (i + 1) x hx
      simp
      omega
    unfold nums
    cases b with
    | false => simpa using hno
    | true => simp
  | b :: bs, i, k + 1 => by
    have ih := nums_any bs (i + 1) k
    have e : i + 1 + (k : Int) = i + ((k + 1 : Nat) : Int) := by omega
    rw [e] at ih
    unfold nums
    cases b with
    | false => simpa using ih
    | true =>
      have hd : decide (i = i + ((k + 1 : Nat) : Int)) = false := by simp; omega
      simp only [if_true, List.any_cons, hd, Bool.false_or, ih]
      simp

theorem calls_rise (ps : List (List Stm)) (i : Int) : Rises (callsAns ps i) := by
  unfold callsAns
  cases h : hasB ps i with
  | false => exact rises_of (by simp)
  | true =>
    obtain ⟨_, j, hj, _, e, _, hs⟩ := hasB_true h
    simp only [if_true]
    rw [e, callsOf_eq _ hs]
    exact rises_of (nums_rise _ _)

/-- A call that is told is one of a statement, and of a procedure that is there. -/
theorem calls_told {ps : List (List Stm)} {i x : Int} (hx : x ∈ callsAns ps i) : ∃ (j : Nat) (p : List Stm), i = j ∧ ps[j]? = some p ∧ p.length ≤ 12 ∧ called p x = true ∧ 0 ≤ x ∧ x < ps.length ∧ ps.length ≤ 4 := by
  unfold callsAns at hx
  cases h : hasB ps i with
  | false => rw [h] at hx; simp at hx
  | true =>
    obtain ⟨hok, j, hj, hi, e, h12, hs⟩ := hasB_true h
    rw [h, e] at hx
    simp only [if_true] at hx
    have hc : called ps[j] x = true := by
      rw [← callsOf_any]
      exact List.any_eq_true.2 ⟨x, hx, by simp⟩
    obtain ⟨h4, _, hpr⟩ := programOk_len hok
    refine ⟨j, ps[j], hi, by simp [hj], h12, hc, ?_, ?_, h4⟩
    · rw [callsOf_eq _ hs] at hx
      exact nums_low _ _ _ hx
    · unfold called at hc
      obtain ⟨s, hsm, hse⟩ := List.any_eq_true.1 hc
      simp only [Bool.and_eq_true, decide_eq_true_eq] at hse
      have hco := (hpr _ (List.getElem_mem hj)).2
      have := List.all_eq_true.1 hco s hsm
      unfold callOk at this
      simp [hse.1] at this
      omega

theorem has_both {ps : List (List Stm)} (hok : programOk ps = true) {i k : Nat} (hi : i < ps.length) (hk : k < ps.length) :
    (callersAns ps (i : Int)).any (fun x => decide (x = (k : Int))) = (callsAns ps (k : Int)).any (fun x => decide (x = (i : Int))) := by
  have b1 : hasB ps (i : Int) = true := by unfold hasB wiB; rw [hok]; simp; omega
  have b2 : hasB ps (k : Int) = true := by unfold hasB wiB; rw [hok]; simp; omega
  unfold callersAns callsAns
  rw [if_pos b1, if_pos b2, callsOf_any]
  have := nums_any (ps.map (fun p => called p (i : Int))) 0 k
  rw [Int.zero_add] at this
  rw [this]
  simp [List.getD, hk]

theorem sumLen_snoc : ∀ (ps : List (List Stm)) (k : Nat) (h : k < ps.length), sumLen (ps.take (k + 1)) = sumLen (ps.take k) + ps[k].length
  | [], k, h => by simp at h
  | p :: ps, 0, h => by simp [sumLen]
  | p :: ps, k + 1, h => by
    have := sumLen_snoc ps k (by simpa using h)
    simp only [List.take_succ_cons, sumLen, List.getElem_cons_succ]
    omega
theorem sumLen_small : ∀ (ps : List (List Stm)) (h : ∀ p ∈ ps, p.length ≤ 12), sumLen ps ≤ 12 * ps.length
  | [], _ => by simp [sumLen]
  | p :: ps, h => by
    have := sumLen_small ps (fun q hq => h q (by simp [hq]))
    have := h p (by simp)
    simp only [sumLen, List.length_cons]
    omega

end Go.Proofs.Ytmloeldgeegddaa
