/-
  FnPrograms: its mathematics.
-/
import Derived.Test.YtmloeldgeegddaaCallersBoth
import Derived.Test.YtmloeldgeegddaaSize
import Derived.Test.YtmloeldgeegddaaIntLaws
namespace Go.Proofs.Ytmloeldgeegddaa
open Go.RowKit
set_option linter.unusedVariables false

theorem nums_low : ∀ (bs : List Bool) (i x : Int), x ∈ nums bs i → i ≤ x
  | [], i, x, h => by simp [nums] at h
  | b :: bs, i, x, h => by
    unfold nums at h
    cases b with
    | false => have := nums_low bs (i + 1) x (by simpa using h); omega
    | true =>
      simp at h
      rcases h with h | h
      · omega
      · have := nums_low bs (i + 1) x h; omega
theorem nums_rise : ∀ (bs : List Bool) (i : Int), (nums bs i).Pairwise (· < ·)
  | [], i => by simp [nums]
  | b :: bs, i => by
    unfold nums
    cases b with
    | false => simpa using nums_rise bs (i + 1)
    | true =>
      simp only [if_true, List.pairwise_cons]
      exact ⟨fun x hx => by have := nums_low bs (i + 1) x hx; omega, nums_rise bs (i + 1)⟩
theorem rises_of {xs : List Int} (h : xs.Pairwise (· < ·)) : Rises xs := fun j x y hx hy => by
  obtain ⟨h1, rfl⟩ := List.getElem?_eq_some_iff.1 hx
  obtain ⟨h2, rfl⟩ := List.getElem?_eq_some_iff.1 hy
  exact List.pairwise_iff_getElem.1 h j (j + 1) h1 h2 (by omega)
theorem nums_any : ∀ (bs : List Bool) (i : Int) (k : Nat), (nums bs i).any (fun x => decide (x = i + k)) = bs.getD k false
  | [], i, k => by simp [nums]
  | b :: bs, i, 0 => by
    have hno : (nums bs (i + 1)).any (fun x => decide (x = i + (0 : Nat))) = false := by
      rw [List.any_eq_false]
      intro x hx
      have := nums_low bs (i + 1) x hx
      simp
      omega
    unfold nums
    cases b with
    | false => simpa using hno
    | true => simp
  | b :: bs, i, k + 1 => by
    have ih := nums_any bs (i + 1) k
    have e : i + 1 + (k : Int) = i + ((k + 1 : Nat) : Int) := by omega
    rw [e] at ih
    unfold nums
    cases b with
    | false => simpa using ih
    | true =>
      have hd : decide (i = i + ((k + 1 : Nat) : Int)) = false := by simp; omega
      simp only [if_true, List.any_cons, hd, Bool.false_or, ih]
      simp

theorem calls_rise (ps : List (List Stm)) (i : Int) : Rises (callsAns ps i) := by
  unfold callsAns
  cases h : hasB ps i with
  | false => exact rises_of (by simp)
  | true =>
    obtain ⟨_, j, hj, _, e, _, hs⟩ := hasB_true h
    simp only [if_true]
    rw [e, callsOf_eq _ hs]
    exact rises_of (nums_rise _ _)

/-- A call that is told is one of a statement, and of a procedure that is there. -/
theorem calls_told {ps : List (List Stm)} {i x : Int} (hx : x ∈ callsAns ps i) : ∃ (j : Nat) (p : List Stm), i = j ∧ ps[j]? = some p ∧ p.length ≤ 12 ∧ called p x = true ∧ 0 ≤ x ∧ x < ps.length ∧ ps.length ≤ 4 := by
  unfold callsAns at hx
  cases h : hasB ps i with
  | false => rw [h] at hx; simp at hx
  | true =>
    obtain ⟨hok, j, hj, hi, e, h12, hs⟩ := hasB_true h
    rw [h, e] at hx
    simp only [if_true] at hx
    have hc : called ps[j] x = true := by
      rw [← callsOf_any]
      exact List.any_eq_true.2 ⟨x, hx, by simp⟩
    obtain ⟨h4, _, hpr⟩ := programOk_len hok
    refine ⟨j, ps[j], hi, by simp [hj], h12, hc, ?_, ?_, h4⟩
    · rw [callsOf_eq _ hs] at hx
      exact nums_low _ _ _ hx
    · unfold called at hc
      obtain ⟨s, hsm, hse⟩ := List.any_eq_true.1 hc
      simp only [Bool.and_eq_true, decide_eq_true_eq] at hse
      have hco := (hpr _ (List.getElem_mem hj)).2
      have := List.all_eq_true.1 hco s hsm
      unfold callOk at this
      simp [hse.1] at this
      omega

theorem has_both {ps : List (List Stm)} (hok : programOk ps = true) {i k : Nat} (hi : i < ps.length) (hk : k < ps.length) :
    (callersAns ps (i : Int)).any (fun x => decide (x = (k : Int))) = (callsAns ps (k : Int)).any (fun x => decide (x = (i : Int))) := by
  have b1 : hasB ps (i : Int) = true := by unfold hasB wiB; rw [hok]; simp; omega
  have b2 : hasB ps (k : Int) = true := by unfold hasB wiB; rw [hok]; simp; omega
  unfold callersAns callsAns
  rw [if_pos b1, if_pos b2, callsOf_any]
  have := nums_any (ps.map (fun p => called p (i : Int))) 0 k
  rw [Int.zero_add] at this
  rw [this]
  simp [List.getD, hk]

theorem sumLen_snoc : ∀ (ps : List (List Stm)) (k : Nat) (h : k < ps.length), sumLen (ps.take (k + 1)) = sumLen (ps.take k) + ps[k].length
  | [], k, h => by simp at h
  | p :: ps, 0, h => by simp [sumLen]
  | p :: ps, k + 1, h => by
    have := sumLen_snoc ps k (by simpa using h)
    simp only [List.take_succ_cons, sumLen, List.getElem_cons_succ]
    omega
theorem sumLen_small : ∀ (ps : List (List Stm)) (h : ∀ p ∈ ps, p.length ≤ 12), sumLen ps ≤ 12 * ps.length
  | [], _ => by simp [sumLen]
  | p :: ps, h => by
    have := sumLen_small ps (fun q hq => h q (by simp [hq]))
    have := h p (by simp)
    simp only [sumLen, List.length_cons]
    omega

end Go.Proofs.Ytmloeldgeegddaa
