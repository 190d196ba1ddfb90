/-
  FnProofs: its mathematics. A least way that brings a fact has no more statements than there are statements and facts.
-/
import Derived.Test.YtciccbbgamklbaaKildM
import Derived.Test.YtciccbbgamklbaaG07SpecLess
namespace Go.Proofs.Ytciccbbgamklbaa
open Go.RowKit
set_option linter.unusedVariables false

/-- A least one among those that bring its fact to its end. -/
def LeastI (c : Int) (ss : List Stm) (s : Int) (L : Nat) (e : Itm) : Prop := e.1.length = L ∧ ∃ i t : Nat, t < 7 ∧ e.2 = (t : Int) ∧ Brings c ss s i t e.1 ∧ ∀ zs, Brings c ss s i t zs → L ≤ zs.length

theorem least_chain {c : Int} {ss : List Stm} {s : Int} (hp : procOk ss = true) : ∀ (L : Nat) (e : Itm), 1 ≤ L → LeastI c ss s L e → ∃ N : List Itm, N.length = L ∧ ∀ (k : Nat) (f : Itm), N[k]? = some f → LeastI c ss s (k + 1) f
  | 0, e, h, _ => absurd h (by omega)
  | 1, e, _, he => ⟨[e], rfl, fun k f hk => by
      match k with
      | 0 => simp at hk; subst hk; exact he
      | k + 1 => simp at hk⟩
  | L + 2, e, _, he => by
    obtain ⟨hl, i, t, ht, e2, hB, hmin⟩ := he
    have hf := fun i hi => flw_smalls (c := c) (ss := ss) hp (i := i) hi
    rcases brings_inv hp hf hB with h1 | ⟨ys, j, u, hys, hu, hB', hy, hb⟩
    · omega
    · have hyl : ys.length = L + 1 := by rw [hys] at hl; simpa using hl
      have hle : LeastI c ss s (L + 1) (ys, (u : Int)) := ⟨hyl, j, u, hu, rfl, hB', fun zs hz => by
        have := hmin _ (brings_snoc hp hf hz hu hy hb)
        simp at this
        omega⟩
      obtain ⟨N, hN, hk⟩ := least_chain hp (L + 1) (ys, (u : Int)) (by omega) hle
      refine ⟨N ++ [e], by simp [hN], fun k f hf => ?_⟩
      rcases Nat.lt_or_ge k N.length with h | h
      · rw [List.getElem?_append_left h] at hf
        exact hk k f hf
      · rw [List.getElem?_append_right h] at hf
        have hlt := (List.getElem?_eq_some_iff.1 hf).1
        simp at hlt
        have e0 : k - N.length = 0 := by omega
        rw [e0] at hf
        simp at hf
        subst hf
        have : k + 1 = L + 2 := by omega
        rw [this]
        exact ⟨hl, i, t, ht, e2, hB, hmin⟩

theorem proof_len {c : Int} {ss : List Stm} {s : Int} {i t : Nat} {A : List Int} (hp : procOk ss = true) (ht : t < 7) (h : IsProof c ss s i t A) : A.length ≤ 7 * ss.length := by
  rcases h with ⟨rfl, _⟩ | ⟨hB, hmin⟩
  · simp
  · have hle : LeastI c ss s A.length (A, (t : Int)) := ⟨rfl, i, t, ht, rfl, hB, fun zs hz => by
      have := hmin zs hz
      rcases Nat.lt_or_ge zs.length A.length with h | h
      · exact absurd (wlt_iff.2 (.inl h) : wlt zs A = true) (by rw [show wlt zs A = false from this]; simp)
      · exact h⟩
    obtain ⟨N, hN, hk⟩ := least_chain hp A.length (A, (t : Int)) hB.1.1 hle
    have := items_len (n := ss.length) (N := N) (fun e he => by
      obtain ⟨k, hk'⟩ := List.getElem?_of_mem he
      obtain ⟨_, i, t, ht, e2, hB, _⟩ := hk k e hk'
      obtain ⟨j, hj, hjl⟩ := RW_in hp hB.1
      have := hB.2.1
      exact ⟨i, t, by omega, ht, this, e2⟩) (fun a b e f ha hb h1 h2 => by
      obtain ⟨_, i, t, ht, e2, hB, hm⟩ := hk a e ha
      obtain ⟨_, i', t', ht', e2', hB', hm'⟩ := hk b f hb
      have x1 := hB.2.1
      have x2 := hB'.2.1
      obtain rfl : i = i' := by omega
      obtain rfl : t = t' := by omega
      have g1 := hm _ hB'
      have g2 := hm' _ hB
      have g3 := (hk a e ha).1
      have g4 := (hk b f hb).1
      omega)
    omega

/-- What FnProofs says of a way that is told. -/
structure ProofIs (c : Int) (ss : List Stm) (s : Int) (at' fact : Nat) (S A : List Int) : Prop where
  sm : Small (S.getD at' 0)
  pos : bit (S.getD at' 0) fact = decide (0 < A.length)
  way : 0 < A.length → wayAns ss A = true ∧ lastI A = (at' : Int) ∧ Small (alongAns ss c A s) ∧ bit (alongAns ss c A s) fact = true
  less : 0 < A.length → ∀ ys ∈ waysAns ss (at' : Int) 8, ys.length < A.length → Small (alongAns ss c ys s) ∧ bit (alongAns ss c ys s) fact = false

theorem proof_is {c : Int} {ss : List Stm} {s : Int} {at' fact : Nat} {S A : List Int} (h7 : ss.length ≤ 7) (hS : SolvedAns c ss s S) (hat : at' < S.length) (hfa : fact < 7) (hA : ProofAns c ss s at' fact A) : ProofIs c ss s at' fact S A := by
  have hok : (procOk ss && isCl c && inB s 0 127) = true := by
    cases h : (procOk ss && isCl c && inB s 0 127) with
    | true => rfl
    | false => rw [hS.2 h] at hat; simp at hat
  have hI := hS.1 hok
  have h9 := hok
  simp only [Bool.and_eq_true] at h9
  obtain ⟨⟨hp, hc⟩, hs⟩ := h9
  have hal : at' < ss.length := by rw [← hI.1]; exact hat
  have hP : IsProof c ss s at' fact A := hA.1 (by
    rw [hp, hc, hs]
    have h1 : wiB (at' : Int) ss.length = true := by unfold wiB; simp; omega
    have h2 : inB (fact : Int) 0 6 = true := by unfold inB; simp; omega
    rw [h1, h2]; rfl) at' fact rfl rfl
  have hsm : Small s := small_in.1 hs
  have hlen := proof_len hp hfa hP
  have hway : ∀ ys, RW ss ys → ys.length ≤ 100 → wayAns ss ys = true := fun ys hR hl => by
    unfold wayAns
    rw [hp, hR.2.2, decide_eq_true hR.1, decide_eq_true hl, hR.2.1]
    rfl
  have hal2 : ∀ ys, wayAns ss ys = true → alongAns ss c ys s = st c ss s ys := fun ys hw => by
    unfold alongAns
    rw [hw, hc, hs]
    rfl
  have hbr := hI.2.2 at' fact hal hfa
  refine ⟨hI.2.1 at', ?_, fun hpos => ?_, fun hpos ys hy hlt => ?_⟩
  · rcases hP with ⟨rfl, hno⟩ | ⟨hB, _⟩
    · cases hb : bit (S.getD at' 0) fact with
      | false => simp
      | true => obtain ⟨ys, h1, h2, h3⟩ := hbr.1 hb; exact absurd ⟨h1, h2, h3⟩ (hno ys)
    · have := hB.1.1
      rw [hbr.2 ⟨A, hB.1, hB.2.1, hB.2.2⟩]
      simp; omega
  · rcases hP with ⟨rfl, _⟩ | ⟨hB, _⟩
    · simp at hpos
    · have hw := hway A hB.1 (by omega)
      rw [hal2 A hw]
      exact ⟨hw, hB.2.1, st_small hp hsm hB.1, hB.2.2⟩
  · rcases hP with ⟨rfl, _⟩ | ⟨hB, hmin⟩
    · simp at hpos
    · obtain ⟨hw, hl, _, _⟩ := way_good hy
      obtain ⟨hR, _⟩ := way_RW hw
      rw [hal2 ys hw]
      refine ⟨st_small hp hsm hR, ?_⟩
      cases hb : bit (st c ss s ys) fact with
      | false => rfl
      | true =>
        have := hmin ys ⟨hR, hl, hb⟩
        have h1 : wlt ys A = true := wlt_iff.2 (.inl hlt)
        rw [show wlt ys A = false from this] at h1
        cases h1

/-- Where nothing is asked, nothing is told. -/
theorem proof_none {c : Int} {ss : List Stm} {s at' fact : Int} {S A : List Int} (hS : SolvedAns c ss s S) (hA : ProofAns c ss s at' fact A) (h : S.length = 0 ∨ at' < 0 ∨ (S.length : Int) ≤ at' ∨ fact < 0 ∨ 6 < fact) : A = [] := by
  refine hA.2 ?_
  cases hok : (procOk ss && isCl c && inB s 0 127) with
  | false => rfl
  | true =>
    have hI := (hS.1 hok).1
    have h9 := hok
    simp only [Bool.and_eq_true] at h9
    have h1 := (procOk_parts h9.1.1).1
    rcases h with h | h | h | h | h
    · omega
    · have : wiB at' ss.length = false := by unfold wiB; simp; omega
      rw [this]; rfl
    · have : wiB at' ss.length = false := by unfold wiB; simp; omega
      rw [this]; rfl
    · have : inB fact 0 6 = false := by unfold inB; simp; omega
      rw [this]; simp
    · have : inB fact 0 6 = false := by unfold inB; simp; omega
      rw [this]; simp

theorem proofAns_uniq {c : Int} {ss : List Stm} {s i t : Int} {A B : List Int} (ha : ProofAns c ss s i t A) (hb : ProofAns c ss s i t B) : A = B := by
  cases h : (procOk ss && isCl c && inB s 0 127 && wiB i ss.length && inB t 0 6) with
  | false => rw [ha.2 h, hb.2 h]
  | true =>
    have h9 := h
    simp only [Bool.and_eq_true] at h9
    have h1 := h9.1.2
    have h2 := h9.2
    unfold wiB at h1
    unfold inB at h2
    simp at h1 h2
    exact proof_unique (ha.1 h i.toNat t.toNat (by omega) (by omega)) (hb.1 h i.toNat t.toNat (by omega) (by omega))

end Go.Proofs.Ytciccbbgamklbaa
