/-
  FnKildall: its mathematics.
-/
import Derived.Test.YtciccbbgamklbaaLeastM
import Derived.Test.YtciccbbgamklbaaWaysMath
import Derived.Test.YtciccbbgamklbaaWaysBoth
namespace Go.Proofs.Ytciccbbgamklbaa
open Go.RowKit
set_option linter.unusedVariables false

theorem way_RW {ss : List Stm} {ys : List Int} (h : wayAns ss ys = true) : RW ss ys ∧ procOk ss = true := by
  obtain ⟨hp, h1, _, h0, hs⟩ := wayAns_parts h
  exact ⟨⟨h1, h0, hs⟩, hp⟩

/-- What holds along a way is among what is solved, at its end. -/
theorem along_solved {ss : List Stm} {c s x : Int} {ys A : List Int} (hA : SolvedAns c ss s A) (hx : alongAns ss c ys s = x) (h0 : 0 ≤ x) :
    ∃ j : Nat, lastI ys = (j : Int) ∧ j < A.length ∧ 0 < ys.length ∧ bits .or .i64 x (A.getD j 0) = A.getD j 0 := by
  unfold alongAns at hx
  cases hb : (wayAns ss ys && isCl c && inB s 0 127) with
  | false => rw [hb] at hx; simp at hx; omega
  | true =>
    rw [hb] at hx
    simp only [if_true] at hx
    simp only [Bool.and_eq_true] at hb
    obtain ⟨⟨hw, hc⟩, hs⟩ := hb
    obtain ⟨hR, hp⟩ := way_RW hw
    have hok : (procOk ss && isCl c && inB s 0 127) = true := by rw [hp, hc, hs]; rfl
    have hS := hA.1 hok
    have hsm : Small s := small_in.1 hs
    obtain ⟨j, hj, hjl⟩ := RW_in hp hR
    have hxs : x = st c ss s ys := hx.symm
    have hxm : Small x := by rw [hxs]; exact st_small hp hsm hR
    refine ⟨j, hj, by rw [hS.1]; exact hjl, hR.1, ?_⟩
    refine lor_of_has hxm (hS.2.1 j) ((hasA_iff (hS.2.1 j) hxm).2 (fun t ht hb => ?_))
    exact (hS.2.2 j t hjl ht).2 ⟨ys, hR, hj, by rw [← hxs]; exact hb⟩

theorem along_ok {ss : List Stm} {c s : Int} {way A : List Int} {at' : Nat} (hA : SolvedAns c ss s A) (h0 : 0 < A.length) (hw : way ∈ waysAns ss (at' : Int) 8) :
    0 ≤ alongAns ss c way s ∧ bits .or .i64 (alongAns ss c way s) (A.getD at' 0) = A.getD at' 0 := by
  obtain ⟨hwa, hl, _, _⟩ := way_good hw
  obtain ⟨hR, hp⟩ := way_RW hwa
  have hok : (procOk ss && isCl c && inB s 0 127) = true := by
    cases h : (procOk ss && isCl c && inB s 0 127) with
    | true => rfl
    | false => rw [hA.2 h] at h0; cases h0
  have h9 := hok
  simp only [Bool.and_eq_true] at h9
  have hsm : Small s := small_in.1 h9.2
  have e : alongAns ss c way s = st c ss s way := by
    unfold alongAns
    rw [hwa, h9.1.2, h9.2]
    rfl
  have hpos : 0 ≤ alongAns ss c way s := by rw [e]; exact (st_small hp hsm hR).1
  obtain ⟨j, hj, _, _, hb⟩ := along_solved hA rfl hpos
  have : j = at' := by omega
  subst this
  exact ⟨hpos, hb⟩

theorem covers_ok {ss : List Stm} {c s : Int} {A : List Int} (hA : SolvedAns c ss s A) (h0 : 0 < A.length) : coversAns ss c s A = true := by
  refine covers_solved ?_ hA
  cases h : (procOk ss && isCl c && inB s 0 127) with
  | true => rfl
  | false => rw [hA.2 h] at h0; cases h0

end Go.Proofs.Ytciccbbgamklbaa
