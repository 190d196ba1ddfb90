/-
  What the laws on Edits have in hand.
-/
import Derived.Test.YtgpnoahmpmbgfaaHeldProg
namespace Go.Proofs.Ytgpnoahmpmbgfaa
open Go.RowKit
set_option linter.unusedVariables false
set_option linter.unusedSimpArgs false
set_option maxHeartbeats 2000000

theorem edited13_small (ps : List (List Stm)) (k pr a : Int) (s : Stm) : ((edited13 ps k pr a s).getD []).length ≤ 1048576 ∧ ∀ p ∈ (edited13 ps k pr a s).getD [], p.length ≤ 1048576 := by
  cases h : edited13 ps k pr a s with
  | none => simp
  | some qs =>
    have hq : programOk qs = true := by
      unfold edited13 at h
      by_cases h1 : programOk ps = true
      · rw [if_pos h1] at h
        cases h2 : made13 ps k pr a s with
        | none => rw [h2] at h; cases h
        | some rs =>
          rw [h2] at h
          simp only at h
          by_cases h3 : programOk rs = true
          · rw [if_pos h3] at h
            cases h
            exact h3
          · rw [if_neg h3] at h
            cases h
      · rw [if_neg h1] at h
        cases h
    obtain ⟨h1, h2, h3⟩ := progs13 hq
    simp only [Option.getD_some]
    exact ⟨by omega, fun p hp => by have := (procs13 (h3 p hp)).2.1; omega⟩

/-- Rows that lie elsewhere stay where others are marked. -/
theorem Own13.marks {w w' : World} {base top b : Nat} {v : Value} {us : List Value} {ps : List (List Stm)} (h : Own13 w b v us ps) (hm : Marks base top w w') (hb : (∀ k, b ≤ k → k < w.heap.size → k < base ∨ top ≤ k)) : Own13 w' b v us ps :=
  ⟨own_marks h.row hm (fun k hk => hb k (h.row.lt k hk).1 (h.row.lt k hk).2), fun j u p h1 h2 => own_marks (h.each j u p h1 h2) hm (fun k hk => hb k ((h.each j u p h1 h2).lt k hk).1 ((h.each j u p h1 h2).lt k hk).2), h.ap⟩

theorem later13 {G : Prop} {F R : Nat → Value → Value → World → Prop} (h : (∀ X u x y, F X u x y → R X u x y) → G) (k : ∀ X u x y, F X u x y → R X u x y) : G := h k
theorem later13b {G : Prop} {F R : Nat → Value → World → Prop} (h : (∀ X x y, F X x y → R X x y) → G) (k : ∀ X x y, F X x y → R X x y) : G := h k

theorem ownP_marks {w w' : World} {base top b t : Nat} {v : Value} {ps : List (List Stm)} (h : OwnP w b t v ps) (hm : Marks base top w w') (hd : t ≤ base ∨ top ≤ b) : OwnP w' b t v ps := by
  obtain ⟨us, ho, ht, hu⟩ := h
  refine ⟨us, own_marks ho hm (fun k hk => ?_), ht, fun j x p h1 h2 => ⟨own_marks (hu j x p h1 h2).1 hm (fun k hk => ?_), (hu j x p h1 h2).2⟩⟩
  · have h1 := ht k hk
    have h2 := (ho.lt k hk).1
    omega
  · have h3 := (hu j x p h1 h2).2 k hk
    have h4 := ((hu j x p h1 h2).1.lt k hk).1
    omega

theorem ownP_belowB {w w' : World} {B b t : Nat} {v : Value} {ps : List (List Stm)} (h : OwnP w b t v ps) (hb : Below B w w') (hd : t ≤ B) : OwnP w' b t v ps := by
  obtain ⟨us, ho, ht, hu⟩ := h
  refine ⟨us, own_below ho hb (fun k hk => ?_), ht, fun j x p h1 h2 => ⟨own_below (hu j x p h1 h2).1 hb (fun k hk => ?_), (hu j x p h1 h2).2⟩⟩
  · have h1 := ht k hk
    omega
  · have h3 := (hu j x p h1 h2).2 k hk
    omega

end Go.Proofs.Ytgpnoahmpmbgfaa
