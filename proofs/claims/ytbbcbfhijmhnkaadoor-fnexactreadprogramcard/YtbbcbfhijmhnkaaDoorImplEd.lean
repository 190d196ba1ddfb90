/-
  impl.Edited.
-/
import Derived.Test.YtbbcbfhijmhnkaaDoorMade
namespace Go.Proofs.YtbbcbfhijmhnkaaDoor
open Go.RowKit
set_option linter.unusedVariables false
set_option linter.unusedSimpArgs false
set_option maxHeartbeats 4000000
set_option maxRecDepth 20000

theorem editB_made (ps : List (List Stm)) (e : Edt) : editB ps e = (made13 ps e.k e.pr e.a e.s).isSome := by
  obtain ⟨k, pr, a, s⟩ := e
  unfold editB made13 placeB
  simp only
  generalize ps.getD pr.toNat [] = q
  generalize wiB pr ps.length = b1
  generalize wiB a q.length = b2
  rcases (by omega : k = 1 ∨ k = 2 ∨ k = 3 ∨ k = 4 ∨ (k ≠ 1 ∧ k ≠ 2 ∧ k ≠ 3 ∧ k ≠ 4)) with rfl | rfl | rfl | rfl | ⟨h1, h2, h3, h4⟩
  · cases b1 <;> cases b2 <;> simp
  · cases b1 <;> cases b2 <;> simp
  · cases b1 <;> cases b2 <;> cases hz : zeroS s <;> simp
  · by_cases h1 : pr = 0 <;> by_cases h2 : a = 0 <;> cases hz : zeroS s <;> simp [h1, h2]
  · simp [h1, h2, h3, h4]

theorem own13_nil (w : World) (base : Nat) : Own13 w base (.slice none 0 0) [] [] :=
  ⟨⟨rfl, .inl ⟨rfl, rfl⟩⟩, fun j u p h => by simp at h, fun i j a b k _ h => by simp at h⟩

theorem Own13.small {w : World} {base : Nat} {v : Value} {us : List Value} {ps : List (List Stm)} (h : Own13 w base v us ps) : ps.length ≤ maxLen ∧ ∀ p ∈ ps, p.length ≤ maxLen := by
  have len : ∀ {e : TypeId} {s n : Nat} {x : Value} {xs : List Value}, w.ownsRow base e s x n xs → n ≤ maxLen := by
    intro e s n x xs hx
    rcases hx.2 with ⟨_, h0⟩ | ⟨g, cap, cur, _, _, _, h1, h2, _⟩
    · omega
    · exact Nat.le_trans h1 h2
  refine ⟨len h.row, fun p hp => ?_⟩
  obtain ⟨j, hj⟩ := List.getElem?_of_mem hp
  have hjl := (List.getElem?_eq_some_iff.1 hj).1
  have hju : j < us.length := by rw [h.len]; exact hjl
  exact len (h.each j us[j] p (by simp) hj)

end Go.Proofs.YtbbcbfhijmhnkaaDoor
