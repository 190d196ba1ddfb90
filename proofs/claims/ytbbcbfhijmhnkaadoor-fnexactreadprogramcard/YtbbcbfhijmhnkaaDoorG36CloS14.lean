/-
  Put together out of: CloI14, CloS14.
-/
import Derived.Test.YtbbcbfhijmhnkaaDoorG29Need14
import Derived.Test.YtbbcbfhijmhnkaaDoorSpecCp
import Derived.BigRegion
/-
  impl.closureOf, impl.Closure.
-/
namespace Go.Proofs.YtbbcbfhijmhnkaaDoor
open Go.RowKit
set_option linter.unusedVariables false
set_option linter.unusedSimpArgs false
set_option maxHeartbeats 4000000
set_option maxRecDepth 20000

theorem Apart13.snoc {us : List Value} {x : Value} (h : Apart13 us) (hf : ∀ y ∈ us, ∀ k, y.ownBlock = some k → x.ownBlock ≠ some k) : Apart13 (us ++ [x]) := by
  intro a b y z k hne hy hz hk hk'
  have sp : ∀ {i : Nat} {a : Value}, (us ++ [x])[i]? = some a → (i < us.length ∧ us[i]? = some a) ∨ (i = us.length ∧ a = x) := by
    intro i a h
    by_cases hi : i < us.length
    · rw [List.getElem?_append_left hi] at h
      exact .inl ⟨hi, h⟩
    · have h9 := (List.getElem?_eq_some_iff.1 h).1
      simp at h9
      have hi' : i = us.length := by omega
      subst hi'
      simp at h
      exact .inr ⟨rfl, h.symm⟩
  rcases sp hy with ⟨_, h1⟩ | ⟨e1, rfl⟩
  · rcases sp hz with ⟨_, h2⟩ | ⟨e2, rfl⟩
    · exact h a b y z k hne h1 h2 hk hk'
    · exact hf y (List.mem_of_getElem? h1) k hk hk'
  · rcases sp hz with ⟨_, h2⟩ | ⟨e2, rfl⟩
    · exact hf z (List.mem_of_getElem? h2) k hk' hk
    · omega

theorem clo14_get {ps : List (List Stm)} {R : List Int} {k : Nat} (h : k < R.length) (hO : O14 ps R) : ∃ h2 : R[k].toNat < ps.length, (clo14 ps R)[k]? = some (ps[R[k].toNat].map (ren14 R)) := by
  obtain ⟨h0, h1⟩ := hO.inn R[k] (List.getElem_mem h)
  obtain ⟨h2, h3⟩ := getD14 h0 h1
  refine ⟨h2, ?_⟩
  unfold clo14
  rw [List.getElem?_map, List.getElem?_eq_getElem h]
  simp only [Option.map_some, h3]
theorem clo14_length (ps : List (List Stm)) (R : List Int) : (clo14 ps R).length = R.length := by simp [clo14]


end Go.Proofs.YtbbcbfhijmhnkaaDoor

/-
  spec.l14Closure, spec.Closure.
-/
namespace Go.Proofs.YtbbcbfhijmhnkaaDoor
open Go.RowKit
set_option linter.unusedVariables false
set_option linter.unusedSimpArgs false
set_option maxHeartbeats 8000000
set_option maxRecDepth 20000

theorem later14 {G : Prop} {F R : Nat → Value → Nat → Nat → World → Prop} (h : (∀ X u g c y, F X u g c y → R X u g c y) → G) (k : ∀ X u g c y, F X u g c y → R X u g c y) : G := h k

def Stop14 (p : Prop) : Prop := p
theorem stop_of14 {p : Prop} (h : Stop14 p) : p := h

theorem kind14 {w : World} {base n : Nat} {z : Value} {xs : List Value} {X gn cn : Nat} (hX : w.heap[X]? = some (.cells #[z] 34 (0, 0))) (ho : w.ownsRow base 36 3 (.slice (some ⟨gn, 0, none⟩) n cn) n xs) (hne : (34 : Nat) ≠ 36) (e : X = gn) : False := by
  subst e
  rcases ho.2 with ⟨h, _⟩ | ⟨g', cap', cur, h, _, h4, _⟩
  · cases h
  · cases h
    rw [hX] at h4
    injection h4 with h4
    injection h4 with _ h4
    exact hne h4



end Go.Proofs.YtbbcbfhijmhnkaaDoor
