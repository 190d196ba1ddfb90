/-
  spec.l3Copy: a Program in rows of its own, apart.
-/
import Derived.Test.YtbbcbfhijmhnkaaDoorImplEd
import Derived.Deep.AppendLies
namespace Go.Proofs.YtbbcbfhijmhnkaaDoor
open Go.RowKit
set_option linter.unusedVariables false
set_option linter.unusedSimpArgs false
set_option maxHeartbeats 4000000
set_option maxRecDepth 20000

/-- One more row. -/
theorem Own13.app {W w' : World} {base : Nat} {u u' x : Value} {us : List Value} {qs : List (List Stm)} {p : List Stm} (h : Own13 W base u us qs) (hx : W.ownsRow base 36 3 x p.length (cells3 p))
    (hf : ∀ y ∈ us, ∀ k, y.ownBlock = some k → x.ownBlock ≠ some k) (hg : W.grownBy w' u.ownBlock) (ho : w'.ownsRow base 34 1 u' (qs.length + 1) (us ++ [x])) : Own13 w' base u' (us ++ [x]) (qs ++ [p]) := by
  have hul := h.len
  have kn : ∀ {u : Value} {r : List Stm}, W.ownsRow base 36 3 u r.length (cells3 r) → w'.ownsRow base 36 3 u r.length (cells3 r) := fun {u r} hu => own_grown hu hg (fun k hk e => kind13 hu h.row (by decide) k hk e)
  refine ⟨by simpa using ho, fun j y r h1 h2 => ?_, fun a b y z k hne hy hz hk hk' => ?_⟩
  · by_cases hj : j < us.length
    · rw [List.getElem?_append_left hj] at h1
      rw [List.getElem?_append_left (by omega)] at h2
      exact kn (h.each j y r h1 h2)
    · have h9 := (List.getElem?_eq_some_iff.1 h1).1
      simp at h9
      have hj' : j = us.length := by omega
      subst hj'
      rw [hul] at h2
      simp at h1 h2
      subst h1 h2
      exact kn hx
  · have sp : ∀ {i : Nat} {a : Value}, (us ++ [x])[i]? = some a → (i < us.length ∧ us[i]? = some a) ∨ (i = us.length ∧ a = x) := by
      intro i a h
      by_cases hi : i < us.length
      · rw [List.getElem?_append_left hi] at h
        exact .inl ⟨hi, h⟩
      · have h9 := (List.getElem?_eq_some_iff.1 h).1
        simp at h9
        have hi' : i = us.length := by omega
        subst hi'
        simp at h
        exact .inr ⟨rfl, h.symm⟩
    rcases sp hy with ⟨_, h1⟩ | ⟨e1, rfl⟩
    · rcases sp hz with ⟨_, h2⟩ | ⟨e2, rfl⟩
      · exact h.ap a b y z k hne h1 h2 hk hk'
      · exact hf y (List.mem_of_getElem? h1) k hk hk'
    · rcases sp hz with ⟨_, h2⟩ | ⟨e2, rfl⟩
      · exact hf z (List.mem_of_getElem? h2) k hk' hk
      · omega

theorem Own13.lts {w : World} {base : Nat} {v : Value} {us : List Value} {ps : List (List Stm)} (h : Own13 w base v us ps) : ∀ y ∈ us, ∀ k, y.ownBlock = some k → k < w.heap.size := fun y hy k hk => by
  obtain ⟨j, hj⟩ := List.getElem?_of_mem hy
  have hjl := (List.getElem?_eq_some_iff.1 hj).1
  rw [h.len] at hjl
  exact ((h.each j y ps[j] hj (by simp)).lt k hk).2

theorem reads3_cells {w : World} {p : List Stm} {g off m c : Nat} (h0 : 0 < p.length) (h : Reads3 w (.slice (some ⟨g, off, none⟩) m c) p) : m = p.length ∧ ∀ j u, (cells3 p)[j]? = some u → w.cell? ((⟨g, off, none⟩ : Addr).add j) = some u := by
  obtain ⟨ao, cap, e, hc⟩ := h
  injection e with e1 e2 e3
  subst e1 e2
  refine ⟨rfl, fun j u hu => ?_⟩
  have hjl := (List.getElem?_eq_some_iff.1 hu).1
  rw [cells3_length] at hjl
  obtain ⟨g', off', e, q0, q1, q2⟩ := hc (j / 3) p[j / 3] (by simp)
  simp only [Option.some.injEq, Addr.mk.injEq, and_true] at e
  obtain ⟨rfl, rfl⟩ := e
  obtain ⟨a0, a1, a2⟩ := cells3_get p (j / 3) p[j / 3] (by simp)
  rw [Addr.add_lit]
  rcases (by omega : j % 3 = 0 ∨ j % 3 = 1 ∨ j % 3 = 2) with h | h | h
  · have ej : j = j / 3 * 3 := by omega
    rw [← ej] at a0 q0
    rw [hu] at a0
    rw [q0, a0]
  · have ej : j = j / 3 * 3 + 1 := by omega
    rw [← ej] at a1
    rw [Nat.add_assoc, ← ej] at q1
    rw [hu] at a1
    rw [q1, a1]
  · have ej : j = j / 3 * 3 + 2 := by omega
    rw [← ej] at a2
    rw [Nat.add_assoc, ← ej] at q2
    rw [hu] at a2
    rw [q2, a2]

theorem reads3_form {w : World} {p : List Stm} {u : Value} (h0 : 0 < p.length) (h : Reads3 w u p) : ∃ g off c, u = .slice (some ⟨g, off, none⟩) p.length c := by
  obtain ⟨ao, cap, rfl, hc⟩ := h
  obtain ⟨g, off, rfl, _⟩ := hc 0 p[0] (by simp [h0])
  exact ⟨g, off, cap, rfl⟩

end Go.Proofs.YtbbcbfhijmhnkaaDoor
