/-
  impl.clonedProcs: rows of its own, apart.
-/
import Derived.Test.YtbbcbfhijmhnkaaDoorG29Need14
namespace Go.Proofs.YtbbcbfhijmhnkaaDoor
open Go.RowKit
set_option linter.unusedVariables false
set_option linter.unusedSimpArgs false
set_option maxHeartbeats 4000000
set_option maxRecDepth 20000

theorem readsP_vals {w : World} {v : Value} {ps : List (List Stm)} (h : ReadsP w v ps) : ∃ us : List Value, us.length = ps.length ∧ Reads w v us ∧ (∀ u ∈ us, u.oneCell' = true) ∧ ∀ (j : Nat) (u : Value) (p : List Stm), us[j]? = some u → ps[j]? = some p → Reads3 w u p := by
  obtain ⟨ao, cap, rfl, hc⟩ := h
  have each : ∀ i, i < ps.length → ∃ u : Value, (∃ g off, ao = some ⟨g, off, none⟩ ∧ w.cell? ⟨g, off + i, none⟩ = some u) ∧ (∃ a m c, u = .slice a m c) ∧ ∀ p, ps[i]? = some p → Reads3 w u p := fun i hi => by
    obtain ⟨g, off, u, e, hcell, hr⟩ := hc i ps[i] (by simp [hi])
    refine ⟨u, ⟨g, off, e, hcell⟩, reads3_slice hr, fun p hp => ?_⟩
    rw [List.getElem?_eq_getElem hi] at hp
    cases hp
    exact hr
  obtain ⟨us, hl, hq⟩ := list_of ps.length each
  refine ⟨us, hl, ⟨ao, cap, by rw [hl], fun j x hx => ?_⟩, fun u hu => ?_, fun j u p h1 h2 => (hq j u h1).2.2 p h2⟩
  · exact (hq j x hx).1
  · obtain ⟨j, hj⟩ := List.getElem?_of_mem hu
    obtain ⟨a, m, c, rfl⟩ := (hq j u hj).2.1
    rfl

theorem kind13 {w : World} {b b' : Nat} {e e' : TypeId} {s s' n n' : Nat} {v v' : Value} {xs xs' : List Value} (h : w.ownsRow b e s v n xs) (h' : w.ownsRow b' e' s' v' n' xs') (hne : e ≠ e') : ∀ k, v.ownBlock = some k → v'.ownBlock ≠ some k := by
  intro k hk hk'
  rcases h.2 with ⟨rfl, _⟩ | ⟨g, cap, cur, rfl, _, hg, _⟩
  · cases hk
  · rcases h'.2 with ⟨rfl, _⟩ | ⟨g', cap', cur', rfl, _, hg', _⟩
    · cases hk'
    · obtain rfl : g = k := Option.some.inj hk
      obtain rfl : g' = g := Option.some.inj hk'
      rw [hg] at hg'
      simp at hg'
      exact hne hg'.2

theorem own_put13 {w : World} {base : Nat} {e : TypeId} {g n cap : Nat} {xs : List Value} (h : w.ownsRow base e 1 (.slice (some ⟨g, 0, none⟩) n cap) n xs) (j : Nat) (u : Value) : (w.setCell ⟨g, j, none⟩ u).ownsRow base e 1 (.slice (some ⟨g, 0, none⟩) n cap) n (xs.set j u) := (h.stored j u).1

theorem set_mid13 (vs us : List Value) (u : Value) (j : Nat) (hj : vs.length = j) (hl : j < us.length) : (vs ++ us.drop j).set j u = (vs ++ [u]) ++ us.drop (j + 1) := by
  subst hj
  rw [List.set_append_right _ _ (Nat.le_refl _), Nat.sub_self, List.drop_eq_getElem_cons hl, List.set_cons_zero, List.append_assoc]
  rfl

end Go.Proofs.YtbbcbfhijmhnkaaDoor
