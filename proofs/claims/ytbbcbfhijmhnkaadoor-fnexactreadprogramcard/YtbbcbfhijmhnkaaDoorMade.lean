/-
  impl.madeBy.
-/
import Derived.Test.YtbbcbfhijmhnkaaDoorG31EditOk
import Derived.Test.YtbbcbfhijmhnkaaDoorRegionLast
namespace Go.Proofs.YtbbcbfhijmhnkaaDoor
open Go.RowKit
set_option linter.unusedVariables false
set_option linter.unusedSimpArgs false
set_option maxHeartbeats 4000000
set_option maxRecDepth 20000

theorem _root_.Go.World.ownsRow.mono13 {w : World} {base : Nat} {e : TypeId} {s : Nat} {v : Value} {n : Nat} {xs : List Value} (h : w.ownsRow base e s v n xs) : w.ownsRow base e s v n xs := h

/-- One of the rows is spliced, then stored. -/
theorem Own13.spl {w w4 : World} {base G cap g m c i q c' : Nat} {us : List Value} {ps : List (List Stm)} {R : List Stm} (h : Own13 w base (.slice (some ⟨G, 0, none⟩) ps.length cap) us ps) (hi : i < ps.length)
    (hui : us[i]? = some (.slice (some ⟨g, 0, none⟩) m c)) (hg : w.grownBy w4 (some g)) (ho : w4.ownsRow base 36 3 (.slice (some ⟨q, 0, none⟩) R.length c') R.length (cells3 R)) (hq : q = g ∨ w.heap.size ≤ q) :
    Own13 (w4.setCell ⟨G, i, none⟩ (.slice (some ⟨q, 0, none⟩) R.length c')) base (.slice (some ⟨G, 0, none⟩) ps.length cap) (us.set i (.slice (some ⟨q, 0, none⟩) R.length c')) (ps.set i R) := by
  have hul := h.len
  obtain ⟨p, hp⟩ : ∃ p, ps[i]? = some p := ⟨ps[i], by simp [hi]⟩
  have hoi := h.each i _ p hui hp
  have hGg : G ≠ g := fun e => kind13 hoi h.row (by decide) g rfl (by rw [e]; rfl)
  have hrow4 : w4.ownsRow base 34 1 (.slice (some ⟨G, 0, none⟩) ps.length cap) ps.length us := own_grown h.row hg (fun k hk e => hGg ((Option.some.inj hk).trans (Option.some.inj e).symm))
  have keep : ∀ {u : Value} {r : List Stm}, w4.ownsRow base 36 3 u r.length (cells3 r) → (w4.setCell ⟨G, i, none⟩ (.slice (some ⟨q, 0, none⟩) R.length c')).ownsRow base 36 3 u r.length (cells3 r) := fun {u r} hu =>
    own_grown hu (grown_setRow13 _ _ _ _) (fun k hk e => kind13 hu hrow4 (by decide) k hk e)
  refine ⟨by rw [List.length_set]; exact own_put13 hrow4 i _, fun j u r h1 h2 => ?_, fun a b x y k hne hx hy hk hk' => ?_⟩
  · by_cases e : i = j
    · subst e
      rw [List.getElem?_set_self (by omega)] at h1
      rw [List.getElem?_set_self hi] at h2
      cases h1; cases h2
      exact keep ho
    · rw [List.getElem?_set_ne e] at h1 h2
      have h3 := h.each j u r h1 h2
      exact keep (own_grown h3 hg (fun k hk e' => h.ap j i u _ k (fun e2 => e e2.symm) h1 hui hk (by rw [← e']; rfl)))
  · have old : ∀ {a : Nat} {x : Value}, a ≠ i → (us.set i (.slice (some ⟨q, 0, none⟩) R.length c'))[a]? = some x → us[a]? = some x := fun {a x} hne hx => by rwa [List.getElem?_set_ne (Ne.symm hne)] at hx
    have new : ∀ {x : Value}, (us.set i (.slice (some ⟨q, 0, none⟩) R.length c'))[i]? = some x → x = .slice (some ⟨q, 0, none⟩) R.length c' := fun {x} hx => by
      rw [List.getElem?_set_self (by omega)] at hx
      exact (Option.some.inj hx).symm
    have cross : ∀ {a : Nat} {x : Value}, a ≠ i → us[a]? = some x → x.ownBlock ≠ some q := fun {a x} hne hx hk => by
      have hal : a < ps.length := by have := (List.getElem?_eq_some_iff.1 hx).1; omega
      have h5 := (h.each a x ps[a] hx (by simp [hal])).lt q hk
      rcases hq with rfl | hq
      · exact h.ap a i x _ q hne hx hui hk rfl
      · omega
    by_cases e1 : a = i
    · subst e1
      have h6 := new hx
      subst h6
      have h7 := old (Ne.symm hne) hy
      rw [show k = q from (Option.some.inj hk).symm] at hk'
      exact cross (Ne.symm hne) h7 hk'
    · by_cases e2 : b = i
      · subst e2
        have h6 := new hy
        subst h6
        rw [show k = q from (Option.some.inj hk').symm] at hk
        exact cross e1 (old e1 hx) hk
      · exact h.ap a b x y k hne (old e1 hx) (old e2 hy) hk hk'

theorem progs13 {ps : List (List Stm)} (h : programOk ps = true) : 1 ≤ ps.length ∧ ps.length ≤ 4 ∧ ∀ p ∈ ps, procOk p = true := by
  unfold programOk at h
  simp only [Bool.and_eq_true, decide_eq_true_eq] at h
  obtain ⟨⟨h1, h2⟩, h3⟩ := h
  refine ⟨h1, h2, fun p hp => ?_⟩
  have := List.all_eq_true.1 h3 p hp
  unfold partOk at this
  simp only [Bool.and_eq_true] at this
  exact this.1

theorem stm_y {s : Stm} (h : stmtOk s.k s.x s.y = true) : 0 ≤ s.y ∧ s.y ≤ 11 := by
  obtain ⟨k, x, y⟩ := s
  unfold stmtOk inB at h
  simp only at h ⊢
  repeat' split at h
  all_goals simp at h
  all_goals omega

theorem procs13 {p : List Stm} (h : procOk p = true) : 0 < p.length ∧ p.length ≤ 12 ∧ ∀ s ∈ p, 0 ≤ s.y ∧ s.y ≤ 11 := by
  have h0 := h
  unfold procOk at h0
  simp only [Bool.and_eq_true, decide_eq_true_eq] at h0
  obtain ⟨⟨⟨h1, h2⟩, _⟩, _⟩ := h0
  exact ⟨h1, h2, fun s hs => stm_y (procOk_stm h hs)⟩

end Go.Proofs.YtbbcbfhijmhnkaaDoor
