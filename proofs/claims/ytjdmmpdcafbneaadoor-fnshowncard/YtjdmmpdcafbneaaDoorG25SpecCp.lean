/-
  Put together out of: Made, ImplEd, SpecCp.
-/
import Derived.Test.YtjdmmpdcafbneaaDoorG23EditOk
import Derived.Test.YtjdmmpdcafbneaaDoorRegionLast
import Derived.Deep.AppendLies
/-
  impl.madeBy.
-/
namespace Go.Proofs.YtjdmmpdcafbneaaDoor
open Go.RowKit
set_option linter.unusedVariables false
set_option linter.unusedSimpArgs false
set_option maxHeartbeats 4000000
set_option maxRecDepth 20000

theorem _root_.Go.World.ownsRow.mono13 {w : World} {base : Nat} {e : TypeId} {s : Nat} {v : Value} {n : Nat} {xs : List Value} (h : w.ownsRow base e s v n xs) : w.ownsRow base e s v n xs := h

/-- One of the rows is spliced, then stored. -/
theorem Own13.spl {w w4 : World} {base G cap g m c i q c' : Nat} {us : List Value} {ps : List (List Stm)} {R : List Stm} (h : Own13 w base (.slice (some ⟨G, 0, none⟩) ps.length cap) us ps) (hi : i < ps.length)
    (hui : us[i]? = some (.slice (some ⟨g, 0, none⟩) m c)) (hg : w.grownBy w4 (some g)) (ho : w4.ownsRow base 42 3 (.slice (some ⟨q, 0, none⟩) R.length c') R.length (cells3 R)) (hq : q = g ∨ w.heap.size ≤ q) :
    Own13 (w4.setCell ⟨G, i, none⟩ (.slice (some ⟨q, 0, none⟩) R.length c')) base (.slice (some ⟨G, 0, none⟩) ps.length cap) (us.set i (.slice (some ⟨q, 0, none⟩) R.length c')) (ps.set i R) := by
  have hul := h.len
  obtain ⟨p, hp⟩ : ∃ p, ps[i]? = some p := ⟨ps[i], by simp [hi]⟩
  have hoi := h.each i _ p hui hp
  have hGg : G ≠ g := fun e => kind13 hoi h.row (by decide) g rfl (by rw [e]; rfl)
  have hrow4 : w4.ownsRow base 39 1 (.slice (some ⟨G, 0, none⟩) ps.length cap) ps.length us := own_grown h.row hg (fun k hk e => hGg ((Option.some.inj hk).trans (Option.some.inj e).symm))
  have keep : ∀ {u : Value} {r : List Stm}, w4.ownsRow base 42 3 u r.length (cells3 r) → (w4.setCell ⟨G, i, none⟩ (.slice (some ⟨q, 0, none⟩) R.length c')).ownsRow base 42 3 u r.length (cells3 r) := fun {u r} hu =>
    own_grown hu (grown_setRow13 _ _ _ _) (fun k hk e => kind13 hu hrow4 (by decide) k hk e)
  refine ⟨by rw [List.length_set]; exact own_put13 hrow4 i _, fun j u r h1 h2 => ?_, fun a b x y k hne hx hy hk hk' => ?_⟩
  · by_cases e : i = j
    · subst e
      rw [List.getElem?_set_self (by omega)] at h1
      rw [List.getElem?_set_self hi] at h2
      cases h1; cases h2
      exact keep ho
    · rw [List.getElem?_set_ne e] at h1 h2
      have h3 := h.each j u r h1 h2
      exact keep (own_grown h3 hg (fun k hk e' => h.ap j i u _ k (fun e2 => e e2.symm) h1 hui hk (by rw [← e']; rfl)))
  · have old : ∀ {a : Nat} {x : Value}, a ≠ i → (us.set i (.slice (some ⟨q, 0, none⟩) R.length c'))[a]? = some x → us[a]? = some x := fun {a x} hne hx => by rwa [List.getElem?_set_ne (Ne.symm hne)] at hx
    have new : ∀ {x : Value}, (us.set i (.slice (some ⟨q, 0, none⟩) R.length c'))[i]? = some x → x = .slice (some ⟨q, 0, none⟩) R.length c' := fun {x} hx => by
      rw [List.getElem?_set_self (by omega)] at hx
      exact (Option.some.inj hx).symm
    have cross : ∀ {a : Nat} {x : Value}, a ≠ i → us[a]? = some x → x.ownBlock ≠ some q := fun {a x} hne hx hk => by
      have hal : a < ps.length := by have := (List.getElem?_eq_some_iff.1 hx).1; omega
      have h5 := (h.each a x ps[a] hx (by simp [hal])).lt q hk
      rcases hq with rfl | hq
      · exact h.ap a i x _ q hne hx hui hk rfl
      · omega
    by_cases e1 : a = i
    · subst e1
      have h6 := new hx
      subst h6
      have h7 := old (Ne.symm hne) hy
      rw [show k = q from (Option.some.inj hk).symm] at hk'
      exact cross (Ne.symm hne) h7 hk'
    · by_cases e2 : b = i
      · subst e2
        have h6 := new hy
        subst h6
        rw [show k = q from (Option.some.inj hk').symm] at hk
        exact cross e1 (old e1 hx) hk
      · exact h.ap a b x y k hne (old e1 hx) (old e2 hy) hk hk'

theorem progs13 {ps : List (List Stm)} (h : programOk ps = true) : 1 ≤ ps.length ∧ ps.length ≤ 4 ∧ ∀ p ∈ ps, procOk p = true := by
  unfold programOk at h
  simp only [Bool.and_eq_true, decide_eq_true_eq] at h
  obtain ⟨⟨h1, h2⟩, h3⟩ := h
  refine ⟨h1, h2, fun p hp => ?_⟩
  have := List.all_eq_true.1 h3 p hp
  unfold partOk at this
  simp only [Bool.and_eq_true] at this
  exact this.1

theorem stm_y {s : Stm} (h : stmtOk s.k s.x s.y = true) : 0 ≤ s.y ∧ s.y ≤ 11 := by
  obtain ⟨k, x, y⟩ := s
  unfold stmtOk inB at h
  simp only at h ⊢
  repeat' split at h
  all_goals simp at h
  all_goals omega

theorem procs13 {p : List Stm} (h : procOk p = true) : 0 < p.length ∧ p.length ≤ 12 ∧ ∀ s ∈ p, 0 ≤ s.y ∧ s.y ≤ 11 := by
  have h0 := h
  unfold procOk at h0
  simp only [Bool.and_eq_true, decide_eq_true_eq] at h0
  obtain ⟨⟨⟨h1, h2⟩, _⟩, _⟩ := h0
  exact ⟨h1, h2, fun s hs => stm_y (procOk_stm h hs)⟩

end Go.Proofs.YtjdmmpdcafbneaaDoor

/-
  impl.Edited.
-/
namespace Go.Proofs.YtjdmmpdcafbneaaDoor
open Go.RowKit
set_option linter.unusedVariables false
set_option linter.unusedSimpArgs false
set_option maxHeartbeats 4000000
set_option maxRecDepth 20000

theorem editB_made (ps : List (List Stm)) (e : Edt) : editB ps e = (made13 ps e.k e.pr e.a e.s).isSome := by
  obtain ⟨k, pr, a, s⟩ := e
  unfold editB made13 placeB
  simp only
  generalize ps.getD pr.toNat [] = q
  generalize wiB pr ps.length = b1
  generalize wiB a q.length = b2
  rcases (by omega : k = 1 ∨ k = 2 ∨ k = 3 ∨ k = 4 ∨ (k ≠ 1 ∧ k ≠ 2 ∧ k ≠ 3 ∧ k ≠ 4)) with rfl | rfl | rfl | rfl | ⟨h1, h2, h3, h4⟩
  · cases b1 <;> cases b2 <;> simp
  · cases b1 <;> cases b2 <;> simp
  · cases b1 <;> cases b2 <;> cases hz : zeroS s <;> simp
  · by_cases h1 : pr = 0 <;> by_cases h2 : a = 0 <;> cases hz : zeroS s <;> simp [h1, h2]
  · simp [h1, h2, h3, h4]

theorem own13_nil (w : World) (base : Nat) : Own13 w base (.slice none 0 0) [] [] :=
  ⟨⟨rfl, .inl ⟨rfl, rfl⟩⟩, fun j u p h => by simp at h, fun i j a b k _ h => by simp at h⟩

theorem Own13.small {w : World} {base : Nat} {v : Value} {us : List Value} {ps : List (List Stm)} (h : Own13 w base v us ps) : ps.length ≤ maxLen ∧ ∀ p ∈ ps, p.length ≤ maxLen := by
  have len : ∀ {e : TypeId} {s n : Nat} {x : Value} {xs : List Value}, w.ownsRow base e s x n xs → n ≤ maxLen := by
    intro e s n x xs hx
    rcases hx.2 with ⟨_, h0⟩ | ⟨g, cap, cur, _, _, _, h1, h2, _⟩
    · omega
    · exact Nat.le_trans h1 h2
  refine ⟨len h.row, fun p hp => ?_⟩
  obtain ⟨j, hj⟩ := List.getElem?_of_mem hp
  have hjl := (List.getElem?_eq_some_iff.1 hj).1
  have hju : j < us.length := by rw [h.len]; exact hjl
  exact len (h.each j us[j] p (by simp) hj)

end Go.Proofs.YtjdmmpdcafbneaaDoor

/-
  spec.l3Copy: a Program in rows of its own, apart.
-/
namespace Go.Proofs.YtjdmmpdcafbneaaDoor
open Go.RowKit
set_option linter.unusedVariables false
set_option linter.unusedSimpArgs false
set_option maxHeartbeats 4000000
set_option maxRecDepth 20000

/-- One more row. -/
theorem Own13.app {W w' : World} {base : Nat} {u u' x : Value} {us : List Value} {qs : List (List Stm)} {p : List Stm} (h : Own13 W base u us qs) (hx : W.ownsRow base 42 3 x p.length (cells3 p))
    (hf : ∀ y ∈ us, ∀ k, y.ownBlock = some k → x.ownBlock ≠ some k) (hg : W.grownBy w' u.ownBlock) (ho : w'.ownsRow base 39 1 u' (qs.length + 1) (us ++ [x])) : Own13 w' base u' (us ++ [x]) (qs ++ [p]) := by
  have hul := h.len
  have kn : ∀ {u : Value} {r : List Stm}, W.ownsRow base 42 3 u r.length (cells3 r) → w'.ownsRow base 42 3 u r.length (cells3 r) := fun {u r} hu => own_grown hu hg (fun k hk e => kind13 hu h.row (by decide) k hk e)
  refine ⟨by simpa using ho, fun j y r h1 h2 => ?_, fun a b y z k hne hy hz hk hk' => ?_⟩
  · by_cases hj : j < us.length
    · rw [List.getElem?_append_left hj] at h1
      rw [List.getElem?_append_left (by omega)] at h2
      exact kn (h.each j y r h1 h2)
    · have h9 := (List.getElem?_eq_some_iff.1 h1).1
      simp at h9
      have hj' : j = us.length := by omega
      subst hj'
      rw [hul] at h2
      simp at h1 h2
      subst h1 h2
      exact kn hx
  · have sp : ∀ {i : Nat} {a : Value}, (us ++ [x])[i]? = some a → (i < us.length ∧ us[i]? = some a) ∨ (i = us.length ∧ a = x) := by
      intro i a h
      by_cases hi : i < us.length
      · rw [List.getElem?_append_left hi] at h
        exact .inl ⟨hi, h⟩
      · have h9 := (List.getElem?_eq_some_iff.1 h).1
        simp at h9
        have hi' : i = us.length := by omega
        subst hi'
        simp at h
        exact .inr ⟨rfl, h.symm⟩
    rcases sp hy with ⟨_, h1⟩ | ⟨e1, rfl⟩
    · rcases sp hz with ⟨_, h2⟩ | ⟨e2, rfl⟩
      · exact h.ap a b y z k hne h1 h2 hk hk'
      · exact hf y (List.mem_of_getElem? h1) k hk hk'
    · rcases sp hz with ⟨_, h2⟩ | ⟨e2, rfl⟩
      · exact hf z (List.mem_of_getElem? h2) k hk' hk
      · omega

theorem Own13.lts {w : World} {base : Nat} {v : Value} {us : List Value} {ps : List (List Stm)} (h : Own13 w base v us ps) : ∀ y ∈ us, ∀ k, y.ownBlock = some k → k < w.heap.size := fun y hy k hk => by
  obtain ⟨j, hj⟩ := List.getElem?_of_mem hy
  have hjl := (List.getElem?_eq_some_iff.1 hj).1
  rw [h.len] at hjl
  exact ((h.each j y ps[j] hj (by simp)).lt k hk).2

theorem reads3_cells {w : World} {p : List Stm} {g off m c : Nat} (h0 : 0 < p.length) (h : Reads3 w (.slice (some ⟨g, off, none⟩) m c) p) : m = p.length ∧ ∀ j u, (cells3 p)[j]? = some u → w.cell? ((⟨g, off, none⟩ : Addr).add j) = some u := by
  obtain ⟨ao, cap, e, hc⟩ := h
  injection e with e1 e2 e3
  subst e1 e2
  refine ⟨rfl, fun j u hu => ?_⟩
  have hjl := (List.getElem?_eq_some_iff.1 hu).1
  rw [cells3_length] at hjl
  obtain ⟨g', off', e, q0, q1, q2⟩ := hc (j / 3) p[j / 3] (by simp)
  simp only [Option.some.injEq, Addr.mk.injEq, and_true] at e
  obtain ⟨rfl, rfl⟩ := e
  obtain ⟨a0, a1, a2⟩ := cells3_get p (j / 3) p[j / 3] (by simp)
  rw [Addr.add_lit]
  rcases (by omega : j % 3 = 0 ∨ j % 3 = 1 ∨ j % 3 = 2) with h | h | h
  · have ej : j = j / 3 * 3 := by omega
    rw [← ej] at a0 q0
    rw [hu] at a0
    rw [q0, a0]
  · have ej : j = j / 3 * 3 + 1 := by omega
    rw [← ej] at a1
    rw [Nat.add_assoc, ← ej] at q1
    rw [hu] at a1
    rw [q1, a1]
  · have ej : j = j / 3 * 3 + 2 := by omega
    rw [← ej] at a2
    rw [Nat.add_assoc, ← ej] at q2
    rw [hu] at a2
    rw [q2, a2]

theorem reads3_form {w : World} {p : List Stm} {u : Value} (h0 : 0 < p.length) (h : Reads3 w u p) : ∃ g off c, u = .slice (some ⟨g, off, none⟩) p.length c := by
  obtain ⟨ao, cap, rfl, hc⟩ := h
  obtain ⟨g, off, rfl, _⟩ := hc 0 p[0] (by simp [h0])
  exact ⟨g, off, cap, rfl⟩

end Go.Proofs.YtjdmmpdcafbneaaDoor
