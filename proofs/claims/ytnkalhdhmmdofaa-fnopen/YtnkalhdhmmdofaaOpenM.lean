/-
  Chapter 12, mathematics: a walk and one place more.
-/
import Derived.Test.YtnkalhdhmmdofaaWalkM
namespace Go.Proofs.Ytnkalhdhmmdofaa
open Go.RowKit
set_option linter.unusedVariables false
set_option maxHeartbeats 1000000

theorem getD_app {xs ys : List Int} {k : Nat} (h : k < xs.length) : (xs ++ ys).getD k 0 = xs.getD k 0 := by
  simp [List.getD, List.getElem?_append_left h]

theorem wk_ext (c : Int) (ps : List (List Stm)) (xs ys : List Int) : ∀ k, k * 2 + 1 < xs.length → wk c ps (xs ++ ys) k = wk c ps xs k
  | 0, _ => rfl
  | k + 1, h => by
    unfold wk
    rw [wk_ext c ps xs ys k (by omega), getD_app (by omega), getD_app (by omega)]

/-- One place more. -/
theorem walkA_more {c : Int} {ps : List (List Stm)} {xs : List Int} {n : Nat} {s : WS} (h : walkA c ps xs n = some s) (hx : xs.length = 2 * n) (hn : n < 100) (a b : Int) :
    walkA c ps (xs ++ [a, b]) (n + 1) = if hasPl (nxW ps s) a b then some (doW c ps s a.toNat b.toNat) else none := by
  unfold walkA at h ⊢
  split at h
  · rename_i hh
    obtain ⟨h1, h2, h3, h4, h5⟩ := hh
    rw [if_pos ⟨h1, by omega, by omega, by rw [getD_app (by omega)]; exact h4, by rw [getD_app (by omega)]; exact h5⟩]
    obtain ⟨m, rfl⟩ : ∃ m, n = m + 1 := ⟨n - 1, by omega⟩
    have e : m + 1 + 1 - 1 = m + 1 := by omega
    rw [e]
    have h' : wk c ps xs m = some s := by
      have : m + 1 - 1 = m := by omega
      rw [this] at h; exact h
    show (wk c ps (xs ++ [a, b]) m).bind _ = _
    rw [wk_ext c ps xs [a, b] m (by omega), h', Option.bind_some]
    have ea : (xs ++ [a, b]).getD ((m + 1) * 2) 0 = a := by simp [List.getD, List.getElem?_append_right (show xs.length ≤ (m + 1) * 2 by omega), show (m + 1) * 2 - xs.length = 0 by omega]
    have eb : (xs ++ [a, b]).getD ((m + 1) * 2 + 1) 0 = b := by simp [List.getD, List.getElem?_append_right (show xs.length ≤ (m + 1) * 2 + 1 by omega), show (m + 1) * 2 + 1 - xs.length = 1 by omega]
    rw [ea, eb]
  · cases h

theorem more_isSome {ps : List (List Stm)} {xs : List Int} {n : Nat} {s : WS} (h : walkA 1 ps xs n = some s) (hx : xs.length = 2 * n) (hn : n < 100) (a b : Int) : (walkA 1 ps (xs ++ [a, b]) (n + 1)).isSome = hasPl (nxW ps s) a b := by
  rw [walkA_more h hx hn]
  cases hasPl (nxW ps s) a b <;> rfl

theorem more_open {ps : List (List Stm)} {xs : List Int} {n : Nat} {s : WS} (h : walkA 1 ps xs n = some s) (hx : xs.length = 2 * n) (hn : n < 100) {a b : Int} (hh : hasPl (nxW ps s) a b = true) : openA ps (xs ++ [a, b]) (n + 1) = flatP (opS (stW ps s.p s.i) s) := by
  unfold openA
  rw [walkA_more h hx hn, if_pos hh]
  rfl

/-- What the law asks of each place that may come next. -/
theorem next_is {ps : List (List Stm)} {s : WS} {k : Nat} (hp : CanP ps) (h : OkW ps s k) {j m : Nat} (hm : (nxW ps s).length = 2 * m) (hj : j < m) :
    hasPl (nxW ps s) ((nxW ps s).getD (j * 2) 0) ((nxW ps s).getD (j * 2 + 1) 0) = true ∧
    ((stW ps s.p s.i).k = 8 → flatP (opS (stW ps s.p s.i) s) = flatP s.op ++ [(s.p : Int), (s.i : Int)] ∧ (nxW ps s).getD (j * 2 + 1) 0 = 0) ∧
    ((stW ps s.p s.i).k = 9 → ∃ op' t, s.op = op' ++ [t] ∧ flatP (opS (stW ps s.p s.i) s) = flatP op' ∧ (nxW ps s).getD (j * 2) 0 = t.1 ∧ (nxW ps s).getD (j * 2 + 1) 0 = (t.2.1 : Int) + 1) ∧
    (¬ (stW ps s.p s.i).k = 8 → ¬ (stW ps s.p s.i).k = 9 → flatP (opS (stW ps s.p s.i) s) = flatP s.op ∧ (nxW ps s).getD (j * 2) 0 = s.p) := by
  refine ⟨?_, fun h8 => ?_, fun h9 => ?_, fun h8 h9 => ?_⟩
  · unfold hasPl
    rw [hm, Nat.mul_div_cancel_left m (by omega)]
    exact hasN_of m hj rfl rfl
  · unfold nxW nxS at hm ⊢
    rw [if_pos h8] at hm ⊢
    have : j = 0 := by simp at hm; omega
    subst this
    unfold opS
    rw [if_pos h8, flatP_app]
    exact ⟨rfl, rfl⟩
  · have h8 : ¬ (stW ps s.p s.i).k = 8 := by omega
    unfold nxW nxS at hm ⊢
    rw [if_neg h8, if_pos h9] at hm ⊢
    rcases List.eq_nil_or_concat s.op with e | ⟨op', t, e⟩
    · rw [e] at hm; simp [lastPl] at hm; omega
    · rw [List.concat_eq_append] at e
      have el : s.op.getLast? = some t := by rw [e]; simp
      unfold lastPl at hm ⊢
      rw [el] at hm ⊢
      have : j = 0 := by simp at hm; omega
      subst this
      refine ⟨op', t, e, ?_, rfl, rfl⟩
      unfold opS
      rw [if_neg h8, if_pos h9, e]; simp
  · unfold nxW nxS at hm ⊢
    rw [if_neg h8, if_neg h9] at hm ⊢
    rw [pairs_len] at hm
    unfold opS
    rw [if_neg h8, if_neg h9]
    exact ⟨rfl, (pairs_get (s.p : Int) _ j (by omega)).1⟩

end Go.Proofs.Ytnkalhdhmmdofaa
