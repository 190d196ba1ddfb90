/-
  Chapter 10, mathematics: the least relations and tables are there; what the functions of the chapter answer.
-/
import Derived.Test.YtnjbihfceckpfaaTabM
namespace Go.Proofs.Ytnjbihfceckpfaa
open Go.RowKit
set_option linter.unusedVariables false
set_option maxHeartbeats 1000000

theorem inner_some {E : Nat → List Int} {ss : List Stm} (hp : procOk ss = true) (hE : ∀ i, i < ss.length → Smalls (E i)) : ∃ R, R.length = ss.length ∧ IsInner E ss R := by
  obtain ⟨hpos, _, _⟩ := procOk_parts hp
  have main : ∀ n R, InnS E ss R → roomT R = n → ∃ R, R.length = ss.length ∧ IsInner E ss R := by
    intro n
    induction n using Nat.strongRecOn with
    | ind n ih =>
      intro R h hn
      by_cases hc : Clo E ss R
      · exact ⟨R, h.len, h.good, hc, h.und⟩
      · have : ∃ (i : Nat) (hi : i < ss.length) (x : Int), x ∈ nextsS ss[i] i ∧ ¬ SubR (comp (R.getD i []) (E i)) (R.getD x.toNat []) := by
          refine Classical.byContradiction fun hno => hc ⟨h.unit, fun i hi x hx => Classical.byContradiction fun hs => hno ⟨i, hi, x, hx, hs⟩⟩
        obtain ⟨i, hi, x, hx, hs⟩ := this
        have hxl := next_lt hp hi hx
        have hr := comp_smalls (h.good i hi) (hE i hi)
        have P := (Pss.begin h).put hxl hr (fun C hC hc => h.goes hi (hE i hi) x hx C hC hc) (fun e => hs (sub_of_joi (h.good _ hxl) hr e))
        rcases P.st with ⟨e, _⟩ | ⟨_, e⟩
        · cases e
        · exact ih _ (by omega) _ P.inn rfl
  exact main _ _ (InnS.begin hpos) rfl

theorem getD_map_range (n : Nat) (f : Nat → List Int) {i : Nat} (hi : i < n) : ((List.range n).map f).getD i [] = f i := by
  simp [List.getD, hi]

theorem round_some {c : Int} (hc : c = 1 ∨ c = 2) {ps : List (List Stm)} (hp : CanP ps) {T : List (List Int)} (hT : GoodN ps.length T) : ∃ T', T'.length = ps.length ∧ IsRound c ps T T' := by
  have h : ∀ i (hi : i < ps.length), ∃ R, IsInner (effN c T ps[i]) ps[i] R := fun i hi => by
    obtain ⟨R, _, h⟩ := inner_some (hp i hi).1 (fun j hj => effN_smalls hc hp hT hi hj)
    exact ⟨R, h⟩
  refine ⟨(List.range ps.length).map (fun i => if hi : i < ps.length then backs ps[i] (Classical.choose (h i hi)) else []), by simp, fun i hi => ?_⟩
  refine ⟨Classical.choose (h i hi), Classical.choose_spec (h i hi), ?_⟩
  rw [getD_map_range _ _ hi, dif_pos hi]

theorem tables_some {c : Int} (hc : c = 1 ∨ c = 2) {ps : List (List Stm)} (hp : CanP ps) : ∃ T, T.length = ps.length ∧ IsTables c ps T := by
  have main : ∀ n T, T.length = ps.length → Ris c ps T → roomT T = n → ∃ T, T.length = ps.length ∧ IsTables c ps T := by
    intro n
    induction n using Nat.strongRecOn with
    | ind n ih =>
      intro T hl h hn
      obtain ⟨T', hl', hr⟩ := round_some hc hp h.good
      by_cases e : T' = T
      · subst e; exact ⟨T', hl, h.last hr⟩
      · have := roomT_ne (T := T) (U := T') (by omega) (by rw [hl]; exact h.good) (by rw [hl]; exact hr.good) (by rw [hl]; exact h.up T' hr) (fun e' => e e'.symm)
        exact ih _ (by omega) T' hl' (h.next hc hp hr) rfl
  exact main _ (List.replicate ps.length zero7) (by simp) (Ris.zero (fun i hi => by simp [List.getD, hi])) rfl

/-- Are program and client right? -/
def okB (ps : List (List Stm)) (c : Int) : Bool := programOk ps && decide (c = 1 ∨ c = 2)

theorem okB_parts {ps : List (List Stm)} {c : Int} (h : okB ps c = true) : programOk ps = true ∧ (c = 1 ∨ c = 2) ∧ CanP ps ∧ ps.length ≤ 4 := by
  unfold okB at h
  simp only [Bool.and_eq_true, decide_eq_true_eq] at h
  have h1 := h.1
  unfold programOk at h1
  simp only [Bool.and_eq_true, decide_eq_true_eq] at h1
  exact ⟨h.1, h.2, canP_of h.1, by omega⟩

/-- What Tables answers. -/
def TabA (ps : List (List Stm)) (c : Int) (T : List (List Int)) : Prop := (okB ps c = true → T.length = ps.length ∧ IsTables c ps T) ∧ (okB ps c = false → T = [])

theorem tabA_some (ps : List (List Stm)) (c : Int) : ∃ T, TabA ps c T := by
  cases h : okB ps c with
  | false => exact ⟨[], by simp [h], fun _ => rfl⟩
  | true =>
    obtain ⟨_, hc, hp, _⟩ := okB_parts h
    obtain ⟨T, h1, h2⟩ := tables_some hc hp
    exact ⟨T, fun _ => ⟨h1, h2⟩, by simp [h]⟩

theorem tables_eq {c : Int} {ps : List (List Stm)} {T U : List (List Int)} (h : IsTables c ps T) (k : IsTables c ps U) (hl : T.length = ps.length) (hk : U.length = ps.length) : T = U :=
  list_getD (by omega) (fun i hi => h.uniq k (by omega))

theorem inner_same {E : Nat → List Int} {ss : List Stm} {R R' : List (List Int)} (h : IsInner E ss R) (k : IsInner E ss R') (hl : R.length = ss.length) (hk : R'.length = ss.length) : R = R' :=
  list_getD (by omega) (fun i hi => h.uniq k (by omega))

theorem tabA_len {ps : List (List Stm)} {c : Int} {T : List (List Int)} (h : TabA ps c T) : T.length ≤ 1000 ∧ ∀ xs ∈ T, xs.length ≤ 1000 := by
  cases hb : okB ps c with
  | false => rw [h.2 hb]; simp
  | true =>
    obtain ⟨hl, ht⟩ := h.1 hb
    obtain ⟨_, _, _, h4⟩ := okB_parts hb
    refine ⟨by omega, fun xs hx => ?_⟩
    obtain ⟨j, hj, rfl⟩ := List.getElem_of_mem hx
    have := (ht.good j (by omega)).1
    have e : T.getD j [] = T[j] := by simp [List.getD, hj]
    rw [e] at this
    omega

/-- What Effect answers. -/
def canB (ps : List (List Stm)) (c : Int) (s : Stm) : Bool := okB ps c && (stmtOk s.k s.x s.y && (decide (s.k ≠ 8) || decide (s.y < ps.length)))
def EffA (ps : List (List Stm)) (c : Int) (s : Stm) (A : List Int) : Prop := (canB ps c s = true → ∃ T, T.length = ps.length ∧ IsTables c ps T ∧ A = effL c T s) ∧ (canB ps c s = false → A = [])

theorem canB_parts {ps : List (List Stm)} {c : Int} {s : Stm} (h : canB ps c s = true) : okB ps c = true ∧ CanS ps.length s := by
  unfold canB at h
  simp only [Bool.and_eq_true, Bool.or_eq_true, decide_eq_true_eq] at h
  refine ⟨h.1, h.2.1, fun h8 => ?_⟩
  rcases h.2.2 with h' | h'
  · exact absurd h8 h'
  · exact h'

theorem effA_some (ps : List (List Stm)) (c : Int) (s : Stm) : ∃ A, EffA ps c s A ∧ A.length ≤ 7 := by
  cases h : canB ps c s with
  | false => exact ⟨[], ⟨by simp [h], fun _ => rfl⟩, by simp⟩
  | true =>
    obtain ⟨hb, hs⟩ := canB_parts h
    obtain ⟨_, hc, hp, _⟩ := okB_parts hb
    obtain ⟨T, h1, h2⟩ := tables_some hc hp
    exact ⟨effL c T s, ⟨fun _ => ⟨T, h1, h2, rfl⟩, by simp [h]⟩, Nat.le_of_eq (effL_smalls hc h2.good hs).1⟩

/-- What Inner answers. -/
def inB10 (ps : List (List Stm)) (c i : Int) : Bool := okB ps c && (decide (0 ≤ i) && decide (i < ps.length))
def InnA (ps : List (List Stm)) (c i : Int) (A : List (List Int)) : Prop :=
  (inB10 ps c i = true → ∃ (T : List (List Int)) (h : i.toNat < ps.length), T.length = ps.length ∧ IsTables c ps T ∧ A.length = ps[i.toNat].length ∧ IsInner (effN c T ps[i.toNat]) ps[i.toNat] A) ∧ (inB10 ps c i = false → A = [])

theorem inB10_parts {ps : List (List Stm)} {c i : Int} (h : inB10 ps c i = true) : okB ps c = true ∧ ∃ j : Nat, i = j ∧ j < ps.length := by
  unfold inB10 at h
  simp only [Bool.and_eq_true, decide_eq_true_eq] at h
  exact ⟨h.1, i.toNat, by omega, by omega⟩

theorem innA_some (ps : List (List Stm)) (c i : Int) : ∃ A, InnA ps c i A := by
  cases h : inB10 ps c i with
  | false => exact ⟨[], by simp [h], fun _ => rfl⟩
  | true =>
    obtain ⟨hb, j, rfl, hj⟩ := inB10_parts h
    obtain ⟨_, hc, hp, _⟩ := okB_parts hb
    obtain ⟨T, h1, h2⟩ := tables_some hc hp
    obtain ⟨R, h3, h4⟩ := inner_some (hp j hj).1 (fun k hk => effN_smalls hc hp h2.good hj hk)
    exact ⟨R, fun _ => ⟨T, by simpa using hj, h1, h2, h3, h4⟩, by simp [h]⟩

theorem innA_len {ps : List (List Stm)} {c i : Int} {A : List (List Int)} (h : InnA ps c i A) : A.length ≤ 1000 ∧ ∀ xs ∈ A, xs.length ≤ 1000 := by
  cases hb : inB10 ps c i with
  | false => rw [h.2 hb]; simp
  | true =>
    obtain ⟨T, hi, _, _, hl, ht⟩ := h.1 hb
    obtain ⟨ho, j, rfl, hj⟩ := inB10_parts hb
    obtain ⟨_, _, hp, _⟩ := okB_parts ho
    have h12 := (procOk_parts (hp _ hi).1).2.1
    refine ⟨by omega, fun xs hx => ?_⟩
    obtain ⟨j, hj, rfl⟩ := List.getElem_of_mem hx
    have := (ht.good j (by omega)).1
    have e : A.getD j [] = A[j] := by simp [List.getD, hj]
    rw [e] at this
    omega

/-- What Holds answers. -/
def relsB (ps : List (List Stm)) (c : Int) (X : List (List Int)) : Bool := okB ps c && (decide (X.length = ps.length) && X.all relOk)
def withB (T X : List (List Int)) : Nat → Bool
  | 0 => true
  | k + 1 => withB T X k && withinAns (T.getD k []) (X.getD k [])
def HoldA (ps : List (List Stm)) (c : Int) (X : List (List Int)) (b : Bool) : Prop :=
  (relsB ps c X = true → ∃ T, T.length = ps.length ∧ IsRound c ps X T ∧ b = withB T X ps.length) ∧ (relsB ps c X = false → b = false)

theorem relsB_parts {ps : List (List Stm)} {c : Int} {X : List (List Int)} (h : relsB ps c X = true) : okB ps c = true ∧ X.length = ps.length ∧ GoodN ps.length X ∧ ∀ x ∈ X, relOk x = true := by
  unfold relsB at h
  simp only [Bool.and_eq_true, decide_eq_true_eq, List.all_eq_true] at h
  refine ⟨h.1, h.2.1, fun i hi => ?_, h.2.2⟩
  have hi' : i < X.length := by omega
  have e : X.getD i [] = X[i] := by simp [List.getD, hi']
  rw [e]
  exact relOk_iff.1 (h.2.2 _ (List.getElem_mem hi'))

theorem holdA_some (ps : List (List Stm)) (c : Int) (X : List (List Int)) : ∃ b, HoldA ps c X b := by
  cases h : relsB ps c X with
  | false => exact ⟨false, by simp [h], fun _ => rfl⟩
  | true =>
    obtain ⟨hb, hl, hg, _⟩ := relsB_parts h
    obtain ⟨_, hc, hp, _⟩ := okB_parts hb
    obtain ⟨T, h1, h2⟩ := round_some hc hp hg
    exact ⟨_, fun _ => ⟨T, h1, h2, rfl⟩, by simp [h]⟩

theorem round_same {c : Int} {ps : List (List Stm)} {T U V : List (List Int)} (h : IsRound c ps T U) (k : IsRound c ps T V) (hl : U.length = ps.length) (hk : V.length = ps.length) : U = V :=
  list_getD (by omega) (fun i hi => round_uniq h k (by omega))

end Go.Proofs.Ytnjbihfceckpfaa
