/-
  Mathematics: gates (no dump is spoken of).
-/
import Derived.Test.YtjlfmjoallnojacBfs
namespace Go.Proofs.Ytjlfmjoallnojac
set_option linter.unusedVariables false

/-- d is a gate of i. -/
def Dom (ss : List Stm) (d i : Nat) : Prop := Rch ss (-1) i ∧ d < ss.length ∧ ¬ Rch ss d i

theorem rk_all {ss : List Stm} {wo : Int} : ∀ {k i : Nat}, rk ss wo k i → rk ss (-1) k i
  | 0, i, h => ⟨by omega, h.2⟩
  | k + 1, i, h => by
    obtain ⟨_, j, hj, hm⟩ := h
    exact ⟨by omega, j, rk_all hj, hm⟩

theorem Rch.all {ss : List Stm} {wo : Int} {i : Nat} (h : Rch ss wo i) : Rch ss (-1) i := h.imp (fun _ h => rk_all h)
theorem Rch.lt {ss : List Stm} (hp : procOk ss = true) {wo : Int} {i : Nat} (h : Rch ss wo i) : i < ss.length := by obtain ⟨k, h⟩ := h; exact rk_in hp h
theorem Rch.ne {ss : List Stm} {wo : Int} {i : Nat} (h : Rch ss wo i) : (i : Int) ≠ wo := by obtain ⟨k, h⟩ := h; exact rk_ne h
theorem Rch.next {ss : List Stm} {wo : Int} {j i : Nat} (h : Rch ss wo j) (hm : (i : Int) ∈ nx ss j) (hne : (i : Int) ≠ wo) : Rch ss wo i := by
  obtain ⟨k, h⟩ := h
  exact ⟨k + 1, hne, j, h, hm⟩
theorem Rch.zero {ss : List Stm} : Rch ss (-1) 0 := ⟨0, by omega, rfl⟩

theorem Dom.self {ss : List Stm} (hp : procOk ss = true) {i : Nat} (h : Rch ss (-1) i) : Dom ss i i := ⟨h, h.lt hp, fun h => h.ne rfl⟩

theorem Dom.zero {ss : List Stm} {d : Nat} (h : Dom ss d 0) : d = 0 := by
  by_cases e : d = 0
  · exact e
  · exact absurd (⟨0, by omega, rfl⟩ : Rch ss d 0) h.2.2

/-- A gate of what is next is a gate of this one. -/
theorem Dom.back {ss : List Stm} {d j i : Nat} (h : Dom ss d i) (hj : Rch ss (-1) j) (hm : (i : Int) ∈ nx ss j) (hne : d ≠ i) : Dom ss d j :=
  ⟨hj, h.2.1, fun hr => h.2.2 (hr.next hm (by omega))⟩

/-- Gates of gates are gates. -/
theorem Dom.trans {ss : List Stm} {c d i : Nat} (h : Dom ss c d) (k : Dom ss d i) : Dom ss c i := by
  refine ⟨k.1, h.2.1, fun hr => ?_⟩
  -- along a way to i without c every one is reached without c; d is on it
  obtain ⟨n, hn⟩ := hr
  have key : ∀ n i, rk ss c n i → (¬ Rch ss d i → Rch ss c d) := by
    intro n
    induction n with
    | zero =>
      rintro i ⟨h1, rfl⟩ hnd
      by_cases e : d = 0
      · subst e; exact ⟨0, h1, rfl⟩
      · exact absurd (⟨0, by omega, rfl⟩ : Rch ss d 0) hnd
    | succ n ih =>
      rintro i ⟨h1, j, hj, hm⟩ hnd
      by_cases hjd : Rch ss d j
      · by_cases e : i = d
        · subst e; exact ⟨n + 1, h1, j, hj, hm⟩
        · exact absurd (hjd.next hm (by omega)) hnd
      · exact ih j hj hjd
  exact h.2.2 (key n i hn k.2.2)

/-- The list of gates, rising. -/
def IsGates (ss : List Stm) (n : Int) (A : List Int) : Prop := A.Pairwise (· < ·) ∧ ∀ x, x ∈ A ↔ ∃ d i : Nat, x = (d : Int) ∧ n = (i : Int) ∧ Dom ss d i

theorem isGates_unique {ss : List Stm} {n : Int} {A B : List Int} (ha : IsGates ss n A) (hb : IsGates ss n B) : A = B :=
  sorted_ext A B ha.1 hb.1 (fun x => (ha.2 x).trans (hb.2 x).symm)

open Classical in
noncomputable def gatesL (ss : List Stm) (n : Int) : List Int :=
  ((List.range ss.length).filter (fun d => decide (∃ i : Nat, n = (i : Int) ∧ Dom ss d i))).map (fun i : Nat => (i : Int))

theorem gatesL_is (ss : List Stm) (n : Int) : IsGates ss n (gatesL ss n) := by
  unfold gatesL
  refine ⟨?_, fun x => ?_⟩
  · rw [List.pairwise_map]
    exact (List.pairwise_lt_range.sublist List.filter_sublist).imp (fun h => by omega)
  · simp only [List.mem_map, List.mem_filter, List.mem_range, decide_eq_true_eq]
    constructor
    · rintro ⟨d, ⟨_, i, hi, h⟩, rfl⟩; exact ⟨d, i, rfl, hi, h⟩
    · rintro ⟨d, i, rfl, hi, h⟩; exact ⟨d, ⟨h.2.1, i, hi, h⟩, rfl⟩

theorem gatesL_length (ss : List Stm) (n : Int) : (gatesL ss n).length ≤ ss.length := by
  unfold gatesL
  rw [List.length_map]
  exact Nat.le_trans (List.length_filter_le _ _) (by simp)

theorem mem_gatesL {ss : List Stm} {d i : Nat} : (d : Int) ∈ gatesL ss i ↔ Dom ss d i := by
  rw [(gatesL_is ss i).2]
  constructor
  · rintro ⟨d', i', e1, e2, h⟩
    obtain rfl : d = d' := by omega
    obtain rfl : i = i' := by omega
    exact h
  · exact fun h => ⟨d, i, rfl, rfl, h⟩

theorem gatesL_in {ss : List Stm} {n x : Int} (h : x ∈ gatesL ss n) : ∃ d i : Nat, x = (d : Int) ∧ n = (i : Int) ∧ Dom ss d i := ((gatesL_is ss n).2 x).1 h

/-- Tables of sets. -/
def dm (gs : List (List Bool)) (i d : Nat) : Bool := (gs.getD i []).getD d false

/-- A step shows nothing that is none. -/
def ClosedAt (gs : List (List Bool)) (j : Nat) (y : Int) : Prop := ∀ i : Nat, y = (i : Int) → ∀ d, dm gs i d = true → d = i ∨ dm gs j d = true

structure GInv (ss : List Stm) (gs : List (List Bool)) : Prop where
  len : gs.length = 12
  row : ∀ b ∈ gs, b.length = 12
  none : ∀ i d, ¬ Rch ss (-1) i → dm gs i d = false
  zero : ∀ d, dm gs 0 d = true → d = 0
  all : ∀ i d, Dom ss d i → dm gs i d = true

theorem GInv.rowLen {ss : List Stm} {gs : List (List Bool)} (h : GInv ss gs) {i : Nat} (hi : i < 12) : (gs.getD i []).length = 12 := by
  have : i < gs.length := by rw [h.len]; exact hi
  rw [show gs.getD i [] = gs[i] by simp [List.getD, this]]
  exact h.row _ (List.getElem_mem _)

theorem closed_exact {ss : List Stm} {gs : List (List Bool)} (hp : procOk ss = true) (h : GInv ss gs) (hc : ∀ j : Nat, Rch ss (-1) j → ∀ y ∈ nx ss j, ClosedAt gs j y) : ∀ i d, dm gs i d = true ↔ Dom ss d i := by
  have key : ∀ (d k i : Nat), rk ss (d : Int) k i → dm gs i d = false := by
    intro d k
    induction k with
    | zero =>
      rintro i ⟨h1, rfl⟩
      cases e : dm gs 0 d
      · rfl
      · have := h.zero d e; omega
    | succ k ih =>
      rintro i ⟨h1, j, hj, hm⟩
      cases e : dm gs i d
      · rfl
      · rcases hc j ⟨k, rk_all hj⟩ _ hm i rfl d e with e2 | e2
        · omega
        · rw [ih j hj] at e2; exact e2.symm
  intro i d
  constructor
  · intro hd
    have hr : Rch ss (-1) i := Classical.byContradiction (fun hn => by rw [h.none i d hn] at hd; cases hd)
    have hnr : ¬ Rch ss d i := fun ⟨k, hk⟩ => by rw [key d k i hk] at hd; cases hd
    refine ⟨hr, Classical.byContradiction (fun hl => ?_), hnr⟩
    -- one that is none of the statements is on no way
    obtain ⟨k, hk⟩ := hr
    have key2 : ∀ (k i : Nat), rk ss (-1) k i → rk ss (d : Int) k i := by
      intro k
      induction k with
      | zero => rintro i ⟨_, rfl⟩; exact ⟨by have := (procOk_parts hp).1; omega, rfl⟩
      | succ k ih =>
        rintro i ⟨h1, j, hj, hm⟩
        have := rk_in hp (show rk ss (-1) (k + 1) i from ⟨h1, j, hj, hm⟩)
        exact ⟨by omega, j, ih j hj, hm⟩
    exact hnr ⟨k, key2 k i hk⟩
  · exact h.all i d

/-- What is left at a step. -/
def fewer (gs : List (List Bool)) (j i : Nat) : List Bool := (List.zipWith (· && ·) (gs.getD i []) (gs.getD j [])).set i true

theorem fewer_length {ss : List Stm} {gs : List (List Bool)} (h : GInv ss gs) {j i : Nat} (hj : j < 12) (hi : i < 12) : (fewer gs j i).length = 12 := by
  unfold fewer
  rw [List.length_set, List.length_zipWith, h.rowLen hi, h.rowLen hj]
  rfl

theorem getDG_set (bs : List Bool) (j i : Nat) (x : Bool) (hj : j < bs.length) : (bs.set j x).getD i false = if i = j then x else bs.getD i false := by
  simp only [List.getD, List.getElem?_set]
  by_cases h : j = i
  · subst h; simp [hj]
  · rw [if_neg h, if_neg (fun e => h e.symm)]

theorem fewer_at {ss : List Stm} {gs : List (List Bool)} (h : GInv ss gs) {j i : Nat} (hj : j < 12) (hi : i < 12) (d : Nat) : (fewer gs j i).getD d false = if d = i then true else (dm gs i d && dm gs j d) := by
  unfold fewer
  rw [getDG_set _ _ _ _ (by rw [List.length_zipWith, h.rowLen hi, h.rowLen hj]; omega)]
  split
  · rfl
  · have h1 := h.rowLen hi
    have h2 := h.rowLen hj
    unfold dm
    generalize gs.getD i [] = a at *
    generalize gs.getD j [] = b at *
    by_cases hd : d < 12
    · have e1 : d < a.length := by omega
      have e2 : d < b.length := by omega
      simp [List.getD, List.getElem?_zipWith, e1, e2]
    · have e1 : a[d]? = none := List.getElem?_eq_none (by omega)
      simp [List.getD, List.getElem?_zipWith, e1]

theorem closedAt_of_same {ss : List Stm} {gs : List (List Bool)} (h : GInv ss gs) {j i : Nat} (hj : j < 12) (hi : i < 12) (he : fewer gs j i = gs.getD i []) : ClosedAt gs j i := by
  intro i' e d hd
  obtain rfl : i = i' := by omega
  have := fewer_at h hj hi d
  rw [he] at this
  change dm gs i d = _ at this
  rw [this] at hd
  split at hd
  · rename_i e; exact .inl e
  · simp at hd; exact .inr hd.2

theorem dm_set {gs : List (List Bool)} {i : Nat} (hi : i < gs.length) (b : List Bool) (k d : Nat) : dm (gs.set i b) k d = if k = i then b.getD d false else dm gs k d := by
  unfold dm
  simp only [List.getD, List.getElem?_set]
  by_cases e : i = k
  · subst e; simp [hi]
  · rw [if_neg e, if_neg (fun h => e h.symm)]

theorem GInv.step {ss : List Stm} {gs : List (List Bool)} (hp : procOk ss = true) (h : GInv ss gs) {j i : Nat} (hj : Rch ss (-1) j) (hm : (i : Int) ∈ nx ss j) : GInv ss (gs.set i (fewer gs j i)) := by
  have hjl := hj.lt hp
  have hir : Rch ss (-1) i := hj.next hm (by omega)
  have hil := hir.lt hp
  have h12 := (procOk_parts hp).2.1
  have hig : i < gs.length := by rw [h.len]; omega
  refine ⟨by simp [h.len], fun b hb => ?_, fun k d hk => ?_, fun d hd => ?_, fun k d hk => ?_⟩
  · rcases List.mem_or_eq_of_mem_set hb with hb | rfl
    · exact h.row b hb
    · exact fewer_length h (by omega) (by omega)
  · rw [dm_set hig]
    split
    · rename_i e; subst e; exact absurd hir hk
    · exact h.none k d hk
  · rw [dm_set hig] at hd
    split at hd
    · rename_i e
      subst e
      rw [fewer_at h (by omega) (by omega)] at hd
      split at hd
      · assumption
      · simp at hd; exact h.zero d hd.1
    · exact h.zero d hd
  · rw [dm_set hig]
    split
    · rename_i e
      subst e
      rw [fewer_at h (by omega) (by omega)]
      split
      · rfl
      · rename_i hne
        simp [h.all k d hk, h.all j d (hk.back hj hm hne)]
    · exact h.all k d hk

/-- How many are left. -/
def cnt (gs : List (List Bool)) : Nat := gs.flatten.countP id

theorem cnt_set : ∀ (gs : List (List Bool)) (i : Nat) (b : List Bool), i < gs.length → cnt (gs.set i b) + (gs.getD i []).countP id = cnt gs + b.countP id
  | [], i, b, h => by simp at h
  | g :: gs, 0, b, h => by simp [cnt]; omega
  | g :: gs, i + 1, b, h => by
    have := cnt_set gs i b (by simpa using h)
    simp only [cnt, List.set_cons_succ, List.flatten_cons, List.countP_append, List.getD_cons_succ] at this ⊢
    omega

theorem count_lt : ∀ (a b : List Bool), a.length = b.length → (∀ d, a.getD d false = true → b.getD d false = true) → a.countP id ≤ b.countP id ∧ (a ≠ b → a.countP id < b.countP id)
  | [], [], _, _ => by simp
  | [], _ :: _, h, _ => by simp at h
  | _ :: _, [], h, _ => by simp at h
  | x :: a, y :: b, h, hs => by
    have ih := count_lt a b (by simpa using h) (fun d hd => by simpa using hs (d + 1) (by simpa using hd))
    have h0 := hs 0
    simp only [List.countP_cons]
    cases x <;> cases y
    · simp only [id]; refine ⟨ih.1, fun hne => ih.2 (fun e => hne (by rw [e]))⟩
    · simp only [id]; simp; omega
    · simp at h0
    · simp only [id]; simp; exact ⟨ih.1, fun hne => ih.2 hne⟩

theorem cnt_fewer {ss : List Stm} {gs : List (List Bool)} (hp : procOk ss = true) (h : GInv ss gs) {j i : Nat} (hj : Rch ss (-1) j) (hm : (i : Int) ∈ nx ss j) (hne : fewer gs j i ≠ gs.getD i []) : cnt (gs.set i (fewer gs j i)) < cnt gs := by
  have hjl := hj.lt hp
  have hir : Rch ss (-1) i := hj.next hm (by omega)
  have hil := hir.lt hp
  have h12 := (procOk_parts hp).2.1
  have hig : i < gs.length := by rw [h.len]; omega
  have h1 := cnt_set gs i (fewer gs j i) hig
  have h2 := (count_lt (fewer gs j i) (gs.getD i []) (by rw [fewer_length h (by omega) (by omega), h.rowLen (by omega)]) (fun d hd => by
    rw [fewer_at h (by omega) (by omega)] at hd
    split at hd
    · rename_i e; subst e; exact h.all d d (Dom.self hp hir)
    · simp at hd; exact hd.1)).2 hne
  omega

theorem GInv.start {ss : List Stm} {gs : List (List Bool)} (hp : procOk ss = true) (hl : gs.length = 12) (hr : ∀ b ∈ gs, b.length = 12) (h0 : ∀ i d, ¬ Rch ss (-1) i → dm gs i d = false)
    (h1 : ∀ i d, d < 12 → Rch ss (-1) i → i ≠ 0 → dm gs i d = true) (h2 : ∀ d, dm gs 0 d = true ↔ d = 0) : GInv ss gs := by
  have h12 := (procOk_parts hp).2.1
  refine ⟨hl, hr, h0, fun d hd => (h2 d).1 hd, fun i d h => ?_⟩
  by_cases e : i = 0
  · subst e; exact (h2 d).2 h.zero
  · exact h1 i d (by have := h.2.1; omega) h.1 e

end Go.Proofs.Ytjlfmjoallnojac
