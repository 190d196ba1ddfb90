/-
  Mathematics: ways by their length, then number by number; lists that are heaps (no dump is spoken of).
-/
import Derived.Test.YtebadimjpbhagaaG00IntS
namespace Go.Proofs.Ytebadimjpbhagaa
set_option linter.unusedVariables false

/-- The lesser by the first number in which they are unlike. -/
def lexB : List Int → List Int → Bool
  | [], [] => false
  | [], _ :: _ => true
  | _ :: _, [] => false
  | x :: a, y :: b => decide (x < y) || (decide (x = y) && lexB a b)

theorem lexB_irrefl : ∀ a, lexB a a = false
  | [] => rfl
  | x :: a => by simp [lexB, lexB_irrefl a]

theorem lexB_trans : ∀ a b c, lexB a b = true → lexB b c = true → lexB a c = true
  | [], [], c, h, _ => by simp [lexB] at h
  | [], y :: b, [], _, h => by simp [lexB] at h
  | [], y :: b, z :: c, _, _ => rfl
  | x :: a, [], c, h, _ => by simp [lexB] at h
  | x :: a, y :: b, [], _, h => by simp [lexB] at h
  | x :: a, y :: b, z :: c, h, k => by
    simp only [lexB, Bool.or_eq_true, Bool.and_eq_true, decide_eq_true_eq] at h k ⊢
    rcases h with h | ⟨h, h'⟩ <;> rcases k with k | ⟨k, k'⟩
    · exact .inl (by omega)
    · exact .inl (by omega)
    · exact .inl (by omega)
    · exact .inr ⟨by omega, lexB_trans a b c h' k'⟩

theorem lexB_total : ∀ a b, lexB a b = false → lexB b a = false → a = b
  | [], [], _, _ => rfl
  | [], y :: b, h, _ => by simp [lexB] at h
  | x :: a, [], _, h => by simp [lexB] at h
  | x :: a, y :: b, h, k => by
    simp only [lexB, Bool.or_eq_false_iff, Bool.and_eq_false_iff, decide_eq_false_iff_not] at h k
    have e : x = y := by omega
    subst e
    rw [lexB_total a b (by rcases h.2 with h | h; · exact absurd rfl h
                           · exact h) (by rcases k.2 with h | h; · exact absurd rfl h
                                          · exact h)]

theorem lexB_snoc : ∀ a b (x y : Int), a.length = b.length → lexB a b = true → lexB (a ++ [x]) (b ++ [y]) = true
  | [], [], x, y, _, h => by simp [lexB] at h
  | [], z :: b, x, y, h, _ => by simp at h
  | z :: a, [], x, y, h, _ => by simp at h
  | z :: a, t :: b, x, y, hl, h => by
    simp only [List.cons_append, lexB, Bool.or_eq_true, Bool.and_eq_true, decide_eq_true_eq] at h ⊢
    rcases h with h | ⟨h, h'⟩
    · exact .inl h
    · exact .inr ⟨h, lexB_snoc a b x y (by simpa using hl) h'⟩

theorem lexB_drop : ∀ (k : Nat) (a b : List Int), k < a.length → k < b.length → (∀ j, j < k → a.getD j 0 = b.getD j 0) → lexB a b = lexB (a.drop k) (b.drop k)
  | 0, a, b, _, _, _ => rfl
  | k + 1, [], b, h, _, _ => by simp at h
  | k + 1, x :: a, [], _, h, _ => by simp at h
  | k + 1, x :: a, y :: b, h, h', he => by
    have e : x = y := by simpa using he 0 (by omega)
    subst e
    have := lexB_drop k a b (by simpa using h) (by simpa using h') (fun j hj => by simpa using he (j + 1) (by omega))
    simp [lexB, this]

/-- The shorter, of alike long ones the lesser. -/
def wlt (a b : List Int) : Bool := decide (a.length < b.length) || (decide (a.length = b.length) && lexB a b)

theorem wlt_iff {a b : List Int} : wlt a b = true ↔ a.length < b.length ∨ (a.length = b.length ∧ lexB a b = true) := by
  simp [wlt]

def wle (a b : List Int) : Prop := wlt b a = false

theorem wlt_irrefl (a : List Int) : wlt a a = false := by simp [wlt, lexB_irrefl]

theorem wlt_trans {a b c : List Int} (h : wlt a b = true) (k : wlt b c = true) : wlt a c = true := by
  rw [wlt_iff] at *
  rcases h with h | ⟨h, h'⟩ <;> rcases k with k | ⟨k, k'⟩
  · exact .inl (by omega)
  · exact .inl (by omega)
  · exact .inl (by omega)
  · exact .inr ⟨by omega, lexB_trans a b c h' k'⟩

theorem wlt_total {a b : List Int} (h : wlt a b = false) (k : wlt b a = false) : a = b := by
  simp only [wlt, Bool.or_eq_false_iff, Bool.and_eq_false_iff, decide_eq_false_iff_not] at h k
  have e : a.length = b.length := by omega
  exact lexB_total a b (by rcases h.2 with h | h; · exact absurd e h
                           · exact h) (by rcases k.2 with h | h; · exact absurd e.symm h
                                          · exact h)

theorem wlt_asymm {a b : List Int} (h : wlt a b = true) : wlt b a = false := by
  cases k : wlt b a with
  | false => rfl
  | true => have := wlt_trans h k; rw [wlt_irrefl] at this; cases this

theorem wle_refl (a : List Int) : wle a a := wlt_irrefl a

theorem wle_of_lt {a b : List Int} (h : wlt a b = true) : wle a b := wlt_asymm h

theorem wle_iff {a b : List Int} : wle a b ↔ wlt a b = true ∨ a = b := by
  unfold wle
  constructor
  · intro h
    cases k : wlt a b with
    | true => exact .inl rfl
    | false => exact .inr (wlt_total k h)
  · rintro (h | rfl)
    · exact wlt_asymm h
    · exact wlt_irrefl _

theorem wle_trans {a b c : List Int} (h : wle a b) (k : wle b c) : wle a c := by
  rw [wle_iff] at *
  rcases h with h | rfl
  · rcases k with k | rfl
    · exact .inl (wlt_trans h k)
    · exact .inl h
  · exact k

theorem wlt_of_le_lt {a b c : List Int} (h : wle a b) (k : wlt b c = true) : wlt a c = true := by
  rcases wle_iff.1 h with h | rfl
  · exact wlt_trans h k
  · exact k

theorem wlt_of_lt_le {a b c : List Int} (h : wlt a b = true) (k : wle b c) : wlt a c = true := by
  rcases wle_iff.1 k with k | rfl
  · exact wlt_trans h k
  · exact h

theorem wle_antisymm {a b : List Int} (h : wle a b) (k : wle b a) : a = b := wlt_total k h

theorem wle_snoc {a b : List Int} (x : Int) (h : wle a b) : wle (a ++ [x]) (b ++ [x]) := by
  rcases wle_iff.1 h with h | rfl
  · refine wle_of_lt (wlt_iff.2 ?_)
    rcases wlt_iff.1 h with h | ⟨h, h'⟩
    · exact .inl (by simpa using h)
    · exact .inr ⟨by simpa using h, lexB_snoc a b x x h h'⟩
  · exact wle_refl _

theorem wlt_snoc (a : List Int) (x : Int) : wlt a (a ++ [x]) = true := wlt_iff.2 (.inl (by simp))

/-- A visit: its way as a value, the way, the set. -/
structure Vis where
  u : Value
  way : List Int
  set : Int

def vis0 : Vis := ⟨undef, [], 0⟩

def wy (L : List Vis) (k : Nat) : List Int := (L.getD k vis0).way

/-- The first n are a heap. -/
def IsH (L : List Vis) (n : Nat) : Prop := ∀ k, 0 < k → k < n → wle (wy L ((k - 1) / 2)) (wy L k)

/-- But for number j, which may be too small. -/
def UpH (L : List Vis) (j : Nat) : Prop :=
  (∀ k, 0 < k → k < L.length → k ≠ j → wle (wy L ((k - 1) / 2)) (wy L k)) ∧ (∀ k, 0 < k → k < L.length → (k - 1) / 2 = j → 0 < j → wle (wy L ((j - 1) / 2)) (wy L k))

/-- But for number i, which may be too great. -/
def DnH (L : List Vis) (n i : Nat) : Prop :=
  (∀ k, 0 < k → k < n → (k - 1) / 2 ≠ i → wle (wy L ((k - 1) / 2)) (wy L k)) ∧ (∀ k, 0 < k → k < n → (k - 1) / 2 = i → 0 < i → wle (wy L ((i - 1) / 2)) (wy L k))

def swp (L : List Vis) (i j : Nat) : List Vis := (L.set i (L.getD j vis0)).set j (L.getD i vis0)

theorem swp_length (L : List Vis) (i j : Nat) : (swp L i j).length = L.length := by simp [swp]

theorem swp_get (L : List Vis) {i j : Nat} (hi : i < L.length) (hj : j < L.length) (k : Nat) : (swp L i j).getD k vis0 = if k = j then L.getD i vis0 else if k = i then L.getD j vis0 else L.getD k vis0 := by
  unfold swp
  simp only [List.getD, List.getElem?_set, List.length_set]
  by_cases h1 : j = k
  · subst h1; simp [hj]
  · by_cases h2 : i = k
    · subst h2
      rw [if_neg h1, if_pos rfl, if_pos hi, if_neg (fun e : i = j => h1 e.symm), if_pos rfl]
      rfl
    · rw [if_neg h1, if_neg h2, if_neg (fun e => h1 e.symm), if_neg (fun e => h2 e.symm)]

theorem swp_wy (L : List Vis) {i j : Nat} (hi : i < L.length) (hj : j < L.length) (k : Nat) : wy (swp L i j) k = if k = j then wy L i else if k = i then wy L j else wy L k := by
  unfold wy
  rw [swp_get L hi hj]
  split
  · rfl
  · split <;> rfl

theorem mem_getD {L : List Vis} {x : Vis} : x ∈ L ↔ ∃ k, k < L.length ∧ L.getD k vis0 = x := by
  constructor
  · intro h
    obtain ⟨k, hk, e⟩ := List.mem_iff_getElem.1 h
    exact ⟨k, hk, by simp [List.getD, hk, e]⟩
  · rintro ⟨k, hk, e⟩
    rw [← e]
    simp only [List.getD, List.getElem?_eq_getElem hk, Option.getD_some]
    exact List.getElem_mem hk

theorem swp_mem {L : List Vis} {i j : Nat} (hi : i < L.length) (hj : j < L.length) (x : Vis) : x ∈ swp L i j ↔ x ∈ L := by
  rw [mem_getD, mem_getD, swp_length]
  constructor
  · rintro ⟨k, hk, e⟩
    rw [swp_get L hi hj] at e
    by_cases h1 : k = j
    · rw [if_pos h1] at e; exact ⟨i, hi, e⟩
    · rw [if_neg h1] at e
      by_cases h2 : k = i
      · rw [if_pos h2] at e; exact ⟨j, hj, e⟩
      · rw [if_neg h2] at e; exact ⟨k, hk, e⟩
  · rintro ⟨k, hk, e⟩
    by_cases h1 : k = j
    · subst h1
      by_cases h2 : i = k
      · subst h2; exact ⟨i, hi, by rw [swp_get L hi hj, if_pos rfl]; exact e⟩
      · exact ⟨i, hi, by rw [swp_get L hi hj, if_neg h2, if_pos rfl]; exact e⟩
    · by_cases h2 : k = i
      · subst h2; exact ⟨j, hj, by rw [swp_get L hi hj, if_pos rfl]; exact e⟩
      · exact ⟨k, hk, by rw [swp_get L hi hj, if_neg h1, if_neg h2]; exact e⟩

theorem up_done {L : List Vis} {j : Nat} (h : UpH L j) (hj : j = 0 ∨ wle (wy L ((j - 1) / 2)) (wy L j)) : IsH L L.length := by
  intro k hk hkl
  by_cases e : k = j
  · subst e
    rcases hj with h0 | h0
    · omega
    · exact h0
  · exact h.1 k hk hkl e

theorem up_step {L : List Vis} {j : Nat} (h : UpH L j) (hj0 : 0 < j) (hj : j < L.length) (hlt : wlt (wy L j) (wy L ((j - 1) / 2)) = true) : UpH (swp L ((j - 1) / 2) j) ((j - 1) / 2) := by
  obtain ⟨p, hp⟩ : ∃ p, (j - 1) / 2 = p := ⟨_, rfl⟩
  rw [hp] at hlt ⊢
  have hpl : p < L.length := by omega
  have hpj : p < j := by omega
  refine ⟨fun k hk hkl hne => ?_, fun k hk hkl hkp hp0 => ?_⟩
  · rw [swp_length] at hkl
    rw [swp_wy L hpl hj, swp_wy L hpl hj]
    by_cases e : k = j
    · subst e
      rw [if_pos rfl, hp, if_neg (by omega), if_pos rfl]
      exact wle_of_lt hlt
    · rw [if_neg e, if_neg hne]
      by_cases e1 : (k - 1) / 2 = j
      · rw [if_pos e1]
        have := h.2 k hk hkl e1 hj0
        rwa [hp] at this
      · rw [if_neg e1]
        by_cases e2 : (k - 1) / 2 = p
        · rw [if_pos e2]
          refine wle_trans (wle_of_lt hlt) ?_
          have := h.1 k hk hkl e
          rwa [e2] at this
        · rw [if_neg e2]
          exact h.1 k hk hkl e
  · rw [swp_length] at hkl
    rw [swp_wy L hpl hj, swp_wy L hpl hj]
    have hq : (p - 1) / 2 < p := by omega
    rw [if_neg (show ¬ (p - 1) / 2 = j by omega), if_neg (show ¬ (p - 1) / 2 = p by omega)]
    have hqp := h.1 p hp0 hpl (by omega)
    by_cases e : k = j
    · rw [if_pos e]; exact hqp
    · rw [if_neg e, if_neg (show ¬ k = p by omega)]
      refine wle_trans hqp ?_
      have := h.1 k hk hkl e
      rwa [hkp] at this

theorem dn_done {L : List Vis} {n i : Nat} (h : DnH L n i) (hc : ∀ k, 0 < k → k < n → (k - 1) / 2 = i → wle (wy L i) (wy L k)) : IsH L n := by
  intro k hk hkn
  by_cases e : (k - 1) / 2 = i
  · rw [e]; exact hc k hk hkn e
  · exact h.1 k hk hkn e

theorem dn_step {L : List Vis} {n i c : Nat} (h : DnH L n i) (hn : n ≤ L.length) (hc0 : 0 < c) (hcn : c < n) (hci : (c - 1) / 2 = i) (hlt : wlt (wy L c) (wy L i) = true) (hmin : ∀ k, 0 < k → k < n → (k - 1) / 2 = i → wle (wy L c) (wy L k)) : DnH (swp L i c) n c := by
  have hil : i < L.length := by omega
  have hcl : c < L.length := by omega
  have hic : i < c := by omega
  refine ⟨fun k hk hkn hne => ?_, fun k hk hkn hkc _ => ?_⟩
  · rw [swp_wy L hil hcl, swp_wy L hil hcl, if_neg hne]
    by_cases e1 : (k - 1) / 2 = i
    · rw [if_pos e1]
      by_cases e2 : k = c
      · rw [if_pos e2]; exact wle_of_lt hlt
      · rw [if_neg e2, if_neg (show ¬ k = i by omega)]
        exact hmin k hk hkn e1
    · rw [if_neg e1]
      by_cases e2 : k = c
      · subst e2; exact absurd hci e1
      · rw [if_neg e2]
        by_cases e3 : k = i
        · subst e3
          rw [if_pos rfl]
          exact h.2 c hc0 hcn hci hk
        · rw [if_neg e3]
          exact h.1 k hk hkn e1
  · rw [swp_wy L hil hcl, swp_wy L hil hcl]
    rw [hci, if_neg (show ¬ i = c by omega), if_pos rfl, if_neg (show ¬ k = c by omega), if_neg (show ¬ k = i by omega)]
    have := h.1 k hk hkn (by omega)
    rwa [hkc] at this

theorem root_min {L : List Vis} {n : Nat} (h : IsH L n) : ∀ k, k < n → wle (wy L 0) (wy L k) := by
  intro k
  induction k using Nat.strongRecOn with
  | ind k ih =>
    intro hk
    rcases Nat.eq_zero_or_pos k with h0 | h0
    · subst h0; exact wle_refl _
    · exact wle_trans (ih ((k - 1) / 2) (by omega) (by omega)) (h k h0 hk)

theorem pop_start {L : List Vis} {n : Nat} (h : IsH L (n + 1)) (hl : L.length = n + 1) : DnH (swp L 0 n) n 0 := by
  refine ⟨fun k hk hkn hne => ?_, fun k hk hkn hki h0 => by omega⟩
  rw [swp_wy L (by omega) (by omega), swp_wy L (by omega) (by omega), if_neg (show ¬ (k - 1) / 2 = n by omega), if_neg hne, if_neg (show ¬ k = n by omega), if_neg (show ¬ k = 0 by omega)]
  exact h k hk (by omega)

theorem push_start {L : List Vis} (h : IsH L L.length) (x : Vis) : UpH (L ++ [x]) L.length := by
  have e : ∀ k, k < L.length → wy (L ++ [x]) k = wy L k := fun k hk => by simp [wy, List.getD, List.getElem?_append_left hk]
  refine ⟨fun k hk hkl hne => ?_, fun k hk hkl hki h0 => ?_⟩
  · simp only [List.length_append, List.length_cons, List.length_nil] at hkl
    rw [e _ (by omega), e _ (by omega)]
    exact h k hk (by omega)
  · simp only [List.length_append, List.length_cons, List.length_nil] at hkl
    omega

theorem isH_take {L : List Vis} {n : Nat} (h : IsH L n) (hn : n ≤ L.length) : IsH (L.take n) (L.take n).length := by
  have e : ∀ k, k < n → wy (L.take n) k = wy L k := fun k hk => by simp [wy, List.getD, hk]
  intro k hk hkl
  simp only [List.length_take] at hkl
  rw [e _ (by omega), e _ (by omega)]
  exact h k hk (by omega)

end Go.Proofs.Ytebadimjpbhagaa
