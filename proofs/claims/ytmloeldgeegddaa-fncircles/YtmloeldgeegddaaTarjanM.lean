/-
  Mathematics: groups of procedures, as the program finds them and as the specification tells them, as functions of lists; what their states keep.
-/
import Derived.Test.YtmloeldgeegddaaReach9M
namespace Go.Proofs.Ytmloeldgeegddaa
set_option linter.unusedVariables false

/-- One item goes to the left as long as it is less. -/
def sink {α : Type} (lt : α → α → Bool) (d : α) : Nat → List α → List α
  | 0, xs => xs
  | j + 1, xs => bif lt (xs.getD (j + 1) d) (xs.getD j d) then sink lt d j ((xs.set (j + 1) (xs.getD j d)).set j (xs.getD (j + 1) d)) else xs

def isrtU {α : Type} (lt : α → α → Bool) (d : α) : Nat → List α → List α
  | 0, xs => xs
  | k + 1, xs => sink lt d (k + 1) (isrtU lt d k xs)

def isrt {α : Type} (lt : α → α → Bool) (d : α) (xs : List α) : List α := isrtU lt d (xs.length - 1) xs

theorem sink_length {α : Type} (lt : α → α → Bool) (d : α) : ∀ (j : Nat) (xs : List α), (sink lt d j xs).length = xs.length
  | 0, xs => rfl
  | j + 1, xs => by
    unfold sink
    cases lt (xs.getD (j + 1) d) (xs.getD j d)
    · rfl
    · simp [sink_length lt d j]

theorem isrtU_length {α : Type} (lt : α → α → Bool) (d : α) : ∀ (k : Nat) (xs : List α), (isrtU lt d k xs).length = xs.length
  | 0, xs => rfl
  | k + 1, xs => by unfold isrtU; rw [sink_length, isrtU_length lt d k]

theorem isrt_length {α : Type} (lt : α → α → Bool) (d : α) (xs : List α) : (isrt lt d xs).length = xs.length := isrtU_length _ _ _ _

def hasN (xs : List Nat) (n : Nat) : Bool := xs.any (fun x => Nat.beq x n)

theorem hasN_mem {xs : List Nat} {n : Nat} : hasN xs n = true ↔ n ∈ xs := by
  unfold hasN
  rw [List.any_eq_true]
  constructor
  · rintro ⟨x, hx, e⟩
    have := Nat.eq_of_beq_eq_true e
    subst this
    exact hx
  · intro h
    exact ⟨n, h, Nat.beq_refl n⟩

structure TS where
  came : Nat
  turns : List Nat
  un : List Nat
  groups : List (List Nat)

def minN (a b : Nat) : Nat := bif Nat.ble a b then a else b

theorem minN_eq (a b : Nat) : minN a b = min a b := by
  unfold minN
  cases h : Nat.ble a b
  · have : ¬ a ≤ b := fun e => by rw [Nat.ble_eq_true_of_le e] at h; cases h
    simp; omega
  · have := Nat.le_of_ble_eq_true h
    simp; omega

def fin (place turn : Nat) (r : Nat × TS) : Nat × TS :=
  bif Nat.beq r.1 turn then (r.1, ⟨r.2.came, r.2.turns, r.2.un.take place, r.2.groups ++ [isrt Nat.blt 0 (r.2.un.drop place)]⟩) else r

/-- What one that is called does. -/
def stepV (V : Nat → TS → Nat × TS) (a : Nat × TS) (c : Nat) : Nat × TS :=
  bif Nat.beq (a.2.turns.getD c 0) 0 then (minN a.1 (V c a.2).1, (V c a.2).2)
  else bif hasN a.2.un c then (minN a.1 (a.2.turns.getD c 0), a.2) else a

def visit (C : Nat → List Nat) : Nat → Nat → TS → Nat × TS
  | 0, _, st => (0, st)
  | f + 1, p, st => fin st.un.length (st.came + 1) ((C p).foldl (stepV (visit C f)) (st.came + 1, ⟨st.came + 1, st.turns.set p (st.came + 1), st.un ++ [p], st.groups⟩))

def stepT (C : Nat → List Nat) (st : TS) (p : Nat) : TS := bif Nat.beq (st.turns.getD p 0) 0 then (visit C 4 p st).2 else st

def begT : TS := ⟨0, [0, 0, 0, 0], [], []⟩

def tarjan (n : Nat) (C : Nat → List Nat) : TS := (List.range n).foldl (stepT C) begT

def hd (g : List Nat) : Nat := g.getD 0 0

def ltG (a b : List Nat) : Bool := Nat.blt (hd a) (hd b)

def circI (n : Nat) (C : Nat → List Nat) : List (List Nat) := isrt ltG [] (tarjan n C).groups

def zeros (t : List Nat) : Nat := (t.filter (fun x => Nat.beq x 0)).length

/-- What all states keep. -/
structure TInv (st : TS) : Prop where
  len : st.turns.length = 4
  zer : st.came + zeros st.turns = 4
  few : st.groups.length + st.un.length ≤ st.came
  unl : ∀ x ∈ st.un, x < 4
  grp : ∀ g ∈ st.groups, g ≠ [] ∧ g.length ≤ 4

theorem zeros_set : ∀ {t : List Nat} {p v : Nat}, p < t.length → t.getD p 0 = 0 → v ≠ 0 → zeros (t.set p v) + 1 = zeros t
  | [], p, v, h, _, _ => by simp at h
  | x :: t, 0, v, _, h0, hv => by
    have h1 : x = 0 := by simpa using h0
    subst h1
    have : Nat.beq v 0 = false := by cases v with | zero => exact absurd rfl hv | succ v => rfl
    simp [zeros, this]
  | x :: t, p + 1, v, h, h0, hv => by
    have ih := zeros_set (t := t) (p := p) (v := v) (by simpa using h) (by simpa using h0) hv
    unfold zeros at ih ⊢
    rw [List.set_cons_succ, List.filter_cons, List.filter_cons]
    cases Nat.beq x 0 <;> simp <;> omega

theorem zeros_pos : ∀ {t : List Nat} {p : Nat}, p < t.length → t.getD p 0 = 0 → 1 ≤ zeros t
  | [], p, h, _ => by simp at h
  | x :: t, 0, _, h0 => by
    have h1 : x = 0 := by simpa using h0
    subst h1
    simp [zeros]
  | x :: t, p + 1, h, h0 => by
    have ih := zeros_pos (t := t) (p := p) (by simpa using h) (by simpa using h0)
    unfold zeros at ih ⊢
    rw [List.filter_cons]
    cases Nat.beq x 0 <;> simp <;> omega

theorem set_getD {t : List Nat} {p v x : Nat} (hp : p < t.length) : (t.set p v).getD x 0 = if x = p then v else t.getD x 0 := by
  simp only [List.getD_eq_getElem?_getD]
  by_cases h : x = p
  · subst h
    rw [if_pos rfl, List.getElem?_set_self hp]; rfl
  · rw [if_neg h, List.getElem?_set_ne (fun e => h e.symm)]

theorem beq0 {n : Nat} : Nat.beq n 0 = true ↔ n = 0 := ⟨fun h => Nat.eq_of_beq_eq_true h, fun h => by subst h; rfl⟩
theorem beq0f {n : Nat} : Nat.beq n 0 = false ↔ n ≠ 0 := by
  constructor
  · intro h e; rw [beq0.2 e] at h; cases h
  · intro h
    cases hb : Nat.beq n 0 with
    | false => rfl
    | true => exact absurd (beq0.1 hb) h

/-- What a visit keeps. -/
structure VKeep (p : Nat) (st : TS) (r : Nat × TS) : Prop where
  inv : TInv r.2
  pre : ∃ t, r.2.un = st.un ++ t
  kept : ∀ x, st.turns.getD x 0 ≠ 0 → r.2.turns.getD x 0 = st.turns.getD x 0
  less : zeros r.2.turns + 1 ≤ zeros st.turns

/-- In the midst of a visit of p, whose turn is n. -/
structure VMid (p n : Nat) (s1 : TS) (a : Nat × TS) : Prop where
  inv : TInv a.2
  pre : ∃ t, a.2.un = s1.un ++ t
  kept : ∀ x, s1.turns.getD x 0 ≠ 0 → a.2.turns.getD x 0 = s1.turns.getD x 0
  less : zeros a.2.turns ≤ zeros s1.turns
  low : a.1 ≤ n

theorem VMid.step {p n c f : Nat} {s1 : TS} {a : Nat × TS} {V : Nat → TS → Nat × TS} (h : VMid p n s1 a) (hc : c < 4) (hf : zeros s1.turns ≤ f)
    (hV : ∀ st, TInv st → st.turns.getD c 0 = 0 → zeros st.turns ≤ f → VKeep c st (V c st)) : VMid p n s1 (stepV V a c) := by
  unfold stepV
  cases h0 : Nat.beq (a.2.turns.getD c 0) 0
  · cases h1 : hasN a.2.un c
    · exact h
    · refine ⟨h.inv, h.pre, h.kept, h.less, ?_⟩
      have := h.low
      show minN a.1 _ ≤ n
      rw [minN_eq]
      omega
  · have hk := hV a.2 h.inv (beq0.1 h0) (Nat.le_trans h.less hf)
    obtain ⟨t, ht⟩ := h.pre
    obtain ⟨t', ht'⟩ := hk.pre
    refine ⟨hk.inv, ⟨t ++ t', by simp only [cond]; rw [ht', ht, List.append_assoc]⟩, fun x hx => ?_, ?_, ?_⟩
    · have h2 := h.kept x hx
      exact (hk.kept x (by rw [h2]; exact hx)).trans h2
    · have := hk.less; have := h.less; simp only [cond]; omega
    · have := h.low
      simp only [cond]
      rw [minN_eq]
      omega

theorem VMid.fold {p n f : Nat} {s1 : TS} {V : Nat → TS → Nat × TS} (hf : zeros s1.turns ≤ f)
    (hV : ∀ c st, c < 4 → TInv st → st.turns.getD c 0 = 0 → zeros st.turns ≤ f → VKeep c st (V c st)) : ∀ (l : List Nat) (a : Nat × TS), (∀ c ∈ l, c < 4) → VMid p n s1 a → VMid p n s1 (l.foldl (stepV V) a)
  | [], a, _, h => h
  | c :: l, a, hl, h => VMid.fold hf hV l _ (fun x hx => hl x (by simp [hx])) (h.step (hl c (by simp)) hf (fun st => hV c st (hl c (by simp))))

/-- The state at a visit's start. -/
def beg (p : Nat) (st : TS) : TS := ⟨st.came + 1, st.turns.set p (st.came + 1), st.un ++ [p], st.groups⟩

theorem beg_mid {p : Nat} {st : TS} (hp : p < 4) (h : TInv st) (h0 : st.turns.getD p 0 = 0) : VMid p (st.came + 1) (beg p st) (st.came + 1, beg p st) := by
  have hz := zeros_set (t := st.turns) (p := p) (v := st.came + 1) (by rw [h.len]; exact hp) h0 (by omega)
  refine ⟨⟨by simp [beg, h.len], ?_, ?_, ?_, h.grp⟩, ⟨[], by simp⟩, fun _ _ => rfl, Nat.le_refl _, Nat.le_refl _⟩
  · have := h.zer; simp only [beg]; omega
  · have := h.few; simp only [beg, List.length_append, List.length_singleton]; omega
  · intro x hx
    simp only [beg, List.mem_append, List.mem_singleton] at hx
    rcases hx with hx | rfl
    · exact h.unl x hx
    · exact hp

theorem visit_keep (C : Nat → List Nat) (hC : ∀ i, i < 4 → ∀ y ∈ C i, y < 4) : ∀ (f p : Nat) (st : TS), p < 4 → TInv st → st.turns.getD p 0 = 0 → zeros st.turns ≤ f → VKeep p st (visit C f p st)
  | 0, p, st, hp, h, h0, hz => by
    have := zeros_pos (t := st.turns) (p := p) (by rw [h.len]; exact hp) h0
    omega
  | f + 1, p, st, hp, h, h0, hz => by
    have hz1 := zeros_set (t := st.turns) (p := p) (v := st.came + 1) (by rw [h.len]; exact hp) h0 (by omega)
    have hm := VMid.fold (p := p) (n := st.came + 1) (f := f) (s1 := beg p st) (V := visit C f) (by simp only [beg]; omega) (fun c s hc hi h0' hz' => visit_keep C hC f c s hc hi h0' hz') (C p) (st.came + 1, beg p st) (hC p hp) (beg_mid hp h h0)
    show VKeep p st (fin st.un.length (st.came + 1) ((C p).foldl (stepV (visit C f)) (st.came + 1, beg p st)))
    revert hm
    generalize (C p).foldl (stepV (visit C f)) (st.came + 1, beg p st) = r
    intro hm
    obtain ⟨t, ht⟩ := hm.pre
    have hkept : ∀ x, st.turns.getD x 0 ≠ 0 → r.2.turns.getD x 0 = st.turns.getD x 0 := fun x hx => by
      have hne : x ≠ p := fun e => hx (by rw [e]; exact h0)
      have e1 : (beg p st).turns.getD x 0 = st.turns.getD x 0 := by simp only [beg]; rw [set_getD (by rw [h.len]; exact hp), if_neg hne]
      rw [← e1]
      exact hm.kept x (by rw [e1]; exact hx)
    have hless : zeros r.2.turns + 1 ≤ zeros st.turns := by have := hm.less; simp only [beg] at this; omega
    have hun : r.2.un = st.un ++ (p :: t) := by rw [ht]; simp [beg]
    unfold fin
    cases hb : Nat.beq r.1 (st.came + 1)
    · exact ⟨hm.inv, ⟨p :: t, hun⟩, hkept, hless⟩
    · have htake : r.2.un.take st.un.length = st.un := by rw [hun]; simp
      have hdrop : r.2.un.drop st.un.length = p :: t := by rw [hun]; simp
      refine ⟨⟨hm.inv.len, hm.inv.zer, ?_, ?_, ?_⟩, ⟨[], ?_⟩, hkept, hless⟩
      · have := hm.inv.few
        rw [hun] at this
        simp only [cond, htake, List.length_append, List.length_cons, List.length_nil] at this ⊢
        omega
      · simp only [cond, htake]; exact h.unl
      · intro g hg
        simp only [cond, List.mem_append, List.mem_singleton, hdrop] at hg
        rcases hg with hg | rfl
        · exact hm.inv.grp g hg
        · have hl := isrt_length Nat.blt 0 (p :: t)
          refine ⟨fun e => by rw [e] at hl; simp at hl, ?_⟩
          rw [hl]
          have h1 := hm.inv.few
          have h2 := hm.inv.zer
          rw [hun] at h1
          simp only [List.length_append, List.length_cons] at h1 ⊢
          omega
      · simp only [cond, htake, List.append_nil]

/-- Calls of oneself change nothing. -/
def noSelf (C : Nat → List Nat) (i : Nat) : List Nat := (C i).filter (fun y => !Nat.beq y i)

theorem visit_noSelf (C : Nat → List Nat) (hC : ∀ i, i < 4 → ∀ y ∈ C i, y < 4) : ∀ (f p : Nat) (st : TS), p < 4 → TInv st → st.turns.getD p 0 = 0 → zeros st.turns ≤ f → visit (noSelf C) f p st = visit C f p st
  | 0, _, _, _, _, _, _ => rfl
  | f + 1, p, st, hp, h, h0, hz => by
    have hz1 := zeros_set (t := st.turns) (p := p) (v := st.came + 1) (by rw [h.len]; exact hp) h0 (by omega)
    have key : ∀ (l : List Nat) (a : Nat × TS), (∀ c ∈ l, c < 4) → VMid p (st.came + 1) (beg p st) a → (l.filter (fun y => !Nat.beq y p)).foldl (stepV (visit (noSelf C) f)) a = l.foldl (stepV (visit C f)) a := by
      intro l
      induction l with
      | nil => intro a _ _; rfl
      | cons c l ih =>
        intro a hl hm
        have hc := hl c (by simp)
        have hzf : zeros (beg p st).turns ≤ f := by simp only [beg]; omega
        have hnext := hm.step (V := visit C f) hc hzf (fun s hi h0' hz' => visit_keep C hC f c s hc hi h0' hz')
        rw [List.filter_cons, List.foldl_cons]
        cases hb : Nat.beq c p
        · simp only [Bool.not_false, if_true, List.foldl_cons]
          have e : stepV (visit (noSelf C) f) a c = stepV (visit C f) a c := by
            unfold stepV
            cases hb0 : Nat.beq (a.2.turns.getD c 0) 0
            · rfl
            · simp only [cond]
              rw [visit_noSelf C hC f c a.2 hc hm.inv (beq0.1 hb0) (Nat.le_trans hm.less hzf)]
          rw [e]
          exact ih _ (fun x hx => hl x (by simp [hx])) hnext
        · obtain rfl := Nat.eq_of_beq_eq_true hb
          simp only [Bool.not_true, Bool.false_eq_true, if_false]
          have e : stepV (visit C f) a c = a := by
            have e1 : (beg c st).turns.getD c 0 = st.came + 1 := by simp only [beg]; rw [set_getD (by rw [h.len]; exact hp), if_pos rfl]
            have e2 := hm.kept c (by rw [e1]; omega)
            rw [e1] at e2
            obtain ⟨t, ht⟩ := hm.pre
            have e3 : hasN a.2.un c = true := hasN_mem.2 (by rw [ht]; simp [beg])
            have e4 : Nat.beq (st.came + 1) 0 = false := rfl
            have e5 : minN a.1 (st.came + 1) = a.1 := by rw [minN_eq]; have := hm.low; omega
            unfold stepV
            rw [e2, e3, e4, e5]
            rfl
          rw [e] at hnext ⊢
          exact ih a (fun x hx => hl x (by simp [hx])) hm
    show fin st.un.length (st.came + 1) ((noSelf C p).foldl (stepV (visit (noSelf C) f)) (st.came + 1, beg p st)) = fin st.un.length (st.came + 1) ((C p).foldl (stepV (visit C f)) (st.came + 1, beg p st))
    exact congrArg (fin _ _) (key (C p) _ (hC p hp) (beg_mid hp h h0))

theorem begT_inv : TInv begT := ⟨rfl, rfl, by decide, by simp [begT], by simp [begT]⟩

theorem stepT_inv {C : Nat → List Nat} (hC : ∀ i, i < 4 → ∀ y ∈ C i, y < 4) {st : TS} (h : TInv st) {p : Nat} (hp : p < 4) : TInv (stepT C st p) := by
  unfold stepT
  cases hb : Nat.beq (st.turns.getD p 0) 0
  · exact h
  · exact (visit_keep C hC 4 p st hp h (beq0.1 hb) (by have := h.zer; omega)).inv

theorem foldT_inv {C : Nat → List Nat} (hC : ∀ i, i < 4 → ∀ y ∈ C i, y < 4) : ∀ (l : List Nat) (st : TS), TInv st → (∀ p ∈ l, p < 4) → TInv (l.foldl (stepT C) st)
  | [], st, h, _ => h
  | p :: l, st, h, hl => foldT_inv hC l _ (stepT_inv hC h (hl p (by simp))) (fun x hx => hl x (by simp [hx]))

theorem bif_proj {b : Bool} {A B : Nat × TS} {st : TS} (h : b = true → A = B) : (bif b then A.2 else st) = (bif b then B.2 else st) := by
  cases b
  · rfl
  · rw [h rfl]

theorem stepT_noSelf {C : Nat → List Nat} (hC : ∀ i, i < 4 → ∀ y ∈ C i, y < 4) {p : Nat} (hp : p < 4) {st : TS} (h : TInv st) : stepT (noSelf C) st p = stepT C st p :=
  bif_proj (fun hb => visit_noSelf C hC 4 p st hp h (beq0.1 hb) (by have := h.zer; omega))

theorem fold_congr {f g : TS → Nat → TS} {I : TS → Prop} (hs : ∀ st p, I st → p < 4 → f st p = g st p ∧ I (g st p)) : ∀ (l : List Nat) (st : TS), I st → (∀ p ∈ l, p < 4) → l.foldl f st = l.foldl g st
  | [], st, _, _ => rfl
  | p :: l, st, h, hl => by
    obtain ⟨e, hi⟩ := hs st p h (hl p (by simp))
    rw [List.foldl_cons, List.foldl_cons, e]
    exact fold_congr hs l _ hi (fun x hx => hl x (by simp [hx]))

theorem tarjan_noSelf {C : Nat → List Nat} (hC : ∀ i, i < 4 → ∀ y ∈ C i, y < 4) {n : Nat} (hn : n ≤ 4) : tarjan n (noSelf C) = tarjan n C :=
  fold_congr (I := TInv) (fun st p h hp => ⟨stepT_noSelf hC hp h, stepT_inv hC h hp⟩) (List.range n) begT begT_inv (fun p hp => by have := List.mem_range.1 hp; omega)

end Go.Proofs.Ytmloeldgeegddaa
