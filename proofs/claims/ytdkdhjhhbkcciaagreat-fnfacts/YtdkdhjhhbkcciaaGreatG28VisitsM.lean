/-
 Put together out of: HeapM, VisitsM.
-/
import Derived.Test.YtdkdhjhhbkcciaaGreatG00Put
import Derived.Test.YtdkdhjhhbkcciaaGreatG27WaysM
namespace Go.Proofs.YtdkdhjhhbkcciaaGreat
set_option linter.unusedVariables false
def lexB : List Int → List Int → Bool
 | [], [] => false
 | [], _ :: _ => true
 | _ :: _, [] => false
 | x :: a, y :: b => decide (x < y) || (decide (x = y) && lexB a b)
theorem lexB_irrefl : ∀ a, lexB a a = false
 | [] => rfl
 | x :: a => by simp [lexB, lexB_irrefl a]
theorem lexB_trans : ∀ a b c, lexB a b = true → lexB b c = true → lexB a c = true
 | [], [], c, h, _ => by simp [lexB] at h
 | [], y :: b, [], _, h => by simp [lexB] at h
 | [], y :: b, z :: c, _, _ => rfl
 | x :: a, [], c, h, _ => by simp [lexB] at h
 | x :: a, y :: b, [], _, h => by simp [lexB] at h
 | x :: a, y :: b, z :: c, h, k => by
  simp only [lexB, Bool.or_eq_true, Bool.and_eq_true, decide_eq_true_eq] at h k ⊢
  rcases h with h | ⟨h, h'⟩ <;> rcases k with k | ⟨k, k'⟩
  · exact .inl (by omega)
  · exact .inl (by omega)
  · exact .inl (by omega)
  · exact .inr ⟨by omega, lexB_trans a b c h' k'⟩
theorem lexB_total : ∀ a b, lexB a b = false → lexB b a = false → a = b
 | [], [], _, _ => rfl
 | [], y :: b, h, _ => by simp [lexB] at h
 | x :: a, [], _, h => by simp [lexB] at h
 | x :: a, y :: b, h, k => by
  simp only [lexB, Bool.or_eq_false_iff, Bool.and_eq_false_iff, decide_eq_false_iff_not] at h k
  have e : x = y := by omega
  subst e
  rw [lexB_total a b (by rcases h.2 with h | h; · exact absurd rfl h
                         · exact h) (by rcases k.2 with h | h; · exact absurd rfl h
                                        · exact h)]
theorem lexB_snoc : ∀ a b (x y : Int), a.length = b.length → lexB a b = true → lexB (a ++ [x]) (b ++ [y]) = true
 | [], [], x, y, _, h => by simp [lexB] at h
 | [], z :: b, x, y, h, _ => by simp at h
 | z :: a, [], x, y, h, _ => by simp at h
 | z :: a, t :: b, x, y, hl, h => by
  simp only [List.cons_append, lexB, Bool.or_eq_true, Bool.and_eq_true, decide_eq_true_eq] at h ⊢
  rcases h with h | ⟨h, h'⟩
  · exact .inl h
  · exact .inr ⟨h, lexB_snoc a b x y (by simpa using hl) h'⟩
def wlt (a b : List Int) : Bool := decide (a.length < b.length) || (decide (a.length = b.length) && lexB a b)
theorem wlt_iff {a b : List Int} : wlt a b = true ↔ a.length < b.length ∨ (a.length = b.length ∧ lexB a b = true) := by
 simp [wlt]
def wle (a b : List Int) : Prop := wlt b a = false
theorem wlt_irrefl (a : List Int) : wlt a a = false := by simp [wlt, lexB_irrefl]
theorem wlt_trans {a b c : List Int} (h : wlt a b = true) (k : wlt b c = true) : wlt a c = true := by
 rw [wlt_iff] at *
 rcases h with h | ⟨h, h'⟩ <;> rcases k with k | ⟨k, k'⟩
 · exact .inl (by omega)
 · exact .inl (by omega)
 · exact .inl (by omega)
 · exact .inr ⟨by omega, lexB_trans a b c h' k'⟩
theorem wlt_total {a b : List Int} (h : wlt a b = false) (k : wlt b a = false) : a = b := by
 simp only [wlt, Bool.or_eq_false_iff, Bool.and_eq_false_iff, decide_eq_false_iff_not] at h k
 have e : a.length = b.length := by omega
 exact lexB_total a b (by rcases h.2 with h | h; · exact absurd e h
                          · exact h) (by rcases k.2 with h | h; · exact absurd e.symm h
                                         · exact h)
theorem wlt_asymm {a b : List Int} (h : wlt a b = true) : wlt b a = false := by
 cases k : wlt b a with
 | false => rfl
 | true => have := wlt_trans h k; rw [wlt_irrefl] at this; cases this
theorem wle_refl (a : List Int) : wle a a := wlt_irrefl a
theorem wle_of_lt {a b : List Int} (h : wlt a b = true) : wle a b := wlt_asymm h
theorem wle_iff {a b : List Int} : wle a b ↔ wlt a b = true ∨ a = b := by
 unfold wle
 constructor
 · intro h
   cases k : wlt a b with
   | true => exact .inl rfl
   | false => exact .inr (wlt_total k h)
 · rintro (h | rfl)
   · exact wlt_asymm h
   · exact wlt_irrefl _
theorem wle_trans {a b c : List Int} (h : wle a b) (k : wle b c) : wle a c := by
 rw [wle_iff] at *
 rcases h with h | rfl
 · rcases k with k | rfl
   · exact .inl (wlt_trans h k)
   · exact .inl h
 · exact k
theorem wlt_of_lt_le {a b c : List Int} (h : wlt a b = true) (k : wle b c) : wlt a c = true := by
 rcases wle_iff.1 k with k | rfl
 · exact wlt_trans h k
 · exact h
theorem wle_snoc {a b : List Int} (x : Int) (h : wle a b) : wle (a ++ [x]) (b ++ [x]) := by
 rcases wle_iff.1 h with h | rfl
 · refine wle_of_lt (wlt_iff.2 ?_)
   rcases wlt_iff.1 h with h | ⟨h, h'⟩
   · exact .inl (by simpa using h)
   · exact .inr ⟨by simpa using h, lexB_snoc a b x x h h'⟩
 · exact wle_refl _
theorem wlt_snoc (a : List Int) (x : Int) : wlt a (a ++ [x]) = true := wlt_iff.2 (.inl (by simp))
structure Vis where
 u : Value
 way : List Int
 set : Int
def vis0 : Vis := ⟨undef, [], 0⟩
def wy (L : List Vis) (k : Nat) : List Int := (L.getD k vis0).way
def IsH (L : List Vis) (n : Nat) : Prop := ∀ k, 0 < k → k < n → wle (wy L ((k - 1) / 2)) (wy L k)
def UpH (L : List Vis) (j : Nat) : Prop :=
 (∀ k, 0 < k → k < L.length → k ≠ j → wle (wy L ((k - 1) / 2)) (wy L k)) ∧ (∀ k, 0 < k → k < L.length → (k - 1) / 2 = j → 0 < j → wle (wy L ((j - 1) / 2)) (wy L k))
def DnH (L : List Vis) (n i : Nat) : Prop :=
 (∀ k, 0 < k → k < n → (k - 1) / 2 ≠ i → wle (wy L ((k - 1) / 2)) (wy L k)) ∧ (∀ k, 0 < k → k < n → (k - 1) / 2 = i → 0 < i → wle (wy L ((i - 1) / 2)) (wy L k))
def swp (L : List Vis) (i j : Nat) : List Vis := (L.set i (L.getD j vis0)).set j (L.getD i vis0)
theorem swp_length (L : List Vis) (i j : Nat) : (swp L i j).length = L.length := by simp [swp]
theorem swp_get (L : List Vis) {i j : Nat} (hi : i < L.length) (hj : j < L.length) (k : Nat) : (swp L i j).getD k vis0 = if k = j then L.getD i vis0 else if k = i then L.getD j vis0 else L.getD k vis0 := by
 unfold swp
 simp only [List.getD, List.getElem?_set, List.length_set]
 by_cases h1 : j = k
 · subst h1; simp [hj]
 · by_cases h2 : i = k
   · subst h2
     rw [if_neg h1, if_pos rfl, if_pos hi, if_neg (fun e : i = j => h1 e.symm), if_pos rfl]
     rfl
   · rw [if_neg h1, if_neg h2, if_neg (fun e => h1 e.symm), if_neg (fun e => h2 e.symm)]
theorem swp_wy (L : List Vis) {i j : Nat} (hi : i < L.length) (hj : j < L.length) (k : Nat) : wy (swp L i j) k = if k = j then wy L i else if k = i then wy L j else wy L k := by
 unfold wy
 rw [swp_get L hi hj]
 split
 · rfl
 · split <;> rfl
theorem mem_getD {L : List Vis} {x : Vis} : x ∈ L ↔ ∃ k, k < L.length ∧ L.getD k vis0 = x := by
 constructor
 · intro h
   obtain ⟨k, hk, e⟩ := List.mem_iff_getElem.1 h
   exact ⟨k, hk, by simp [List.getD, hk, e]⟩
 · rintro ⟨k, hk, e⟩
   rw [← e]
   simp only [List.getD, List.getElem?_eq_getElem hk, Option.getD_some]
   exact List.getElem_mem hk
theorem swp_mem {L : List Vis} {i j : Nat} (hi : i < L.length) (hj : j < L.length) (x : Vis) : x ∈ swp L i j ↔ x ∈ L := by
 rw [mem_getD, mem_getD, swp_length]
 constructor
 · rintro ⟨k, hk, e⟩
   rw [swp_get L hi hj] at e
   by_cases h1 : k = j
   · rw [if_pos h1] at e; exact ⟨i, hi, e⟩
   · rw [if_neg h1] at e
     by_cases h2 : k = i
     · rw [if_pos h2] at e; exact ⟨j, hj, e⟩
     · rw [if_neg h2] at e; exact ⟨k, hk, e⟩
 · rintro ⟨k, hk, e⟩
   by_cases h1 : k = j
   · subst h1
     by_cases h2 : i = k
     · subst h2; exact ⟨i, hi, by rw [swp_get L hi hj, if_pos rfl]; exact e⟩
     · exact ⟨i, hi, by rw [swp_get L hi hj, if_neg h2, if_pos rfl]; exact e⟩
   · by_cases h2 : k = i
     · subst h2; exact ⟨j, hj, by rw [swp_get L hi hj, if_pos rfl]; exact e⟩
     · exact ⟨k, hk, by rw [swp_get L hi hj, if_neg h1, if_neg h2]; exact e⟩
theorem up_done {L : List Vis} {j : Nat} (h : UpH L j) (hj : j = 0 ∨ wle (wy L ((j - 1) / 2)) (wy L j)) : IsH L L.length := by
 intro k hk hkl
 by_cases e : k = j
 · subst e
   rcases hj with h0 | h0
   · omega
   · exact h0
 · exact h.1 k hk hkl e
theorem up_step {L : List Vis} {j : Nat} (h : UpH L j) (hj0 : 0 < j) (hj : j < L.length) (hlt : wlt (wy L j) (wy L ((j - 1) / 2)) = true) : UpH (swp L ((j - 1) / 2) j) ((j - 1) / 2) := by
 obtain ⟨p, hp⟩ : ∃ p, (j - 1) / 2 = p := ⟨_, rfl⟩
 rw [hp] at hlt ⊢
 have hpl : p < L.length := by omega
 have hpj : p < j := by omega
 refine ⟨fun k hk hkl hne => ?_, fun k hk hkl hkp hp0 => ?_⟩
 · rw [swp_length] at hkl
   rw [swp_wy L hpl hj, swp_wy L hpl hj]
   by_cases e : k = j
   · subst e
     rw [if_pos rfl, hp, if_neg (by omega), if_pos rfl]
     exact wle_of_lt hlt
   · rw [if_neg e, if_neg hne]
     by_cases e1 : (k - 1) / 2 = j
     · rw [if_pos e1]
       have := h.2 k hk hkl e1 hj0
       rwa [hp] at this
     · rw [if_neg e1]
       by_cases e2 : (k - 1) / 2 = p
       · rw [if_pos e2]
         refine wle_trans (wle_of_lt hlt) ?_
         have := h.1 k hk hkl e
         rwa [e2] at this
       · rw [if_neg e2]
         exact h.1 k hk hkl e
 · rw [swp_length] at hkl
   rw [swp_wy L hpl hj, swp_wy L hpl hj]
   have hq : (p - 1) / 2 < p := by omega
   rw [if_neg (show ¬ (p - 1) / 2 = j by omega), if_neg (show ¬ (p - 1) / 2 = p by omega)]
   have hqp := h.1 p hp0 hpl (by omega)
   by_cases e : k = j
   · rw [if_pos e]; exact hqp
   · rw [if_neg e, if_neg (show ¬ k = p by omega)]
     refine wle_trans hqp ?_
     have := h.1 k hk hkl e
     rwa [hkp] at this
theorem dn_done {L : List Vis} {n i : Nat} (h : DnH L n i) (hc : ∀ k, 0 < k → k < n → (k - 1) / 2 = i → wle (wy L i) (wy L k)) : IsH L n := by
 intro k hk hkn
 by_cases e : (k - 1) / 2 = i
 · rw [e]; exact hc k hk hkn e
 · exact h.1 k hk hkn e
theorem dn_step {L : List Vis} {n i c : Nat} (h : DnH L n i) (hn : n ≤ L.length) (hc0 : 0 < c) (hcn : c < n) (hci : (c - 1) / 2 = i) (hlt : wlt (wy L c) (wy L i) = true) (hmin : ∀ k, 0 < k → k < n → (k - 1) / 2 = i → wle (wy L c) (wy L k)) : DnH (swp L i c) n c := by
 have hil : i < L.length := by omega
 have hcl : c < L.length := by omega
 have hic : i < c := by omega
 refine ⟨fun k hk hkn hne => ?_, fun k hk hkn hkc _ => ?_⟩
 · rw [swp_wy L hil hcl, swp_wy L hil hcl, if_neg hne]
   by_cases e1 : (k - 1) / 2 = i
   · rw [if_pos e1]
     by_cases e2 : k = c
     · rw [if_pos e2]; exact wle_of_lt hlt
     · rw [if_neg e2, if_neg (show ¬ k = i by omega)]
       exact hmin k hk hkn e1
   · rw [if_neg e1]
     by_cases e2 : k = c
     · subst e2; exact absurd hci e1
     · rw [if_neg e2]
       by_cases e3 : k = i
       · subst e3
         rw [if_pos rfl]
         exact h.2 c hc0 hcn hci hk
       · rw [if_neg e3]
         exact h.1 k hk hkn e1
 · rw [swp_wy L hil hcl, swp_wy L hil hcl]
   rw [hci, if_neg (show ¬ i = c by omega), if_pos rfl, if_neg (show ¬ k = c by omega), if_neg (show ¬ k = i by omega)]
   have := h.1 k hk hkn (by omega)
   rwa [hkc] at this
theorem root_min {L : List Vis} {n : Nat} (h : IsH L n) : ∀ k, k < n → wle (wy L 0) (wy L k) := by
 intro k
 induction k using Nat.strongRecOn with
 | ind k ih =>
  intro hk
  rcases Nat.eq_zero_or_pos k with h0 | h0
  · subst h0; exact wle_refl _
  · exact wle_trans (ih ((k - 1) / 2) (by omega) (by omega)) (h k h0 hk)
theorem pop_start {L : List Vis} {n : Nat} (h : IsH L (n + 1)) (hl : L.length = n + 1) : DnH (swp L 0 n) n 0 := by
 refine ⟨fun k hk hkn hne => ?_, fun k hk hkn hki h0 => by omega⟩
 rw [swp_wy L (by omega) (by omega), swp_wy L (by omega) (by omega), if_neg (show ¬ (k - 1) / 2 = n by omega), if_neg hne, if_neg (show ¬ k = n by omega), if_neg (show ¬ k = 0 by omega)]
 exact h k hk (by omega)
theorem push_start {L : List Vis} (h : IsH L L.length) (x : Vis) : UpH (L ++ [x]) L.length := by
 have e : ∀ k, k < L.length → wy (L ++ [x]) k = wy L k := fun k hk => by simp [wy, List.getD, List.getElem?_append_left hk]
 refine ⟨fun k hk hkl hne => ?_, fun k hk hkl hki h0 => ?_⟩
 · simp only [List.length_append, List.length_cons, List.length_nil] at hkl
   rw [e _ (by omega), e _ (by omega)]
   exact h k hk (by omega)
 · simp only [List.length_append, List.length_cons, List.length_nil] at hkl
   omega
theorem isH_take {L : List Vis} {n : Nat} (h : IsH L n) (hn : n ≤ L.length) : IsH (L.take n) (L.take n).length := by
 have e : ∀ k, k < n → wy (L.take n) k = wy L k := fun k hk => by simp [wy, List.getD, hk]
 intro k hk hkl
 simp only [List.length_take] at hkl
 rw [e _ (by omega), e _ (by omega)]
 exact h k hk (by omega)
end Go.Proofs.YtdkdhjhhbkcciaaGreat
namespace Go.Proofs.YtdkdhjhhbkcciaaGreat
set_option linter.unusedVariables false
def RW (ss : List Stm) (ys : List Int) : Prop := 1 ≤ ys.length ∧ ys.getD 0 0 = 0 ∧ stepsOk ss ys (ys.length - 1) = true
def st (c : Int) (ss : List Stm) (s : Int) (ys : List Int) : Int := alongK c ss ys s (ys.length - 1)
theorem getD_snoc_lt {ys : List Int} {y : Int} {k : Nat} (h : k < ys.length) : (ys ++ [y]).getD k 0 = ys.getD k 0 := by
 simp [List.getD, List.getElem?_append_left h]
theorem getD_snoc_last {ys : List Int} {y : Int} : (ys ++ [y]).getD ys.length 0 = y := by simp [List.getD]
theorem stepsOk_snocE {ss : List Stm} {ys : List Int} {y : Int} : ∀ {k : Nat}, k < ys.length → stepsOk ss (ys ++ [y]) k = stepsOk ss ys k
 | 0, _ => rfl
 | k + 1, h => by rw [stepsOk, stepsOk, stepsOk_snocE (by omega), getD_snoc_lt (by omega), getD_snoc_lt h]
theorem alongK_snoc {c : Int} {ss : List Stm} {s : Int} {ys : List Int} {y : Int} : ∀ {k : Nat}, k ≤ ys.length → alongK c ss (ys ++ [y]) s k = alongK c ss ys s k
 | 0, _ => rfl
 | k + 1, h => by rw [alongK, alongK, alongK_snoc (by omega), getD_snoc_lt (by omega)]
theorem RW0 (ss : List Stm) : RW ss [0] := ⟨by simp, rfl, rfl⟩
theorem st0 (c : Int) (ss : List Stm) (s : Int) : st c ss s [0] = s := rfl
theorem lastI_at {ys : List Int} {k : Nat} (h : ys.length = k + 1) : lastI ys = ys.getD k 0 := by
 unfold lastI; rw [h]; rfl
theorem RW_in {ss : List Stm} (hp : procOk ss = true) {ys : List Int} (h : RW ss ys) : ∃ j : Nat, lastI ys = (j : Int) ∧ j < ss.length := by
 obtain ⟨h1, h2, h3⟩ := h
 exact stepsOk_in hp h2 h3
theorem hasI_mem {xs : List Int} {y : Int} : hasI xs y = true ↔ y ∈ xs := by
 simp [hasI]
theorem RW_snoc {ss : List Stm} (hp : procOk ss = true) {ys : List Int} {y : Int} (h : RW ss ys) (hy : y ∈ nx ss (lastI ys).toNat) : RW ss (ys ++ [y]) := by
 obtain ⟨j, hj, hjl⟩ := RW_in hp h
 obtain ⟨h1, h2, h3⟩ := h
 obtain ⟨k, hk⟩ : ∃ k, ys.length = k + 1 := ⟨ys.length - 1, by omega⟩
 refine ⟨by simp, by rw [getD_snoc_lt (by omega)]; exact h2, ?_⟩
 have e : (ys ++ [y]).length - 1 = k + 1 := by simp [hk]
 rw [e, stepsOk, stepsOk_snocE (by omega), getD_snoc_lt (by omega)]
 have e2 : (ys ++ [y]).getD (k + 1) 0 = y := by rw [← hk]; exact getD_snoc_last
 rw [e2, Bool.and_eq_true]
 refine ⟨by rw [hk] at h3; exact h3, ?_⟩
 rw [hj, Int.toNat_natCast] at hy
 rw [← lastI_at hk, hj, Int.toNat_natCast, hasI_mem]
 exact hy
theorem RW_inv {ss : List Stm} (hp : procOk ss = true) {zs : List Int} (h : RW ss zs) : zs = [0] ∨ ∃ ys y, zs = ys ++ [y] ∧ RW ss ys ∧ y ∈ nx ss (lastI ys).toNat := by
 obtain ⟨h1, h2, h3⟩ := h
 obtain ⟨k, hk⟩ : ∃ k, zs.length = k + 1 := ⟨zs.length - 1, by omega⟩
 have hne : zs ≠ [] := by intro e; rw [e] at h1; simp at h1
 have hz : zs = zs.dropLast ++ [zs.getLast hne] := (List.dropLast_concat_getLast hne).symm
 generalize zs.dropLast = ys at hz
 generalize zs.getLast hne = y at hz
 subst hz
 have hyl : ys.length = k := by simpa using hk
 rcases Nat.eq_zero_or_pos k with h0 | h0
 · left
   have : ys = [] := List.eq_nil_of_length_eq_zero (by omega)
   subst this
   simp at h2
   simp [h2]
 · right
   obtain ⟨m, rfl⟩ : ∃ m, k = m + 1 := ⟨k - 1, by omega⟩
   have e : (ys ++ [y]).length - 1 = m + 1 := by simp [hyl]
   rw [e, stepsOk, stepsOk_snocE (by omega), getD_snoc_lt (by omega), Bool.and_eq_true] at h3
   have e2 : (ys ++ [y]).getD (m + 1) 0 = y := by rw [← hyl]; exact getD_snoc_last
   rw [e2] at h3
   have hR : RW ss ys := ⟨by omega, by rw [getD_snoc_lt (by omega)] at h2; exact h2, by rw [hyl]; exact h3.1⟩
   obtain ⟨j, hj, hjl⟩ := RW_in hp hR
   refine ⟨ys, y, rfl, hR, ?_⟩
   have h4 := h3.2
   rw [← lastI_at hyl, hj, Int.toNat_natCast, hasI_mem] at h4
   rw [hj, Int.toNat_natCast]
   exact h4
theorem st_snoc {c : Int} {ss : List Stm} {s : Int} {ys : List Int} {y : Int} (h : 1 ≤ ys.length) : st c ss s (ys ++ [y]) = img (flw c ss (lastI ys).toNat) (st c ss s ys) := by
 obtain ⟨k, hk⟩ : ∃ k, ys.length = k + 1 := ⟨ys.length - 1, by omega⟩
 unfold st
 have e : (ys ++ [y]).length - 1 = k + 1 := by simp [hk]
 have e3 : ys.length - 1 = k := by omega
 rw [e, alongK, alongK_snoc (by omega), getD_snoc_lt (by omega), ← lastI_at hk, e3]
theorem RW_ind {ss : List Stm} (hp : procOk ss = true) {P : List Int → Prop} (h0 : P [0]) (hs : ∀ ys y, RW ss ys → y ∈ nx ss (lastI ys).toNat → P ys → P (ys ++ [y])) : ∀ (n : Nat) (ys : List Int), ys.length ≤ n → RW ss ys → P ys
 | 0, ys, hl, h => by have := h.1; omega
 | n + 1, ys, hl, h => by
  rcases RW_inv hp h with rfl | ⟨zs, y, rfl, hz, hy⟩
  · exact h0
  · exact hs zs y hz hy (RW_ind hp h0 hs n zs (by simp at hl; omega) hz)
theorem st_small {c : Int} {ss : List Stm} {s : Int} (hp : procOk ss = true) (hs : Small s) {ys : List Int} (h : RW ss ys) : Small (st c ss s ys) := by
 refine RW_ind hp (P := fun ys => Small (st c ss s ys)) hs (fun zs y hz hy ih => ?_) ys.length ys (Nat.le_refl _) h
 obtain ⟨j, hj, hjl⟩ := RW_in hp hz
 rw [st_snoc hz.1, hj, Int.toNat_natCast]
 exact img_small (flw_smalls hp hjl) _
def IsSolved (c : Int) (ss : List Stm) (s : Int) (A : List Int) : Prop :=
 A.length = ss.length ∧ (∀ k, Small (A.getD k 0)) ∧ ∀ i t, i < ss.length → t < 7 → (bit (A.getD i 0) t = true ↔ ∃ ys, RW ss ys ∧ lastI ys = (i : Int) ∧ bit (st c ss s ys) t = true)
def SolvedAns (c : Int) (ss : List Stm) (s : Int) (A : List Int) : Prop :=
 ((procOk ss && isCl c && inB s 0 127) = true → IsSolved c ss s A) ∧ ((procOk ss && isCl c && inB s 0 127) = false → A = [])
theorem solved_unique {c : Int} {ss : List Stm} {s : Int} {A B : List Int} (ha : IsSolved c ss s A) (hb : IsSolved c ss s B) : A = B := by
 refine List.ext_getElem (by rw [ha.1, hb.1]) (fun i h1 h2 => ?_)
 have e : A.getD i 0 = B.getD i 0 := bit_eq (ha.2.1 i) (hb.2.1 i) (fun t ht => (ha.2.2 i t (by rw [← ha.1]; exact h1) ht).trans (hb.2.2 i t (by rw [← ha.1]; exact h1) ht).symm)
 simpa [List.getD, h1, h2] using e
theorem bits_some : ∀ (n : Nat) (f : Nat → Bool), ∃ x : Nat, x < 2 ^ n ∧ ∀ t, t < n → x.testBit t = f t
 | 0, f => ⟨0, by simp, fun t ht => by omega⟩
 | n + 1, f => by
  obtain ⟨y, hy, hb⟩ := bits_some n (fun t => f (t + 1))
  refine ⟨2 * y + (f 0).toNat, by rw [Nat.pow_succ]; have := Bool.toNat_lt (f 0); omega, fun t ht => ?_⟩
  cases t with
  | zero =>
   rw [Nat.testBit_zero]
   cases f 0 <;> simp <;> omega
  | succ t =>
   rw [Nat.testBit_succ]
   have : (2 * y + (f 0).toNat) / 2 = y := by have := Bool.toNat_lt (f 0); omega
   rw [this]
   exact hb t (by omega)
theorem solved_some (c : Int) (ss : List Stm) (s : Int) : ∃ A, IsSolved c ss s A := by
 classical
 have h : ∀ i : Nat, ∃ x : Int, Small x ∧ ∀ t, t < 7 → (bit x t = true ↔ ∃ ys, RW ss ys ∧ lastI ys = (i : Int) ∧ bit (st c ss s ys) t = true) := fun i => by
  obtain ⟨x, hx, hb⟩ := bits_some 7 (fun t => decide (∃ ys, RW ss ys ∧ lastI ys = (i : Int) ∧ bit (st c ss s ys) t = true))
  refine ⟨(x : Int), ⟨by omega, by omega⟩, fun t ht => ?_⟩
  unfold bit
  rw [Int.toNat_natCast, hb t ht, decide_eq_true_eq]
  rfl
 refine ⟨(List.range ss.length).map (fun i => Classical.choose (h i)), by simp, fun k => ?_, fun i t hi ht => ?_⟩
 · rcases Nat.lt_or_ge k ss.length with hk | hk
   · simp only [List.getD, List.getElem?_map, List.getElem?_range hk, Option.map_some, Option.getD_some]
     exact (Classical.choose_spec (h k)).1
   · simp only [List.getD]
     rw [List.getElem?_eq_none (by simpa using hk)]
     exact ⟨by decide, by decide⟩
 · simp only [List.getD, List.getElem?_map, List.getElem?_range hi, Option.map_some, Option.getD_some]
   exact (Classical.choose_spec (h i)).2 t ht
theorem solvedAns_some (c : Int) (ss : List Stm) (s : Int) : ∃ A, SolvedAns c ss s A := by
 cases h : (procOk ss && isCl c && inB s 0 127)
 · exact ⟨[], by rw [h]; simp, fun _ => rfl⟩
 · obtain ⟨A, hA⟩ := solved_some c ss s
   exact ⟨A, fun _ => hA, by rw [h]; simp⟩
theorem solvedAns_length {c : Int} {ss : List Stm} {s : Int} {A : List Int} (h : SolvedAns c ss s A) : A.length ≤ 12 := by
 cases hin : (procOk ss && isCl c && inB s 0 127)
 · rw [h.2 hin]; simp
 · rw [(h.1 hin).1]
   simp only [Bool.and_eq_true] at hin
   exact (procOk_parts hin.1.1).2.1
theorem getD_rep (n k : Nat) : (List.replicate n (0 : Int)).getD k 0 = 0 := by
 rw [List.getD, List.getElem?_replicate]
 split <;> rfl
structure VInv (c : Int) (ss : List Stm) (s : Int) (pre work : List Vis) (found : List Int) : Prop where
 real : ∀ x, x ∈ pre ∨ x ∈ work → RW ss x.way ∧ x.set = st c ss s x.way
 len : found.length = 12
 small : ∀ k, Small (found.getD k 0)
 fnd : ∀ i t, t < 7 → (bit (found.getD i 0) t = true ↔ ∃ x ∈ pre, lastI x.way = (i : Int) ∧ bit x.set t = true)
 start : (∃ x ∈ work, x.way = [0]) ∨ (∀ t, t < 7 → bit s t = true → ∃ z ∈ pre, z.way = [0] ∧ bit z.set t = true)
 closed : ∀ x ∈ pre, ∀ y ∈ nx ss (lastI x.way).toNat, (∃ z ∈ work, z.way = x.way ++ [y]) ∨ (∀ t, t < 7 → bit (st c ss s (x.way ++ [y])) t = true → ∃ z ∈ pre, wle z.way (x.way ++ [y]) ∧ lastI z.way = y ∧ bit z.set t = true)
 lt : ∀ x ∈ pre, ∀ y ∈ work, wle x.way y.way
 wlen : ∀ x ∈ work, x.way.length ≤ pre.length + 1
section
variable {c : Int} {ss : List Stm} {s : Int} {pre work : List Vis} {found : List Int}
theorem VInv.begin (hs : Small s) (x : Vis) (hw : x.way = [0]) (hx : x.set = s) : VInv c ss s [] [x] (List.replicate 12 0) where
 real := fun y hy => by
  rcases hy with hy | hy
  · simp at hy
  · simp at hy; subst hy; rw [hw]; exact ⟨RW0 ss, hx.trans (st0 c ss s).symm⟩
 len := by simp
 small := fun k => by
  rw [getD_rep]; exact ⟨by decide, by decide⟩
 fnd := fun i t ht => by
  rw [getD_rep, bit_zero]; simp
 start := .inl ⟨x, by simp, hw⟩
 closed := fun y hy => by simp at hy
 lt := fun y hy => by simp at hy
 wlen := fun y hy => by simp at hy; subst hy; rw [hw]; simp
theorem VInv.skip (hp : procOk ss = true) (hs : Small s) (h : VInv c ss s pre work found) {v : Vis} {work' : List Vis} (hm : ∀ y, y ∈ work ↔ y = v ∨ y ∈ work') {i : Nat} (hi : lastI v.way = (i : Int)) (hh : hasA (found.getD i 0) v.set = true) : VInv c ss s pre work' found := by
 have hv : v ∈ work := (hm v).2 (.inl rfl)
 obtain ⟨hR, hS⟩ := h.real v (.inr hv)
 have hsv : Small v.set := by rw [hS]; exact st_small hp hs hR
 have hall := (hasA_iff (h.small i) hsv).1 hh
 have key : ∀ t, t < 7 → bit v.set t = true → ∃ z ∈ pre, wle z.way v.way ∧ lastI z.way = (i : Int) ∧ bit z.set t = true := fun t ht hb => by
  obtain ⟨z, hz, h1, h2⟩ := (h.fnd i t ht).1 (hall t ht hb)
  exact ⟨z, hz, h.lt z hz v hv, h1, h2⟩
 refine ⟨fun x hx => h.real x (hx.imp id (fun h => (hm x).2 (.inr h))), h.len, h.small, h.fnd, ?_, fun x hx y hy => ?_, fun x hx y hy => h.lt x hx y ((hm y).2 (.inr hy)), fun x hx => h.wlen x ((hm x).2 (.inr hx))⟩
 · rcases h.start with ⟨x, hx, hw⟩ | h0
   · rcases (hm x).1 hx with rfl | hx'
     · right
       intro t ht hb
       have : bit x.set t = true := by rw [hS, hw, st0]; exact hb
       obtain ⟨z, hz, h1, h2, h3⟩ := key t ht this
       refine ⟨z, hz, ?_, h3⟩
       rw [hw] at h1
       have hRz := (h.real z (.inl hz)).1
       have hl : z.way.length ≤ 1 := by
        rcases wle_iff.1 h1 with h1 | h1
        · rcases wlt_iff.1 h1 with h1 | h1
          · simp only [List.length_cons, List.length_nil] at h1; omega
          · have := h1.1
            simp only [List.length_cons, List.length_nil] at this; omega
        · rw [h1]; simp
       have h1z := hRz.1
       have h2z := hRz.2.1
       match hzw : z.way, h1z, hl with
       | [a], _, _ => rw [hzw] at h2z; simp at h2z; rw [h2z]
       | [], h, _ => simp at h
       | a :: b :: l, _, h => simp at h
     · exact .inl ⟨x, hx', hw⟩
   · exact .inr h0
 · rcases h.closed x hx y hy with ⟨z, hz, hw⟩ | h0
   · rcases (hm z).1 hz with rfl | hz'
     · right
       intro t ht hb
       rw [← hw] at hb ⊢
       rw [← hS] at hb
       obtain ⟨q, hq, h1, h2, h3⟩ := key t ht hb
       refine ⟨q, hq, h1, ?_, h3⟩
       rw [h2, ← hi, hw, lastI_snoc]
     · exact .inl ⟨z, hz', hw⟩
   · exact .inr h0
theorem VInv.news (hp : procOk ss = true) (hs : Small s) (h : VInv c ss s pre work found) {v : Vis} {work' work2 : List Vis} (hm : ∀ y, y ∈ work ↔ y = v ∨ y ∈ work') (hmin : ∀ y, y ∈ work' → wle v.way y.way) {i : Nat} (hi : lastI v.way = (i : Int)) (hil : i < 12)
 (hw2 : ∀ y, y ∈ work2 → y ∈ work' ∨ ∃ n ∈ nx ss i, y.way = v.way ++ [n] ∧ y.set = img (flw c ss i) v.set) (hw3 : ∀ y, y ∈ work' → y ∈ work2) (hw4 : ∀ n ∈ nx ss i, ∃ y ∈ work2, y.way = v.way ++ [n]) :
 VInv c ss s (pre ++ [v]) work2 (found.set i (lor (found.getD i 0) v.set)) := by
 have hv : v ∈ work := (hm v).2 (.inl rfl)
 obtain ⟨hR, hS⟩ := h.real v (.inr hv)
 have hsv : Small v.set := by rw [hS]; exact st_small hp hs hR
 have hlor := lor_small (h.small i) hsv
 have hget : ∀ k, (found.set i (lor (found.getD i 0) v.set)).getD k 0 = if k = i then lor (found.getD i 0) v.set else found.getD k 0 := fun k => by
  by_cases e : i = k
  · subst e
    simp [List.getD, h.len, hil]
  · rw [if_neg (fun e' => e e'.symm)]
    simp [List.getD, List.getElem?_set_ne e]
 have hold : ∀ y, y ∈ pre → wle y.way v.way := fun y hy => h.lt y hy v hv
 refine ⟨fun x hx => ?_, by rw [List.length_set]; exact h.len, fun k => ?_, fun k t ht => ?_, ?_, fun x hx y hy => ?_, fun x hx y hy => ?_, fun x hx => ?_⟩
 · rcases hx with hx | hx
   · rcases List.mem_append.1 hx with hx | hx
     · exact h.real x (.inl hx)
     · simp at hx; subst hx; exact ⟨hR, hS⟩
   · rcases hw2 x hx with hx | ⟨n, hn, h1, h2⟩
     · exact h.real x (.inr ((hm x).2 (.inr hx)))
     · rw [h1, h2]
       have hn' : n ∈ nx ss (lastI v.way).toNat := by rw [hi, Int.toNat_natCast]; exact hn
       refine ⟨RW_snoc hp hR hn', ?_⟩
       rw [st_snoc hR.1, hi, Int.toNat_natCast, hS]
 · rw [hget]; split
   · exact hlor
   · exact h.small k
 · rw [hget]
   by_cases e : k = i
   · subst e
     rw [if_pos rfl, bit_lor (h.small k) hsv, Bool.or_eq_true, h.fnd k t ht]
     constructor
     · rintro (⟨x, hx, h1, h2⟩ | hb)
       · exact ⟨x, by simp [hx], h1, h2⟩
       · exact ⟨v, by simp, hi, hb⟩
     · rintro ⟨x, hx, h1, h2⟩
       rcases List.mem_append.1 hx with hx | hx
       · exact .inl ⟨x, hx, h1, h2⟩
       · simp at hx; subst hx; exact .inr h2
   · rw [if_neg e, h.fnd k t ht]
     constructor
     · rintro ⟨x, hx, h1, h2⟩; exact ⟨x, by simp [hx], h1, h2⟩
     · rintro ⟨x, hx, h1, h2⟩
       rcases List.mem_append.1 hx with hx | hx
       · exact ⟨x, hx, h1, h2⟩
       · simp at hx; subst hx; rw [hi] at h1; omega
 · rcases h.start with ⟨x, hx, hw⟩ | h0
   · rcases (hm x).1 hx with rfl | hx'
     · right
       intro t ht hb
       exact ⟨x, by simp, hw, by rw [hS, hw, st0]; exact hb⟩
     · exact .inl ⟨x, hw3 x hx', hw⟩
   · right
     intro t ht hb
     obtain ⟨z, hz, h1, h2⟩ := h0 t ht hb
     exact ⟨z, by simp [hz], h1, h2⟩
 · rcases List.mem_append.1 hx with hx | hx
   · rcases h.closed x hx y hy with ⟨z, hz, hw⟩ | h0
     · rcases (hm z).1 hz with rfl | hz'
       · right
         intro t ht hb
         rw [← hw] at hb ⊢
         refine ⟨z, by simp, wle_refl _, ?_, by rw [hS]; exact hb⟩
         rw [hw, lastI_snoc]
       · exact .inl ⟨z, hw3 z hz', hw⟩
     · right
       intro t ht hb
       obtain ⟨z, hz, h1, h2, h3⟩ := h0 t ht hb
       exact ⟨z, by simp [hz], h1, h2, h3⟩
   · simp at hx
     subst hx
     rw [hi, Int.toNat_natCast] at hy
     obtain ⟨z, hz, hw⟩ := hw4 y hy
     exact .inl ⟨z, hz, hw⟩
 · have hxv : wle x.way v.way := by
    rcases List.mem_append.1 hx with hx | hx
    · exact hold x hx
    · simp at hx; subst hx; exact wle_refl _
   refine wle_trans hxv ?_
   rcases hw2 y hy with hy | ⟨n, hn, h1, h2⟩
   · exact hmin y hy
   · rw [h1]; exact wle_of_lt (wlt_snoc _ _)
 · have hvl := h.wlen v hv
   rcases hw2 x hx with hx | ⟨n, hn, h1, h2⟩
   · have := h.wlen x ((hm x).2 (.inr hx))
     simp; omega
   · rw [h1]; simp; omega
theorem VInv.done (hp : procOk ss = true) (hs : Small s) (h : VInv c ss s pre work found) {ys : List Int} (hR : RW ss ys) (hlt : ∀ x ∈ work, wlt ys x.way = true) : ∀ t, t < 7 → bit (st c ss s ys) t = true → ∃ z ∈ pre, wle z.way ys ∧ lastI z.way = lastI ys ∧ bit z.set t = true := by
 refine RW_ind hp (P := fun ys => (∀ x ∈ work, wlt ys x.way = true) → ∀ t, t < 7 → bit (st c ss s ys) t = true → ∃ z ∈ pre, wle z.way ys ∧ lastI z.way = lastI ys ∧ bit z.set t = true) ?_ ?_ ys.length ys (Nat.le_refl _) hR hlt
 · intro hlt t ht hb
   rcases h.start with ⟨x, hx, hw⟩ | h0
   · have := hlt x hx
     rw [hw, wlt_irrefl] at this
     cases this
   · obtain ⟨z, hz, h1, h2⟩ := h0 t ht hb
     exact ⟨z, hz, by rw [h1]; exact wle_refl _, by rw [h1], h2⟩
 · intro zs y hz hy ih hlt t ht hb
   obtain ⟨j, hj, hjl⟩ := RW_in hp hz
   rw [st_snoc hz.1] at hb
   have hfs := flw_smalls (c := c) hp hjl
   rw [hj, Int.toNat_natCast] at hb
   obtain ⟨u, hu, h1, h2⟩ := (bit_img hfs _ t).1 hb
   obtain ⟨q, hq, q1, q2, q3⟩ := ih (fun x hx => wlt_trans (wlt_snoc zs y) (hlt x hx)) u hu h1
   obtain ⟨hRq, hSq⟩ := h.real q (.inl hq)
   have hyq : y ∈ nx ss (lastI q.way).toNat := by rw [q2]; exact hy
   have hle : wle (q.way ++ [y]) (zs ++ [y]) := wle_snoc y q1
   have hbq : bit (st c ss s (q.way ++ [y])) t = true := by
    rw [st_snoc hRq.1, q2, hj, Int.toNat_natCast, ← hSq]
    exact (bit_img hfs _ t).2 ⟨u, hu, q3, h2⟩
   rcases h.closed q hq y hyq with ⟨z, hzw, hw⟩ | h0
   · have h3 := hlt z hzw
     rw [hw] at h3
     have := wlt_of_lt_le h3 hle
     rw [wlt_irrefl] at this
     cases this
   · obtain ⟨z, hz', z1, z2, z3⟩ := h0 t ht hbq
     exact ⟨z, hz', wle_trans z1 hle, by rw [z2, lastI_snoc], z3⟩
theorem VInv.solved (hp : procOk ss = true) (hs : Small s) (h : VInv c ss s pre [] found) : IsSolved c ss s (found.take ss.length) := by
 have h12 := (procOk_parts hp).2.1
 have hg : ∀ k, k < ss.length → (found.take ss.length).getD k 0 = found.getD k 0 := fun k hk => by simp [List.getD, hk]
 refine ⟨by rw [List.length_take, h.len]; omega, fun k => ?_, fun i t hi ht => ?_⟩
 · rcases Nat.lt_or_ge k ss.length with hk | hk
   · rw [hg k hk]; exact h.small k
   · simp only [List.getD]
     rw [List.getElem?_eq_none (by simp; omega)]
     exact ⟨by decide, by decide⟩
 · rw [hg i hi, h.fnd i t ht]
   constructor
   · rintro ⟨x, hx, h1, h2⟩
     obtain ⟨hR, hS⟩ := h.real x (.inl hx)
     exact ⟨x.way, hR, h1, by rw [← hS]; exact h2⟩
   · rintro ⟨ys, hR, h1, h2⟩
     obtain ⟨z, hz, _, z2, z3⟩ := h.done hp hs hR (fun x hx => by simp at hx) t ht h2
     exact ⟨z, hz, z2.trans h1, z3⟩
end
end Go.Proofs.YtdkdhjhhbkcciaaGreat
