/-
 Chapter 11, mathematics of the program's way: what came to entries, what holds ahead of places, calls that wait (no dump is spoken of).
-/
import Derived.Test.YtnjbihfceckpfaaG32EntM
namespace Go.Proofs.Ytnjbihfceckpfaa
open Go.RowKit
set_option linter.unusedVariables false
set_option maxHeartbeats 1000000

def noneF : Int → Int → Option Int := fun _ _ => none

/-- What begin has made of the sets ahead, k statements gone through. -/
def fK (I : Nat → Nat → List Int) (i : Nat) (news : Int) (f : Int → Int → Option Int) (k : Nat) : Int → Int → Option Int :=
 fun a b => if a = (i : Int) ∧ 0 ≤ b ∧ b < (k : Int) then some (lor ((f a b).getD 0) (img (I i b.toNat) news)) else f a b
/-- Likewise of those that wait. -/
def gK (I : Nat → Nat → List Int) (ss : List Stm) (i : Nat) (news : Int) (g : Int → Int → Option Int) (k : Nat) : Int → Int → Option Int :=
 fun a b => if a = (i : Int) ∧ 0 ≤ b ∧ b < (k : Int) ∧ (ss.getD b.toNat ⟨0, 0, 0⟩).k = 8 ∧ ¬ img (I i b.toNat) news = 0 then some (img (I i b.toNat) news) else g a b

structure Fnd (c : Int) (ps : List (List Stm)) (I : Nat → Nat → List Int) (m : Nat) (H : Nat → Int) (E : List Int) (f g : Int → Int → Option Int) : Prop where
 len : E.length = 4
 small : ∀ i, Small (E.getD i 0)
 low : LowE c ps I E
 ahead : ∀ i (hi : i < ps.length) k, k < ps[i].length → (f i k).getD 0 = img (I i k) (E.getD i 0)
 out : ∀ i k : Int, f i k ≠ none → ∃ (a b : Nat) (ha : a < ps.length), b < ps[a].length ∧ i = a ∧ k = b
 wait : ∀ i (hi : i < ps.length) k (hk : k < ps[i].length), ps[i][k].k = 8 → ∀ t, bit (goesIn c I E i k) t = true →
  bit (E.getD ps[i][k].y.toNat 0) t = true ∨ bit (img (enterAns c) ((g i k).getD 0)) t = true ∨ (m ≤ ps[i][k].y.toNat ∧ bit (H ps[i][k].y.toNat) t = true)
 gin : ∀ (i k : Int) x, g i k = some x → ∃ (a b : Nat) (ha : a < ps.length) (hb : b < ps[a].length), i = a ∧ k = b ∧ ps[a][b].k = 8 ∧ Small x ∧ ¬ x = 0 ∧ Sub x (img (I a b) (E.getD a 0))
 fresh : ∀ a : Nat, m ≤ a → ∀ k, g a k = none
 hlow : ∀ F, SmallN ps.length F → CloE c ps I F → ∀ i, m ≤ i → i < ps.length → Sub (H i) (F.getD i 0)
 hsmall : ∀ i, Small (H i)
 start : ∀ t, bit (startAns c) t = true → bit (E.getD 0 0) t = true ∨ (m = 0 ∧ bit (H 0) t = true)

theorem new_sub {s e : Int} (hs : Small s) (he : Small e) : Sub (andN s e) s := fun t h => by rw [bit_andN hs he] at h; simp at h; exact h.1
theorem old_new {s e : Int} (hs : Small s) (he : Small e) : Sub s (lor e (andN s e)) := fun t h => by
 rw [bit_lor he (andN_small hs he), bit_andN hs he, h]
 cases bit e t <;> rfl
theorem new_zero {s e : Int} (hs : Small s) (he : Small e) (h : lor e (andN s e) = e) : andN s e = 0 := by
 refine bit_eq (andN_small hs he) small0 (fun t _ => ⟨fun ht => ?_, fun ht => by rw [bit_zero] at ht; cases ht⟩)
 have h1 := sub_lor_r he (andN_small hs he) t ht
 rw [h] at h1
 rw [bit_andN hs he, h1] at ht
 simp at ht

/-- Nothing is there yet, and Start is to come to the entry of 0. -/
theorem Fnd.zero {c : Int} (hc : c = 1 ∨ c = 2) {ps : List (List Stm)} {I : Nat → Nat → List Int} (hI : GoodI ps I) : Fnd c ps I 0 (fun i => if i = 0 then startAns c else 0) [0, 0, 0, 0] noneF noneF := by
 have hg : ∀ i, ([0, 0, 0, 0] : List Int).getD i 0 = 0 := fun i => by
  match i with
  | 0 => rfl
  | 1 => rfl
  | 2 => rfl
  | 3 => rfl
  | n + 4 => rw [getD_out (by simp)]
 refine ⟨rfl, fun i => by rw [hg]; exact small0, fun F _ _ i _ => by rw [hg]; exact sub_zero _, fun i hi k hk => ?_, fun i k h => absurd rfl h, fun i hi k hk h8 t ht => ?_, fun i k x h => (by cases h), fun a _ k => rfl, fun F hF hcl i _ hi => ?_, fun i => ?_, fun t ht => .inr ⟨rfl, by simpa using ht⟩⟩
 · rw [hg, img_zero (hI i hi k hk)]; rfl
 · unfold goesIn at ht
   rw [hg, img_zero (hI i hi k hk), img_zero (enter_smalls hc), bit_zero] at ht
   cases ht
 · split
   · rename_i e; subst e; exact hcl.1
   · exact sub_zero _
 · split
   · exact start_small hc
   · exact small0

/-- The next one is begun. -/
theorem Fnd.step {c : Int} (hc : c = 1 ∨ c = 2) {ps : List (List Stm)} (hp : CanP ps) (h4 : ps.length ≤ 4) {I : Nat → Nat → List Int} (hI : GoodI ps I) {m : Nat} {H : Nat → Int} {E : List Int} {f g : Int → Int → Option Int} (h : Fnd c ps I m H E f g) (hm : m < ps.length) :
 Fnd c ps I (m + 1) H (E.set m (lor (E.getD m 0) (andN (H m) (E.getD m 0)))) (fK I m (andN (H m) (E.getD m 0)) f ps[m].length) (gK I ps[m] m (andN (H m) (E.getD m 0)) g ps[m].length) := by
 have hmE : m < E.length := by rw [h.len]; omega
 have hs := h.hsmall m
 have he := h.small m
 obtain ⟨nw, hnw⟩ : ∃ nw, andN (H m) (E.getD m 0) = nw := ⟨_, rfl⟩
 have hns : Small nw := by rw [← hnw]; exact andN_small hs he
 have hnH : Sub nw (H m) := by rw [← hnw]; exact new_sub hs he
 have hHE : Sub (H m) (lor (E.getD m 0) nw) := by rw [← hnw]; exact old_new hs he
 rw [hnw]
 have hg := fun i => getD_setI hmE (lor (E.getD m 0) nw) i
 have up : ∀ i, Sub (E.getD i 0) ((E.set m (lor (E.getD m 0) nw)).getD i 0) := fun i => by
  rw [hg]; split
  · rename_i e; subst e; exact sub_lor_l he hns
  · exact Sub.refl _
 have tail : ∀ y t, m ≤ y → bit (H y) t = true → bit ((E.set m (lor (E.getD m 0) nw)).getD y 0) t = true ∨ (m + 1 ≤ y ∧ bit (H y) t = true) := fun y t hy ht => by
  by_cases e : y = m
  · left; rw [hg, if_pos e]; subst e; exact hHE t ht
  · right; exact ⟨by omega, ht⟩
 refine ⟨by simp [h.len], fun i => ?_, fun F hF hcl i hi => ?_, fun i hi k hk => ?_, fun i k hne => ?_, fun i hi k hk h8 t ht => ?_, fun i k x hx => ?_, fun a ha k => ?_, fun F hF hcl i hmi hi => h.hlow F hF hcl i (by omega) hi, h.hsmall, fun t ht => ?_⟩
 · rw [hg]; split
   · exact lor_small he hns
   · exact h.small i
 · rw [hg]; split
   · rename_i e; subst e; exact lor_sub he hns (h.low F hF hcl i hi) (hnH.trans (h.hlow F hF hcl i (Nat.le_refl _) hi))
   · exact h.low F hF hcl i hi
 · rw [hg]
   unfold fK
   by_cases e : i = m
   · subst e
     rw [if_pos ⟨rfl, by omega, by omega⟩, if_pos rfl]
     simp only [Int.toNat_natCast, Option.getD_some]
     rw [h.ahead i hi k hk, img_lor (hI i hi k hk) he hns]
   · rw [if_neg (fun h => e (by omega)), if_neg e]
     exact h.ahead i hi k hk
 · unfold fK at hne
   by_cases e : i = (m : Int) ∧ 0 ≤ k ∧ k < (ps[m].length : Int)
   · exact ⟨m, k.toNat, hm, by omega, e.1, by omega⟩
   · rw [if_neg e] at hne; exact h.out i k hne
 · by_cases e : i = m
   · subst e
     unfold goesIn at ht
     rw [hg, if_pos rfl, img_lor (hI i hi k hk) he hns, img_lor (enter_smalls hc) (img_small (hI i hi k hk) _) (img_small (hI i hi k hk) _), bit_lor (img_small (enter_smalls hc) _) (img_small (enter_smalls hc) _), Bool.or_eq_true] at ht
     rcases ht with ht | ht
     · rcases h.wait i hi k hk h8 t ht with h1 | h1 | ⟨h1, h2⟩
       · exact .inl (up _ t h1)
       · rw [h.fresh i (Nat.le_refl _) k] at h1
         simp only [Option.getD_none] at h1
         rw [img_zero (enter_smalls hc), bit_zero] at h1
         cases h1
       · rcases tail _ t h1 h2 with h3 | h3
         · exact .inl h3
         · exact .inr (.inr h3)
     · right; left
       unfold gK
       have hz : ¬ img (I i k) nw = 0 := fun e0 => by
        rw [e0, img_zero (enter_smalls hc), bit_zero] at ht; cases ht
       have hkk : (ps[i].getD k ⟨0, 0, 0⟩).k = 8 := by simpa [List.getD, hk] using h8
       rw [if_pos ⟨rfl, by omega, by omega, by simpa using hkk, by simpa using hz⟩]
       simpa using ht
   · have e1 : goesIn c I (E.set m (lor (E.getD m 0) nw)) i k = goesIn c I E i k := by unfold goesIn; rw [hg, if_neg e]
     rw [e1] at ht
     have e2 : gK I ps[m] m nw g ps[m].length i k = g i k := by unfold gK; rw [if_neg (fun h => e (by omega))]
     rw [e2]
     rcases h.wait i hi k hk h8 t ht with h1 | h1 | ⟨h1, h2⟩
     · exact .inl (up _ t h1)
     · exact .inr (.inl h1)
     · rcases tail _ t h1 h2 with h3 | h3
       · exact .inl h3
       · exact .inr (.inr h3)
 · unfold gK at hx
   by_cases e : i = (m : Int) ∧ 0 ≤ k ∧ k < (ps[m].length : Int) ∧ (ps[m].getD k.toNat ⟨0, 0, 0⟩).k = 8 ∧ ¬ img (I m k.toNat) nw = 0
   · rw [if_pos e] at hx
     have hx := Option.some.inj hx
     have hkl : k.toNat < ps[m].length := by omega
     refine ⟨m, k.toNat, hm, hkl, e.1, by omega, by simpa [List.getD, hkl] using e.2.2.2.1, ?_, ?_, ?_⟩
     · rw [← hx]; exact img_small (hI m hm _ hkl) _
     · rw [← hx]; exact e.2.2.2.2
     · rw [← hx, hg, if_pos rfl]; exact img_mono (hI m hm _ hkl) (sub_lor_r he hns)
   · rw [if_neg e] at hx
     obtain ⟨a, b, ha, hb, h1, h2, h3, h4', h5, h6⟩ := h.gin i k x hx
     exact ⟨a, b, ha, hb, h1, h2, h3, h4', h5, h6.trans (img_mono (hI a ha b hb) (up a))⟩
 · unfold gK
   rw [if_neg (fun h => by omega)]
   exact h.fresh a (by omega) k
 · rcases h.start t ht with h1 | ⟨h1, h2⟩
   · exact .inl (up 0 t h1)
   · subst h1
     rcases tail 0 t (Nat.le_refl _) h2 with h3 | h3
     · exact .inl h3
     · omega

/-- Behind the first one nothing more is to come. -/
theorem Fnd.first {c : Int} {ps : List (List Stm)} {I : Nat → Nat → List Int} {H : Nat → Int} {E : List Int} {f g : Int → Int → Option Int} (h : Fnd c ps I 1 H E f g) (h1 : 1 ≤ ps.length) (h0 : ∀ i, 1 ≤ i → H i = 0) : Fnd c ps I ps.length H E f g := by
 refine ⟨h.len, h.small, h.low, h.ahead, h.out, fun i hi k hk h8 t ht => ?_, h.gin, fun a ha k => h.fresh a (by omega) k, fun F hF hcl i hmi hi => absurd hi (by omega), h.hsmall, fun t ht => ?_⟩
 · rcases h.wait i hi k hk h8 t ht with h2 | h2 | ⟨h2, h3⟩
   · exact .inl h2
   · exact .inr (.inl h2)
   · rw [h0 _ h2, bit_zero] at h3; cases h3
 · rcases h.start t ht with h2 | ⟨h2, _⟩
   · exact .inl h2
   · omega

/-- What waits has been gathered. -/
theorem Fnd.gather {c : Int} (hc : c = 1 ∨ c = 2) {ps : List (List Stm)} (hp : CanP ps) (h1 : 1 ≤ ps.length) {I : Nat → Nat → List Int} {H H' : Nat → Int} {E : List Int} {f g : Int → Int → Option Int} (h : Fnd c ps I ps.length H E f g)
 (hsm : ∀ i, Small (H' i)) (hlow : ∀ F, SmallN ps.length F → CloE c ps I F → ∀ i, i < ps.length → Sub (H' i) (F.getD i 0))
 (hall : ∀ (a b : Nat) (ha : a < ps.length) (hb : b < ps[a].length) x, g a b = some x → Sub (img (enterAns c) x) (H' ps[a][b].y.toNat)) : Fnd c ps I 0 H' E f noneF := by
 refine ⟨h.len, h.small, h.low, h.ahead, h.out, fun i hi k hk h8 t ht => ?_, fun i k x hx => (by cases hx), fun a _ k => rfl, fun F hF hcl i _ hi => hlow F hF hcl i hi, hsm, fun t ht => ?_⟩
 · rcases h.wait i hi k hk h8 t ht with h2 | h2 | ⟨h2, h3⟩
   · exact .inl h2
   · right; right
     cases hgk : g i k with
     | none =>
      rw [hgk] at h2
      simp only [Option.getD_none] at h2
      rw [img_zero (enter_smalls hc), bit_zero] at h2; cases h2
     | some x =>
      rw [hgk] at h2
      exact ⟨Nat.zero_le _, hall i k hi hk x hgk t h2⟩
   · obtain ⟨y, hy, hyl⟩ := call_y hp hi hk h8
     omega
 · rcases h.start t ht with h2 | ⟨h2, _⟩
   · exact .inl h2
   · omega

theorem Fnd.done {c : Int} (hc : c = 1 ∨ c = 2) {ps : List (List Stm)} (hp : CanP ps) (h1 : 1 ≤ ps.length) {I : Nat → Nat → List Int} {H : Nat → Int} {E : List Int} {f g : Int → Int → Option Int} (h : Fnd c ps I ps.length H E f g) (hg : ∀ (i k : Nat), i < ps.length → k < 12 → g i k = none) (h12 : ∀ i (hi : i < ps.length), ps[i].length ≤ 12) : IsEnt c ps I E := by
 refine ⟨fun i _ => h.small i, ⟨fun t ht => ?_, fun i hi k hk h8 t ht => ?_⟩, h.low⟩
 · rcases h.start t ht with h2 | ⟨h2, _⟩
   · exact h2
   · omega
 · rcases h.wait i hi k hk h8 t ht with h2 | h2 | ⟨h2, h3⟩
   · exact h2
   · rw [hg i k hi (by have := h12 i hi; omega)] at h2
     simp only [Option.getD_none] at h2
     rw [img_zero (enter_smalls hc), bit_zero] at h2; cases h2
   · obtain ⟨y, hy, hyl⟩ := call_y hp hi hk h8
     omega

/-- A round: either nothing is new yet, or there is less room. -/
def Rnd (E0 E : List Int) (g : Int → Int → Option Int) : Prop := (E = E0 ∧ ∀ a b, g a b = none) ∨ room E < room E0

theorem set_same {E : List Int} {m : Nat} (hm : m < E.length) : E.set m (E.getD m 0) = E := by
 refine List.ext_getElem? fun j => ?_
 by_cases e : m = j
 · subst e; simp [hm, List.getD]
 · rw [List.getElem?_set_ne e]

theorem Rnd.step {c : Int} {ps : List (List Stm)} {I : Nat → Nat → List Int} (hI : GoodI ps I) (h4 : ps.length ≤ 4) {m : Nat} {H : Nat → Int} {E E0 : List Int} {f g : Int → Int → Option Int} (h : Fnd c ps I m H E f g) (hm : m < ps.length) (hr : Rnd E0 E g) :
 Rnd E0 (E.set m (lor (E.getD m 0) (andN (H m) (E.getD m 0)))) (gK I ps[m] m (andN (H m) (E.getD m 0)) g ps[m].length) := by
 have hs := h.hsmall m
 have he := h.small m
 have hns := andN_small hs he
 have hmE : m < E.length := by rw [h.len]; omega
 by_cases e : lor (E.getD m 0) (andN (H m) (E.getD m 0)) = E.getD m 0
 · have e0 := new_zero hs he e
   rw [e, set_same hmE]
   rcases hr with ⟨rfl, hg⟩ | hr
   · refine .inl ⟨rfl, fun a b => ?_⟩
     unfold gK
     split
     · rename_i h1
       refine absurd ?_ h1.2.2.2.2
       rw [e0]
       exact img_zero (hI m hm _ (by omega))
     · exact hg a b
   · exact .inr hr
 · have := room_set h.len (fun i _ => h.small i) (by omega : m < 4) (lor_small he hns) (sub_lor_l he hns) e
   rcases hr with ⟨rfl, _⟩ | hr
   · exact .inr this
   · exact .inr (by omega)

end Go.Proofs.Ytnjbihfceckpfaa
