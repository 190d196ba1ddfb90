/-
 Put together out of: EntP, MapPl.
-/
import Derived.Test.YtdkdhjhhbkcciaaGreatG11EntM
import Derived.Test.YtdkdhjhhbkcciaaGreatG00Put
import Derived.Maps.RangeWalk
import Derived.Maps.OwnOps
import Derived.DeepKeys4
import Derived.WideKeyEntry
namespace Go.Proofs.YtdkdhjhhbkcciaaGreat
open Go.RowKit
set_option linter.unusedVariables false
set_option maxHeartbeats 1000000
def noneF : Int → Int → Option Int := fun _ _ => none
def fK (I : Nat → Nat → List Int) (i : Nat) (news : Int) (f : Int → Int → Option Int) (k : Nat) : Int → Int → Option Int :=
 fun a b => if a = (i : Int) ∧ 0 ≤ b ∧ b < (k : Int) then some (lor ((f a b).getD 0) (img (I i b.toNat) news)) else f a b
def gK (I : Nat → Nat → List Int) (ss : List Stm) (i : Nat) (news : Int) (g : Int → Int → Option Int) (k : Nat) : Int → Int → Option Int :=
 fun a b => if a = (i : Int) ∧ 0 ≤ b ∧ b < (k : Int) ∧ (ss.getD b.toNat ⟨0, 0, 0⟩).k = 8 ∧ ¬ img (I i b.toNat) news = 0 then some (img (I i b.toNat) news) else g a b
structure Fnd (c : Int) (ps : List (List Stm)) (I : Nat → Nat → List Int) (m : Nat) (H : Nat → Int) (E : List Int) (f g : Int → Int → Option Int) : Prop where
 len : E.length = 4
 small : ∀ i, Small (E.getD i 0)
 low : LowE c ps I E
 ahead : ∀ i (hi : i < ps.length) k, k < ps[i].length → (f i k).getD 0 = img (I i k) (E.getD i 0)
 out : ∀ i k : Int, f i k ≠ none → ∃ (a b : Nat) (ha : a < ps.length), b < ps[a].length ∧ i = a ∧ k = b
 wait : ∀ i (hi : i < ps.length) k (hk : k < ps[i].length), ps[i][k].k = 8 → ∀ t, bit (goesIn c I E i k) t = true →
  bit (E.getD ps[i][k].y.toNat 0) t = true ∨ bit (img (enterAns c) ((g i k).getD 0)) t = true ∨ (m ≤ ps[i][k].y.toNat ∧ bit (H ps[i][k].y.toNat) t = true)
 gin : ∀ (i k : Int) x, g i k = some x → ∃ (a b : Nat) (ha : a < ps.length) (hb : b < ps[a].length), i = a ∧ k = b ∧ ps[a][b].k = 8 ∧ Small x ∧ ¬ x = 0 ∧ Sub x (img (I a b) (E.getD a 0))
 fresh : ∀ a : Nat, m ≤ a → ∀ k, g a k = none
 hlow : ∀ F, SmallN ps.length F → CloE c ps I F → ∀ i, m ≤ i → i < ps.length → Sub (H i) (F.getD i 0)
 hsmall : ∀ i, Small (H i)
 start : ∀ t, bit (startAns c) t = true → bit (E.getD 0 0) t = true ∨ (m = 0 ∧ bit (H 0) t = true)
theorem new_sub {s e : Int} (hs : Small s) (he : Small e) : Sub (andN s e) s := fun t h => by rw [bit_andN hs he] at h; simp at h; exact h.1
theorem old_new {s e : Int} (hs : Small s) (he : Small e) : Sub s (lor e (andN s e)) := fun t h => by
 rw [bit_lor he (andN_small hs he), bit_andN hs he, h]
 cases bit e t <;> rfl
theorem new_zero {s e : Int} (hs : Small s) (he : Small e) (h : lor e (andN s e) = e) : andN s e = 0 := by
 refine bit_eq (andN_small hs he) small0 (fun t _ => ⟨fun ht => ?_, fun ht => by rw [bit_zero] at ht; cases ht⟩)
 have h1 := sub_lor_r he (andN_small hs he) t ht
 rw [h] at h1
 rw [bit_andN hs he, h1] at ht
 simp at ht
theorem Fnd.zero {c : Int} (hc : c = 1 ∨ c = 2) {ps : List (List Stm)} {I : Nat → Nat → List Int} (hI : GoodI ps I) : Fnd c ps I 0 (fun i => if i = 0 then startAns c else 0) [0, 0, 0, 0] noneF noneF := by
 have hg : ∀ i, ([0, 0, 0, 0] : List Int).getD i 0 = 0 := fun i => by
  match i with
  | 0 => rfl
  | 1 => rfl
  | 2 => rfl
  | 3 => rfl
  | n + 4 => rw [getD_out (by simp)]
 refine ⟨rfl, fun i => by rw [hg]; exact small0, fun F _ _ i _ => by rw [hg]; exact sub_zero _, fun i hi k hk => ?_, fun i k h => absurd rfl h, fun i hi k hk h8 t ht => ?_, fun i k x h => (by cases h), fun a _ k => rfl, fun F hF hcl i _ hi => ?_, fun i => ?_, fun t ht => .inr ⟨rfl, by simpa using ht⟩⟩
 · rw [hg, img_zero (hI i hi k hk)]; rfl
 · unfold goesIn at ht
   rw [hg, img_zero (hI i hi k hk), img_zero (enter_smalls hc), bit_zero] at ht
   cases ht
 · split
   · rename_i e; subst e; exact hcl.1
   · exact sub_zero _
 · split
   · exact start_small hc
   · exact small0
theorem Fnd.step {c : Int} (hc : c = 1 ∨ c = 2) {ps : List (List Stm)} (hp : CanP ps) (h4 : ps.length ≤ 4) {I : Nat → Nat → List Int} (hI : GoodI ps I) {m : Nat} {H : Nat → Int} {E : List Int} {f g : Int → Int → Option Int} (h : Fnd c ps I m H E f g) (hm : m < ps.length) :
 Fnd c ps I (m + 1) H (E.set m (lor (E.getD m 0) (andN (H m) (E.getD m 0)))) (fK I m (andN (H m) (E.getD m 0)) f ps[m].length) (gK I ps[m] m (andN (H m) (E.getD m 0)) g ps[m].length) := by
 have hmE : m < E.length := by rw [h.len]; omega
 have hs := h.hsmall m
 have he := h.small m
 obtain ⟨nw, hnw⟩ : ∃ nw, andN (H m) (E.getD m 0) = nw := ⟨_, rfl⟩
 have hns : Small nw := by rw [← hnw]; exact andN_small hs he
 have hnH : Sub nw (H m) := by rw [← hnw]; exact new_sub hs he
 have hHE : Sub (H m) (lor (E.getD m 0) nw) := by rw [← hnw]; exact old_new hs he
 rw [hnw]
 have hg := fun i => getD_setI hmE (lor (E.getD m 0) nw) i
 have up : ∀ i, Sub (E.getD i 0) ((E.set m (lor (E.getD m 0) nw)).getD i 0) := fun i => by
  rw [hg]; split
  · rename_i e; subst e; exact sub_lor_l he hns
  · exact Sub.refl _
 have tail : ∀ y t, m ≤ y → bit (H y) t = true → bit ((E.set m (lor (E.getD m 0) nw)).getD y 0) t = true ∨ (m + 1 ≤ y ∧ bit (H y) t = true) := fun y t hy ht => by
  by_cases e : y = m
  · left; rw [hg, if_pos e]; subst e; exact hHE t ht
  · right; exact ⟨by omega, ht⟩
 refine ⟨by simp [h.len], fun i => ?_, fun F hF hcl i hi => ?_, fun i hi k hk => ?_, fun i k hne => ?_, fun i hi k hk h8 t ht => ?_, fun i k x hx => ?_, fun a ha k => ?_, fun F hF hcl i hmi hi => h.hlow F hF hcl i (by omega) hi, h.hsmall, fun t ht => ?_⟩
 · rw [hg]; split
   · exact lor_small he hns
   · exact h.small i
 · rw [hg]; split
   · rename_i e; subst e; exact lor_sub he hns (h.low F hF hcl i hi) (hnH.trans (h.hlow F hF hcl i (Nat.le_refl _) hi))
   · exact h.low F hF hcl i hi
 · rw [hg]
   unfold fK
   by_cases e : i = m
   · subst e
     rw [if_pos ⟨rfl, by omega, by omega⟩, if_pos rfl]
     simp only [Int.toNat_natCast, Option.getD_some]
     rw [h.ahead i hi k hk, img_lor (hI i hi k hk) he hns]
   · rw [if_neg (fun h => e (by omega)), if_neg e]
     exact h.ahead i hi k hk
 · unfold fK at hne
   by_cases e : i = (m : Int) ∧ 0 ≤ k ∧ k < (ps[m].length : Int)
   · exact ⟨m, k.toNat, hm, by omega, e.1, by omega⟩
   · rw [if_neg e] at hne; exact h.out i k hne
 · by_cases e : i = m
   · subst e
     unfold goesIn at ht
     rw [hg, if_pos rfl, img_lor (hI i hi k hk) he hns, img_lor (enter_smalls hc) (img_small (hI i hi k hk) _) (img_small (hI i hi k hk) _), bit_lor (img_small (enter_smalls hc) _) (img_small (enter_smalls hc) _), Bool.or_eq_true] at ht
     rcases ht with ht | ht
     · rcases h.wait i hi k hk h8 t ht with h1 | h1 | ⟨h1, h2⟩
       · exact .inl (up _ t h1)
       · rw [h.fresh i (Nat.le_refl _) k] at h1
         simp only [Option.getD_none] at h1
         rw [img_zero (enter_smalls hc), bit_zero] at h1
         cases h1
       · rcases tail _ t h1 h2 with h3 | h3
         · exact .inl h3
         · exact .inr (.inr h3)
     · right; left
       unfold gK
       have hz : ¬ img (I i k) nw = 0 := fun e0 => by
        rw [e0, img_zero (enter_smalls hc), bit_zero] at ht; cases ht
       have hkk : (ps[i].getD k ⟨0, 0, 0⟩).k = 8 := by simpa [List.getD, hk] using h8
       rw [if_pos ⟨rfl, by omega, by omega, by simpa using hkk, by simpa using hz⟩]
       simpa using ht
   · have e1 : goesIn c I (E.set m (lor (E.getD m 0) nw)) i k = goesIn c I E i k := by unfold goesIn; rw [hg, if_neg e]
     rw [e1] at ht
     have e2 : gK I ps[m] m nw g ps[m].length i k = g i k := by unfold gK; rw [if_neg (fun h => e (by omega))]
     rw [e2]
     rcases h.wait i hi k hk h8 t ht with h1 | h1 | ⟨h1, h2⟩
     · exact .inl (up _ t h1)
     · exact .inr (.inl h1)
     · rcases tail _ t h1 h2 with h3 | h3
       · exact .inl h3
       · exact .inr (.inr h3)
 · unfold gK at hx
   by_cases e : i = (m : Int) ∧ 0 ≤ k ∧ k < (ps[m].length : Int) ∧ (ps[m].getD k.toNat ⟨0, 0, 0⟩).k = 8 ∧ ¬ img (I m k.toNat) nw = 0
   · rw [if_pos e] at hx
     have hx := Option.some.inj hx
     have hkl : k.toNat < ps[m].length := by omega
     refine ⟨m, k.toNat, hm, hkl, e.1, by omega, by simpa [List.getD, hkl] using e.2.2.2.1, ?_, ?_, ?_⟩
     · rw [← hx]; exact img_small (hI m hm _ hkl) _
     · rw [← hx]; exact e.2.2.2.2
     · rw [← hx, hg, if_pos rfl]; exact img_mono (hI m hm _ hkl) (sub_lor_r he hns)
   · rw [if_neg e] at hx
     obtain ⟨a, b, ha, hb, h1, h2, h3, h4', h5, h6⟩ := h.gin i k x hx
     exact ⟨a, b, ha, hb, h1, h2, h3, h4', h5, h6.trans (img_mono (hI a ha b hb) (up a))⟩
 · unfold gK
   rw [if_neg (fun h => by omega)]
   exact h.fresh a (by omega) k
 · rcases h.start t ht with h1 | ⟨h1, h2⟩
   · exact .inl (up 0 t h1)
   · subst h1
     rcases tail 0 t (Nat.le_refl _) h2 with h3 | h3
     · exact .inl h3
     · omega
theorem Fnd.first {c : Int} {ps : List (List Stm)} {I : Nat → Nat → List Int} {H : Nat → Int} {E : List Int} {f g : Int → Int → Option Int} (h : Fnd c ps I 1 H E f g) (h1 : 1 ≤ ps.length) (h0 : ∀ i, 1 ≤ i → H i = 0) : Fnd c ps I ps.length H E f g := by
 refine ⟨h.len, h.small, h.low, h.ahead, h.out, fun i hi k hk h8 t ht => ?_, h.gin, fun a ha k => h.fresh a (by omega) k, fun F hF hcl i hmi hi => absurd hi (by omega), h.hsmall, fun t ht => ?_⟩
 · rcases h.wait i hi k hk h8 t ht with h2 | h2 | ⟨h2, h3⟩
   · exact .inl h2
   · exact .inr (.inl h2)
   · rw [h0 _ h2, bit_zero] at h3; cases h3
 · rcases h.start t ht with h2 | ⟨h2, _⟩
   · exact .inl h2
   · omega
theorem Fnd.gather {c : Int} (hc : c = 1 ∨ c = 2) {ps : List (List Stm)} (hp : CanP ps) (h1 : 1 ≤ ps.length) {I : Nat → Nat → List Int} {H H' : Nat → Int} {E : List Int} {f g : Int → Int → Option Int} (h : Fnd c ps I ps.length H E f g)
 (hsm : ∀ i, Small (H' i)) (hlow : ∀ F, SmallN ps.length F → CloE c ps I F → ∀ i, i < ps.length → Sub (H' i) (F.getD i 0))
 (hall : ∀ (a b : Nat) (ha : a < ps.length) (hb : b < ps[a].length) x, g a b = some x → Sub (img (enterAns c) x) (H' ps[a][b].y.toNat)) : Fnd c ps I 0 H' E f noneF := by
 refine ⟨h.len, h.small, h.low, h.ahead, h.out, fun i hi k hk h8 t ht => ?_, fun i k x hx => (by cases hx), fun a _ k => rfl, fun F hF hcl i _ hi => hlow F hF hcl i hi, hsm, fun t ht => ?_⟩
 · rcases h.wait i hi k hk h8 t ht with h2 | h2 | ⟨h2, h3⟩
   · exact .inl h2
   · right; right
     cases hgk : g i k with
     | none =>
      rw [hgk] at h2
      simp only [Option.getD_none] at h2
      rw [img_zero (enter_smalls hc), bit_zero] at h2; cases h2
     | some x =>
      rw [hgk] at h2
      exact ⟨Nat.zero_le _, hall i k hi hk x hgk t h2⟩
   · obtain ⟨y, hy, hyl⟩ := call_y hp hi hk h8
     omega
 · rcases h.start t ht with h2 | ⟨h2, _⟩
   · exact .inl h2
   · omega
theorem Fnd.done {c : Int} (hc : c = 1 ∨ c = 2) {ps : List (List Stm)} (hp : CanP ps) (h1 : 1 ≤ ps.length) {I : Nat → Nat → List Int} {H : Nat → Int} {E : List Int} {f g : Int → Int → Option Int} (h : Fnd c ps I ps.length H E f g) (hg : ∀ (i k : Nat), i < ps.length → k < 12 → g i k = none) (h12 : ∀ i (hi : i < ps.length), ps[i].length ≤ 12) : IsEnt c ps I E := by
 refine ⟨fun i _ => h.small i, ⟨fun t ht => ?_, fun i hi k hk h8 t ht => ?_⟩, h.low⟩
 · rcases h.start t ht with h2 | ⟨h2, _⟩
   · exact h2
   · omega
 · rcases h.wait i hi k hk h8 t ht with h2 | h2 | ⟨h2, h3⟩
   · exact h2
   · rw [hg i k hi (by have := h12 i hi; omega)] at h2
     simp only [Option.getD_none] at h2
     rw [img_zero (enter_smalls hc), bit_zero] at h2; cases h2
   · obtain ⟨y, hy, hyl⟩ := call_y hp hi hk h8
     omega
def Rnd (E0 E : List Int) (g : Int → Int → Option Int) : Prop := (E = E0 ∧ ∀ a b, g a b = none) ∨ room E < room E0
theorem set_same {E : List Int} {m : Nat} (hm : m < E.length) : E.set m (E.getD m 0) = E := by
 refine List.ext_getElem? fun j => ?_
 by_cases e : m = j
 · subst e; simp [hm, List.getD]
 · rw [List.getElem?_set_ne e]
theorem Rnd.step {c : Int} {ps : List (List Stm)} {I : Nat → Nat → List Int} (hI : GoodI ps I) (h4 : ps.length ≤ 4) {m : Nat} {H : Nat → Int} {E E0 : List Int} {f g : Int → Int → Option Int} (h : Fnd c ps I m H E f g) (hm : m < ps.length) (hr : Rnd E0 E g) :
 Rnd E0 (E.set m (lor (E.getD m 0) (andN (H m) (E.getD m 0)))) (gK I ps[m] m (andN (H m) (E.getD m 0)) g ps[m].length) := by
 have hs := h.hsmall m
 have he := h.small m
 have hns := andN_small hs he
 have hmE : m < E.length := by rw [h.len]; omega
 by_cases e : lor (E.getD m 0) (andN (H m) (E.getD m 0)) = E.getD m 0
 · have e0 := new_zero hs he e
   rw [e, set_same hmE]
   rcases hr with ⟨rfl, hg⟩ | hr
   · refine .inl ⟨rfl, fun a b => ?_⟩
     unfold gK
     split
     · rename_i h1
       refine absurd ?_ h1.2.2.2.2
       rw [e0]
       exact img_zero (hI m hm _ (by omega))
     · exact hg a b
   · exact .inr hr
 · have := room_set h.len (fun i _ => h.small i) (by omega : m < 4) (lor_small he hns) (sub_lor_l he hns) e
   rcases hr with ⟨rfl, _⟩ | hr
   · exact .inr this
   · exact .inr (by omega)
end Go.Proofs.YtdkdhjhhbkcciaaGreat
namespace Go.Proofs.YtdkdhjhhbkcciaaGreat
open Go.RowKit
open Go.ChangeMaps (setBlock heap_setBlock_same heap_setBlock_other)
open Go.WideElems (Fit rg)
set_option linter.unusedVariables false
set_option linter.unusedSimpArgs false
set_option maxHeartbeats 1000000
set_option maxRecDepth 20000
theorem placeLaid : laidOutB Tryz.prog = true := by kernel_rfl
theorem placeRow : (48 : TypeId) < Tryz.prog.types.size := of_decide_eq_true (by kernel_rfl)
theorem placeWide : (match Tryz.prog.underlying 48 with | some (.array _ _) | some (.struct _) => true | _ => false) = true := by kernel_rfl
theorem placeAt : Tryz.prog.keyTypeAt 3 48 = true := by kernel_rfl
theorem placeLaw : WideMaps.KeyLaw Tryz.prog 48 := deep_law_laid placeLaid (m := 3) (by omega) placeRow placeAt placeWide
theorem placeKeyed : Maps.Keyed Tryz.prog 48 := Maps.Keyed.of_law placeLaw
theorem placeKT : Tryz.prog.keyType 48 = true := by kernel_rfl
theorem placeCells : Tryz.prog.cellsOf 48 = 2 := by kernel_rfl
theorem intCells : Tryz.prog.cellsOf 2 = 1 := by kernel_rfl
theorem zeroInt (w : World) : (zeroValue 2).run Tryz.prog w = .ok (.int .i64 0) w := by kernel_rfl
def plV (i k : Int) : Value := .agg #[.int .i64 i, .int .i64 k]
def Wf (x : Int) : Prop := (Lit.int .i64 x).wf = true
def kl (i k : Int) : Lit := .string (keyBytes [.int .i64 i, .int .i64 k])
theorem lits_int (d : Nat) (x : Int) : Tryz.prog.keyLits (d + 1) 2 [.int .i64 x] = if (Lit.int .i64 x).wf = true then some [.int .i64 x] else none := by
 unfold Program.keyLits
 rw [Tryz.underlying2]
 simp
theorem lits_place (d : Nat) (x y : Value) : Tryz.prog.keyLits (d + 1) 48 [x, y] = ((Tryz.prog.keyLits d 2 [x]).bind fun a => (Tryz.prog.keyLits d 2 [y]).map fun b => a ++ b) := by
 rw [Program.keyLits.eq_def]
 simp only [Tryz.underlying48]
 simp [placeCells, intCells]
 cases Tryz.prog.keyLits d 2 [x] <;> cases Tryz.prog.keyLits d 2 [y] <;> simp
theorem sizeSucc : ∃ d, Tryz.prog.types.size = d + 1 := ⟨Tryz.prog.types.size - 1, by have h : 0 < Tryz.prog.types.size := of_decide_eq_true (by kernel_rfl); omega⟩
theorem key_of (i k : Int) (hi : Wf i) (hk : Wf k) : keyOf Tryz.prog 48 (plV i k) = some (kl i k) := by
 obtain ⟨d, hd⟩ := sizeSucc
 have h1 : Tryz.prog.keyLits (d + 1 + 1) 48 [.int .i64 i, .int .i64 k] = some [.int .i64 i, .int .i64 k] := by
  rw [lits_place, lits_int, lits_int, if_pos (show (Lit.int .i64 i).wf = true from hi), if_pos (show (Lit.int .i64 k).wf = true from hk)]; rfl
 simp [keyOf, Tryz.underlying48, placeKT, plV, Value.formed, placeCells, Value.cells, hd, h1, kl]
theorem lits_int_inv {d : Nat} {x : Value} {l : List Lit} (h : Tryz.prog.keyLits d 2 [x] = some l) : ∃ a, x = .int .i64 a ∧ Wf a ∧ l = [.int .i64 a] := by
 cases d with
 | zero => simp [Program.keyLits] at h
 | succ d =>
  unfold Program.keyLits at h
  rw [Tryz.underlying2] at h
  cases x <;> simp at h
  obtain ⟨⟨rfl, hw⟩, rfl⟩ := h
  exact ⟨_, rfl, hw, rfl⟩
theorem key_inv {v : Value} {l : Lit} (h : keyOf Tryz.prog 48 v = some l) : ∃ i k, Wf i ∧ Wf k ∧ v = plV i k ∧ l = kl i k := by
 cases v <;> simp [keyOf, Tryz.underlying48, placeKT, Value.formed, placeCells, Value.cells] at h
 rename_i cs
 obtain ⟨hs, ls, hls, rfl⟩ := h
 obtain ⟨L⟩ := cs
 match L, hs with
 | [x, y], _ =>
  rw [lits_place] at hls
  simp only [Option.bind_eq_some_iff, Option.map_eq_some_iff] at hls
  obtain ⟨l1, h1, l2, h2, hh⟩ := hls
  obtain ⟨a, rfl, wa, rfl⟩ := lits_int_inv h1
  obtain ⟨b, rfl, wb, rfl⟩ := lits_int_inv h2
  exact ⟨a, b, wa, wb, rfl, by rw [← hh]; rfl⟩
theorem kl_inj {i k i' k' : Int} (hi : Wf i) (hk : Wf k) (hi' : Wf i') (hk' : Wf k') (h : kl i k = kl i' k') : i = i' ∧ k = k' := by
 have h1 := key_of i k hi hk
 have h2 := key_of i' k' hi' hk'
 rw [h] at h1
 have := placeKeyed.inj h1 h2
 unfold plV at this
 simpa using this
theorem kl_key {i k : Int} (hi : Wf i) (hk : Wf k) : WideAt.IsKeyLit (kl i k) := placeKeyed.key (key_of i k hi hk)
def litI (x : Int) : DataW Unit := .lit (.int .i64 x)
def ReadsM (D : DataW Unit) (f : Int → Int → Option Int) : Prop := ∀ i k, Wf i → Wf k → ∀ z, D.atKey (kl i k) z = match f i k with | some x => litI x | none => z
def OwnM (w : World) (B n : Nat) (D : DataW Unit) : Prop := w.ownsMap Tryz.prog 48 (plainElem Tryz.prog 2) B n D
def MapAt (w : World) (B n : Nat) (f : Int → Int → Option Int) : Prop := ∃ D, OwnM w B n D ∧ ReadsM D f
def upd (f : Int → Int → Option Int) (i k x : Int) : Int → Int → Option Int := fun i' k' => if i' = i ∧ k' = k then some x else f i' k'
def emptyF : Int → Int → Option Int := fun _ _ => none
theorem MapAt.made (w : World) : MapAt (w.alloc (.map #[] 0)) w.heap.size 0 emptyF := ⟨.map [], World.ownsMap_made _ _ _ _, fun i k _ _ z => rfl⟩
theorem MapAt.lt {w : World} {B n : Nat} {f : Int → Int → Option Int} (h : MapAt w B n f) : B < w.heap.size := by
 obtain ⟨D, h, _⟩ := h
 exact World.ownsMap.lt h
theorem MapAt.same {w w' : World} {B n : Nat} {f : Int → Int → Option Int} (h : MapAt w B n f) (hb : w'.heap[B]? = w.heap[B]?) : MapAt w' B n f := by
 obtain ⟨D, ⟨es, clock, hh, F, hs, hD⟩, hR⟩ := h
 exact ⟨D, ⟨es, clock, hb.trans hh, F, hs, hD⟩, hR⟩
theorem MapAt.below {w w' : World} {B n : Nat} {f : Int → Int → Option Int} (h : MapAt w B n f) (hb : Below w.heap.size w w') : MapAt w' B n f := h.same (hb.block B h.lt)
theorem MapAt.mono {w : World} {B n n' : Nat} {f : Int → Int → Option Int} (h : MapAt w B n f) (hn : n ≤ n') : MapAt w B n' f := by
 obtain ⟨D, ho, hR⟩ := h
 exact ⟨D, World.ownsMap.mono ho hn, hR⟩
theorem MapAt.congr {w : World} {B n : Nat} {f g : Int → Int → Option Int} (h : MapAt w B n f) (hfg : ∀ i k, Wf i → Wf k → g i k = f i k) : MapAt w B n g := by
 obtain ⟨D, ho, hR⟩ := h
 exact ⟨D, ho, fun i k hi hk z => by rw [hfg i k hi hk]; exact hR i k hi hk z⟩
theorem MapAt.lookup {w : World} {B n : Nat} {f : Int → Int → Option Int} (h : MapAt w B n f) {i k : Int} (hi : Wf i) (hk : Wf k) : (Instr.lookup 61 (.map (some B)) (plV i k) false).run Tryz.prog w = .ok (.int .i64 ((f i k).getD 0)) w := by
 obtain ⟨D, ho, hR⟩ := h
 obtain ⟨c, hrun, hat, hwc⟩ := World.ownsMap.lookup_int ho placeKeyed Tryz.underlying61 Tryz.underlying2 (zeroInt w) (key_of i k hi hk)
 have e := hR i k hi hk (litI 0)
 have : c = (f i k).getD 0 := by
  unfold litI at e
  rw [hat] at e
  cases hf : f i k with
  | none => rw [hf] at e; simpa using e
  | some x => rw [hf] at e; simpa using e
 rw [hrun, this]
theorem ReadsM.upd {D : DataW Unit} {f : Int → Int → Option Int} (h : ReadsM D f) (hD : Maps.IsMap D) {i k : Int} (hi : Wf i) (hk : Wf k) (x : Int) : ReadsM (D.put (kl i k) (litI x)) (upd f i k x) := fun i' k' hi' hk' z => by
 unfold Proofs.YtdkdhjhhbkcciaaGreat.upd
 by_cases e : i' = i ∧ k' = k
 · rw [if_pos e]
   obtain ⟨rfl, rfl⟩ := e
   exact Maps.atKey_put_same hD (kl_key hi' hk') _ _
 · rw [if_neg e, Maps.atKey_put_other (fun e' => e (kl_inj hi' hk' hi hk e'))]
   exact h i' k' hi' hk' z
theorem MapAt.update {w : World} {B n : Nat} {f : Int → Int → Option Int} (h : MapAt w B n f) (hn : n < 100000) {i k x : Int} (hi : Wf i) (hk : Wf k) (hx : Wf x) :
 ∃ w', (Instr.mapUpdate 61 (.map (some B)) (plV i k) (.int .i64 x)).run Tryz.prog w = .ok () w' ∧ MapAt w' B (n + 1) (upd f i k x) ∧ w.grownBy w' (some B) := by
 obtain ⟨D, ho, hR⟩ := h
 obtain ⟨w', hrun, ho', hg⟩ := World.ownsMap.update ho placeKeyed Tryz.underlying61 (by unfold maxLen; omega) (key_of i k hi hk) (plainElem_int Tryz.underlying2 hx)
 exact ⟨w', hrun, ⟨_, ho', hR.upd (World.ownsMap.isMap ho) hi hk x⟩, hg⟩
theorem readsM_uniq {D : DataW Unit} {f g : Int → Int → Option Int} (h : ReadsM D f) (k : ReadsM D g) {i j : Int} (hi : Wf i) (hj : Wf j) : f i j = g i j := by
 have h1 := h i j hi hj
 have h2 := k i j hi hj
 cases hf : f i j with
 | none =>
  cases hg : g i j with
  | none => rfl
  | some y =>
   have a := h1 (litI (y + 1)); have b := h2 (litI (y + 1))
   rw [hf] at a; rw [hg] at b
   rw [a] at b
   simp [litI] at b
   omega
 | some x =>
  cases hg : g i j with
  | none =>
   have a := h1 (litI (x + 1)); have b := h2 (litI (x + 1))
   rw [hf] at a; rw [hg] at b
   rw [a] at b
   simp [litI] at b
   omega
  | some y =>
   have a := h1 (litI 0); have b := h2 (litI 0)
   rw [hf] at a; rw [hg] at b
   rw [a] at b
   simp [litI] at b
   rw [b]
theorem entry_some {es : Array MapEntry} {clock : Nat} (F : Fit Tryz.prog 48 (plainElem (H := Unit) Tryz.prog 2) es clock) {f : Int → Int → Option Int} (hR : ReadsM (.map ((es.toList.map (rg Tryz.prog 48 (plainElem (H := Unit) Tryz.prog 2))).foldr DataW.insert [])) f)
 {e : MapEntry} (he : e ∈ es.toList) {i k : Int} (hi : Wf i) (hk : Wf k) (hkey : keyOf Tryz.prog 48 e.key = some (kl i k)) : ∃ x, f i k = some x := by
 obtain ⟨y, hy⟩ := F.reads e he
 have hky := WideElems.rd_key hy
 have hrg : (rg Tryz.prog 48 (plainElem (H := Unit) Tryz.prog 2) e).1 = kl i k := by
  rw [WideElems.rg_of hy]
  rw [hky] at hkey
  exact Option.some.inj hkey
 have hat := (WideShapes.atKey_sorted (es.toList.map (rg Tryz.prog 48 (plainElem (H := Unit) Tryz.prog 2))) (Maps.fit_rising placeKeyed F) (kl i k) (kl_key hi hk)).2 _ (List.mem_map.2 ⟨e, he, rfl⟩) hrg
 cases hf : f i k with
 | some x => exact ⟨x, rfl⟩
 | none =>
  have a := hR i k hi hk (litI 0)
  have b := hR i k hi hk (litI 1)
  rw [hf] at a b
  rw [hat] at a b
  rw [a] at b
  simp [litI] at b
theorem MapAt.entry {w : World} {B n : Nat} {f : Int → Int → Option Int} (h : MapAt w B n f) (hn : n < 100000) {i k : Int} (hi : Wf i) (hk : Wf k) :
 ∃ (v0 : Value) (st : Nat) (w' : World), (Instr.mapEntry 61 (.map (some B)) (plV i k)).run Tryz.prog w = .ok (.tuple #[v0, goInt st]) w' ∧ w.grownBy w' (some B) ∧ MapAt w' B (n + 1) (upd f i k ((f i k).getD 0)) ∧
  ∀ (w2 : World) (x : Int), Wf x → w2.heap[B]? = w'.heap[B]? → ∃ w3, (Instr.entryStore 61 (.map (some B)) (goInt st) (.int .i64 x)).run Tryz.prog w2 = .ok () w3 ∧ MapAt w3 B (n + 1) (upd f i k x) ∧ w2.grownBy w3 (some B) := by
 have h0 := h
 obtain ⟨D, ⟨es, clock, hb, F, hs, hD⟩, hR⟩ := h
 obtain ⟨v0, st, es1, clock1, hrun, hv0, hst⟩ := WideElems.entry_then_store placeLaw Tryz.underlying61 zeroInt hb F (key_of i k hi hk)
 have hB : w.grownBy (setBlock w B (.map es1 clock1)) (some B) := ⟨rfl, rfl, rfl, by simp [setBlock], fun j _ hj => heap_setBlock_other hb _ (fun e => hj (by rw [e]))⟩
 have key : ∀ (w2 : World) (x : Int), Wf x → w2.heap[B]? = (setBlock w B (.map es1 clock1)).heap[B]? → ∃ w3, (Instr.entryStore 61 (.map (some B)) (goInt st) (.int .i64 x)).run Tryz.prog w2 = .ok () w3 ∧ MapAt w3 B (n + 1) (upd f i k x) ∧ w2.grownBy w3 (some B) := by
  intro w2 x hx h2
  rw [heap_setBlock_same hb] at h2
  obtain ⟨es', clock', r1, r2⟩ := hst w2 (.int .i64 x) h2
  obtain ⟨w', u1, u2, u3⟩ := h0.update hn hi hk hx
  rw [r2] at u1
  simp at u1
  subst u1
  refine ⟨_, r1, u2.same ?_, ⟨rfl, rfl, rfl, by simp [setBlock], fun j _ hj => heap_setBlock_other h2 _ (fun e => hj (by rw [e]))⟩⟩
  rw [heap_setBlock_same hb, heap_setBlock_same h2]
 refine ⟨v0, st, _, hrun, hB, ?_, key⟩
 rcases placeLaw.find w (key_of i k hi hk) es.toList F.keys with ⟨h1, h2⟩ | ⟨j, e0, h1, h2, h3⟩
 · have hl := h0.lookup hi hk
   have hl2 : (Instr.lookup 61 (.map (some B)) (plV i k) false).run Tryz.prog w = .ok (.int .i64 0) w := by
    simp [Instr.lookup, run_underlying Tryz.underlying61, MapKept.run_getObj_map hb, placeLaw.check w _ (key_of i k hi hk), h1, zeroInt, Result.andThen]
   rw [hl] at hl2
   have e0 : (f i k).getD 0 = 0 := by simpa using hl2
   rw [e0]
   obtain ⟨w', u1, u2, u3⟩ := h0.update hn hi hk (x := 0) (show (Lit.int .i64 0).wf = true by decide)
   have r1 : (Instr.mapEntry 61 (.map (some B)) (plV i k)).run Tryz.prog w = .ok (.tuple #[.int .i64 0, goInt clock]) (setBlock w B (.map (es.push ⟨plV i k, .int .i64 0, clock⟩) (clock + 1))) := by
    simp [Instr.mapEntry, run_underlying Tryz.underlying61, MapKept.run_getObj_map hb, placeLaw.check w false (key_of i k hi hk), h1, zeroInt, MapKept.run_setObj_map _ hb, Result.andThen, setBlock]
   have r2 : (Instr.mapUpdate 61 (.map (some B)) (plV i k) (.int .i64 0)).run Tryz.prog w = .ok () (setBlock w B (.map (es.push ⟨plV i k, .int .i64 0, clock⟩) (clock + 1))) := by
    simp [Instr.mapUpdate, run_underlying Tryz.underlying61, MapKept.run_getObj_map hb, placeLaw.check w false (key_of i k hi hk), h1, MapKept.run_setObj_map _ hb, Result.andThen, setBlock]
   rw [hrun] at r1
   rw [u1] at r2
   simp only [Result.ok.injEq] at r1 r2
   rw [r1.2, ← r2.2]
   exact u2
 · have hj : es[j]? = some e0 := by simpa using h2
   have hsame : es.modify j (fun e => { e with key := plV i k }) = es := by
    apply Array.ext'
    rw [Array.toList_modify, ChangeMaps.modify_eq_set _ _ _ _ h2]
    have : ({ e0 with key := plV i k } : MapEntry) = e0 := by rw [← h3]
    rw [this]
    exact WideElems.set_self _ _ _ h2
   have r1 : (Instr.mapEntry 61 (.map (some B)) (plV i k)).run Tryz.prog w = .ok (.tuple #[e0.val, goInt e0.born]) (setBlock w B (.map es clock)) := by
    simp [Instr.mapEntry, run_underlying Tryz.underlying61, MapKept.run_getObj_map hb, placeLaw.check w false (key_of i k hi hk), h1, hj, h3, placeLaw.stays w (key_of i k hi hk), hsame, MapKept.run_setObj_map _ hb, Result.andThen, setBlock]
   rw [hrun] at r1
   simp only [Result.ok.injEq] at r1
   rw [r1.2]
   subst hD
   obtain ⟨x, hx⟩ := entry_some F hR (List.mem_of_getElem? h2) hi hk (by rw [h3]; exact key_of i k hi hk)
   refine ((h0.mono (Nat.le_succ n)).same (by rw [heap_setBlock_same hb, hb])).congr (fun i' k' _ _ => ?_)
   unfold upd
   split
   · rename_i e; obtain ⟨rfl, rfl⟩ := e; rw [hx]; rfl
   · rfl
theorem MapAt.clear {w : World} {B n : Nat} {f : Int → Int → Option Int} (h : MapAt w B n f) (ty : TypeId) :
 ∃ w', (Builtin.clear_ #[61] ty #[.map (some B)]).run Tryz.prog w = .ok (.tuple #[]) w' ∧ MapAt w' B 0 emptyF ∧ w.grownBy w' (some B) := by
 obtain ⟨D, ⟨es, clock, hb, F, hs, hD⟩, hR⟩ := h
 refine ⟨setBlock w B (.map #[] clock), ?_, ⟨.map [], ⟨#[], clock, heap_setBlock_same hb _, ⟨by simp, MapKept.stamped_empty clock, by simp⟩, Nat.le_refl _, rfl⟩, fun i k _ _ z => rfl⟩, ⟨rfl, rfl, rfl, by simp [setBlock], fun j _ hj => heap_setBlock_other hb _ (fun e => hj (by rw [e]))⟩⟩
 simp [Builtin.clear_, run_underlying Tryz.underlying61, MapKept.run_getObj_map hb, MapKept.run_setObj_map _ hb, Result.andThen, setBlock]
theorem MapAt.len {w : World} {B n : Nat} {f : Int → Int → Option Int} (h : MapAt w B n f) : ∃ m : Nat, (∀ ty, (Builtin.len_ #[61] ty #[.map (some B)]).run Tryz.prog w = .ok (.int .i64 m) w) ∧ m ≤ n ∧ (m = 0 → ∀ i k, Wf i → Wf k → f i k = none) ∧ (m ≠ 0 → ∃ i k, Wf i ∧ Wf k ∧ (f i k).isSome = true) := by
 obtain ⟨D, ho, hR⟩ := h
 refine ⟨Maps.size D, fun ty => World.ownsMap.len ho Tryz.underlying61 ty, World.ownsMap.size_le ho, fun h0 i k hi hk => ?_, fun h0 => ?_⟩
 · obtain ⟨es, rfl⟩ := World.ownsMap.isMap ho
   have : es = [] := List.eq_nil_of_length_eq_zero h0
   subst this
   exact readsM_uniq hR (g := emptyF) (fun i k _ _ z => rfl) hi hk
 · obtain ⟨es, clock, hb, F, hs, rfl⟩ := ho
   have hl : 0 < es.toList.length := by
    have e := Maps.size_eq ((es.toList.map (rg Tryz.prog 48 (plainElem (H := Unit) Tryz.prog 2))).foldr DataW.insert [])
    rw [e, length_sorted] at h0
    simp at h0
    have : es.size ≠ 0 := fun e => h0 (by simpa using e)
    simp; omega
   have hm := List.getElem_mem hl
   obtain ⟨y, hy⟩ := F.reads _ hm
   have hky := WideElems.rd_key hy
   obtain ⟨i, k, hi, hk, _, e⟩ := key_inv hky
   rw [e] at hky
   obtain ⟨x, hx⟩ := entry_some F hR hm hi hk hky
   exact ⟨i, k, hi, hk, by rw [hx]; rfl⟩
def RanM (w : World) (B r n : Nat) (f : Int → Int → Option Int) (lf : Int → Int → Bool) (cnt : Nat) : Prop :=
 ∃ D left, w.ranges Tryz.prog 48 (plainElem (H := Unit) Tryz.prog 2) B r n D left cnt ∧ ReadsM D f ∧ ∀ i k, Wf i → Wf k → left (kl i k) = lf i k
theorem has_some {D : DataW Unit} {f : Int → Int → Option Int} (hR : ReadsM D f) {i k : Int} (hi : Wf i) (hk : Wf k) : Maps.has D (kl i k) = (f i k).isSome := by
 cases hf : f i k with
 | none => exact Maps.has_false_of_atKey (fun z => by have := hR i k hi hk z; rw [hf] at this; exact this)
 | some x => exact Maps.has_true_of_atKey (y := litI x) (fun z => by have := hR i k hi hk z; rw [hf] at this; exact this)
theorem MapAt.range {w : World} {B n : Nat} {f : Int → Int → Option Int} (h : MapAt w B n f) : ∃ w' cnt, (Instr.range 61 (.map (some B))).run Tryz.prog w = .ok (.pointer (some ⟨w.heap.size, 0, none⟩)) w' ∧ RanM w' B w.heap.size n f (fun i k => (f i k).isSome) cnt ∧ w.grownBy w' none ∧ w'.heap.size = w.heap.size + 1 := by
 obtain ⟨D, ho, hR⟩ := h
 obtain ⟨w', hrun, r1, r2, r3⟩ := World.ownsMap.range ho placeKeyed Tryz.underlying61
 exact ⟨w', _, hrun, ⟨D, _, r1, hR, fun i k hi hk => has_some hR hi hk⟩, r2, r3⟩
theorem RanM.map {w : World} {B r n : Nat} {f : Int → Int → Option Int} {lf : Int → Int → Bool} {cnt : Nat} (h : RanM w B r n f lf cnt) : MapAt w B n f := by
 obtain ⟨D, left, hr, hR, _⟩ := h
 exact ⟨D, World.ranges.owns hr, hR⟩
theorem RanM.left_eq {w : World} {B r n : Nat} {f : Int → Int → Option Int} {lf : Int → Int → Bool} {cnt : Nat} (h : RanM w B r n f lf cnt) : w.rangeLeft B r = cnt := by
 obtain ⟨D, left, hr, hR, _⟩ := h
 exact hr.left_eq
theorem RanM.lt {w : World} {B r n : Nat} {f : Int → Int → Option Int} {lf : Int → Int → Bool} {cnt : Nat} (h : RanM w B r n f lf cnt) : r < w.heap.size := by
 obtain ⟨D, left, hr, hR, _⟩ := h
 exact hr.lt
theorem RanM.kept {w w' : World} {B r n : Nat} {f : Int → Int → Option Int} {lf : Int → Int → Bool} {cnt : Nat} {row : Option Nat} (h : RanM w B r n f lf cnt) (hg : w.grownBy w' row) (hB : some B ≠ row) (hr' : some r ≠ row) : RanM w' B r n f lf cnt := by
 obtain ⟨D, left, hr, hR, hl⟩ := h
 exact ⟨D, left, hr.kept hg hB hr', hR, hl⟩
theorem RanM.below {w w' : World} {B r n : Nat} {f : Int → Int → Option Int} {lf : Int → Int → Bool} {cnt : Nat} (h : RanM w B r n f lf cnt) (hb : Below w.heap.size w w') : RanM w' B r n f lf cnt :=
 h.kept (row := none) ⟨hb.os, hb.tape, hb.output, hb.size, fun k hk _ => hb.block k hk⟩ (by simp) (by simp)
theorem RanM.next {w : World} {B r n : Nat} {f : Int → Int → Option Int} {lf : Int → Int → Bool} {cnt : Nat} (h : RanM w B r n f lf cnt) (ty : TypeId) :
 ((∀ i k, Wf i → Wf k → lf i k = false) ∧ (Instr.next (.pointer (some ⟨r, 0, none⟩)) false ty).run Tryz.prog w = .ok (.tuple #[.bool false]) w) ∨
 ∃ i k x w' cnt', Wf i ∧ Wf k ∧ Wf x ∧ lf i k = true ∧ f i k = some x ∧ (Instr.next (.pointer (some ⟨r, 0, none⟩)) false ty).run Tryz.prog w = .ok (.tuple #[.bool true, plV i k, .int .i64 x]) w' ∧
  RanM w' B r n f (fun i' k' => lf i' k' && !decide (i' = i ∧ k' = k)) cnt' ∧ cnt' < cnt ∧ w.grownBy w' (some r) ∧ w'.heap.size = w.heap.size ∧ (Instr.entry (.pointer (some ⟨r, 0, none⟩))).run Tryz.prog w' = .ok (.tuple #[plV i k, .int .i64 x]) w' := by
 obtain ⟨D, left, hr, hR, hl⟩ := h
 rcases hr.next placeKeyed ty with ⟨h0, h1, hrun⟩ | ⟨key, v, l, y, w', cnt', hkey, hlk, hv, hat, hrun, hrg, hlt, hgr, hsz, hen⟩
 · exact .inl ⟨fun i k hi hk => by rw [← hl i k hi hk]; exact h1 _, hrun⟩
 · obtain ⟨i, k, hi, hk, rfl, rfl⟩ := key_inv hkey
   obtain ⟨x, rfl, rfl, hx⟩ := plainElem_int_inv Tryz.underlying2 hv
   refine .inr ⟨i, k, x, w', cnt', hi, hk, hx, by rw [← hl i k hi hk]; exact hlk, ?_, hrun, ⟨D, _, hrg, hR, fun i' k' hi' hk' => ?_⟩, hlt, hgr, hsz, hen⟩
   · have a := hR i k hi hk (litI (x + 1))
     have b := hat (litI (x + 1))
     rw [a] at b
     cases hf : f i k with
     | none => rw [hf] at b; simp [litI] at b; omega
     | some z => rw [hf] at b; simp [litI] at b; rw [b]
   · show (left (kl i' k') && !(kl i' k').sameKey (kl i k)) = _
     rw [hl i' k' hi' hk']
     by_cases e : i' = i ∧ k' = k
     · obtain ⟨rfl, rfl⟩ := e
       rw [WideAt.sameKey_self (kl_key hi hk)]
       simp
     · rw [Maps.sameKey_ne (fun e' => e (kl_inj hi' hk' hi hk e'))]
       simp [e]
end Go.Proofs.YtdkdhjhhbkcciaaGreat
