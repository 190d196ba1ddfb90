/-
 Chapter 10, mathematics: relations within one another, the least relations of a procedure's statements, tables (no dump is spoken of).
-/
import Derived.Test.YtnjbihfceckpfaaG11Proc
import Derived.Test.YtnjbihfceckpfaaG13Nexts
namespace Go.Proofs.Ytnjbihfceckpfaa
open Go.RowKit
set_option linter.unusedVariables false
set_option maxHeartbeats 1000000

/-- One set, one relation, the first n relations within others. -/
def Sub (x y : Int) : Prop := ∀ t, bit x t = true → bit y t = true
def SubR (xs ys : List Int) : Prop := ∀ j, Sub (xs.getD j 0) (ys.getD j 0)
def SubN (n : Nat) (T U : List (List Int)) : Prop := ∀ i, i < n → SubR (T.getD i []) (U.getD i [])
/-- The first n are relations. -/
def GoodN (n : Nat) (T : List (List Int)) : Prop := ∀ i, i < n → Smalls (T.getD i [])

theorem SubR.refl (xs : List Int) : SubR xs xs := fun _ _ h => h
theorem SubR.trans {xs ys zs : List Int} (h : SubR xs ys) (k : SubR ys zs) : SubR xs zs := fun j t ht => k j t (h j t ht)
theorem SubN.refl (n : Nat) (T : List (List Int)) : SubN n T T := fun _ _ => SubR.refl _
theorem SubN.trans {n : Nat} {T U V : List (List Int)} (h : SubN n T U) (k : SubN n U V) : SubN n T V := fun i hi => (h i hi).trans (k i hi)

theorem sub_eq {x y : Int} (hx : Small x) (hy : Small y) (h : Sub x y) (k : Sub y x) : x = y := bit_eq hx hy (fun t _ => ⟨h t, k t⟩)
theorem subR_eq {xs ys : List Int} (hx : Smalls xs) (hy : Smalls ys) (h : SubR xs ys) (k : SubR ys xs) : xs = ys :=
 list7 hx.1 hy.1 (fun j _ => sub_eq (hx.getD j) (hy.getD j) (h j) (k j))

theorem getD_out {xs : List Int} {j : Nat} (h : xs.length ≤ j) : xs.getD j 0 = 0 := by simp [List.getD, List.getElem?_eq_none h]

theorem bit_joi {xs ys : List Int} (hx : Smalls xs) (hy : Smalls ys) (j t : Nat) : bit ((joi xs ys).getD j 0) t = (bit (xs.getD j 0) t || bit (ys.getD j 0) t) := by
 by_cases hj : j < 7
 · rw [joi_get hx hy hj, bit_lor (hx.getD j) (hy.getD j)]
 · rw [getD_out (by rw [(joi_smalls hx hy).1]; omega), getD_out (by rw [hx.1]; omega), getD_out (by rw [hy.1]; omega), bit_zero]; rfl

theorem bit_comp {xs ys : List Int} (hx : Smalls xs) (hy : Smalls ys) (j t : Nat) : bit ((comp xs ys).getD j 0) t = true ↔ ∃ i, i < 7 ∧ bit (xs.getD j 0) i = true ∧ bit (ys.getD i 0) t = true := by
 by_cases hj : j < 7
 · rw [comp_get hx hj, bit_img hy]
 · rw [getD_out (by rw [(comp_smalls hx hy).1]; omega), getD_out (by rw [hx.1]; omega)]
   simp [bit_zero]

theorem joi_l {xs ys : List Int} (hx : Smalls xs) (hy : Smalls ys) : SubR xs (joi xs ys) := fun j t h => by rw [bit_joi hx hy, h]; rfl
theorem joi_r {xs ys : List Int} (hx : Smalls xs) (hy : Smalls ys) : SubR ys (joi xs ys) := fun j t h => by rw [bit_joi hx hy, h, Bool.or_true]
theorem joi_least {xs ys zs : List Int} (hx : Smalls xs) (hy : Smalls ys) (h : SubR xs zs) (k : SubR ys zs) : SubR (joi xs ys) zs := fun j t ht => by
 rw [bit_joi hx hy, Bool.or_eq_true] at ht
 rcases ht with ht | ht
 · exact h j t ht
 · exact k j t ht
theorem joi_mono {xs ys xs' ys' : List Int} (hx : Smalls xs) (hy : Smalls ys) (hx' : Smalls xs') (hy' : Smalls ys') (h : SubR xs xs') (k : SubR ys ys') : SubR (joi xs ys) (joi xs' ys') :=
 joi_least hx hy (h.trans (joi_l hx' hy')) (k.trans (joi_r hx' hy'))
theorem comp_mono {xs ys xs' ys' : List Int} (hx : Smalls xs) (hy : Smalls ys) (hx' : Smalls xs') (hy' : Smalls ys') (h : SubR xs xs') (k : SubR ys ys') : SubR (comp xs ys) (comp xs' ys') := fun j t ht => by
 obtain ⟨i, hi, h1, h2⟩ := (bit_comp hx hy j t).1 ht
 exact (bit_comp hx' hy' j t).2 ⟨i, hi, h j i h1, k i t h2⟩
theorem sub_of_joi {xs ys : List Int} (hx : Smalls xs) (hy : Smalls ys) (h : joi xs ys = xs) : SubR ys xs := by
 have := joi_r hx hy
 rwa [h] at this

def zero7 : List Int := List.replicate 7 0
theorem zero7_smalls : Smalls zero7 := relOk_iff.1 (by decide)
theorem zero7_sub (xs : List Int) : SubR zero7 xs := fun j t h => by
 have : zero7.getD j 0 = 0 := by
  unfold zero7; rw [List.getD_eq_getElem?_getD, List.getElem?_replicate]; split <;> rfl
 rw [this, bit_zero] at h; cases h

theorem keep_smalls : Smalls keepL := relOk_iff.1 (by decide)
theorem leave_smalls : Smalls leaveL := relOk_iff.1 (by decide)
theorem enter_smalls {c : Int} (hc : c = 1 ∨ c = 2) : Smalls (enterAns c) := by
 rcases hc with rfl | rfl <;> exact relOk_iff.1 (by decide)

/-- What a statement does, by the tables T of what is called. -/
def effL (c : Int) (T : List (List Int)) (s : Stm) : List Int :=
 if s.k = 8 then joi keepL (comp (comp (enterAns c) (T.getD s.y.toNat [])) leaveL) else flowL c s.k s.x s.y

/-- The statement may stand where n can be called. -/
def CanS (n : Nat) (s : Stm) : Prop := stmtOk s.k s.x s.y = true ∧ (s.k = 8 → s.y < n)

theorem CanS.y {n : Nat} {s : Stm} (h : CanS n s) (h8 : s.k = 8) : ∃ y : Nat, s.y = y ∧ y < n := by
 have h1 := h.1
 rw [h8] at h1
 have := stmtOk_call h1
 have h2 := h.2 h8
 exact ⟨s.y.toNat, by omega, by omega⟩

theorem through_smalls {c : Int} (hc : c = 1 ∨ c = 2) {r : List Int} (hr : Smalls r) : Smalls (comp (comp (enterAns c) r) leaveL) := comp_smalls (comp_smalls (enter_smalls hc) hr) leave_smalls

theorem effL_smalls {c : Int} (hc : c = 1 ∨ c = 2) {n : Nat} {T : List (List Int)} (hT : GoodN n T) {s : Stm} (h : CanS n s) : Smalls (effL c T s) := by
 unfold effL
 split
 · rename_i h8
   obtain ⟨y, hy, hn⟩ := h.y h8
   have : s.y.toNat = y := by omega
   rw [this]
   exact joi_smalls keep_smalls (through_smalls hc (hT y hn))
 · exact flowL_smalls h.1

theorem effL_mono {c : Int} (hc : c = 1 ∨ c = 2) {n : Nat} {T U : List (List Int)} (hT : GoodN n T) (hU : GoodN n U) (hs : SubN n T U) {s : Stm} (h : CanS n s) : SubR (effL c T s) (effL c U s) := by
 unfold effL
 split
 · rename_i h8
   obtain ⟨y, hy, hn⟩ := h.y h8
   have : s.y.toNat = y := by omega
   rw [this]
   have e := enter_smalls hc
   exact joi_mono keep_smalls (through_smalls hc (hT y hn)) keep_smalls (through_smalls hc (hU y hn)) (SubR.refl _)
    (comp_mono (comp_smalls e (hT y hn)) leave_smalls (comp_smalls e (hU y hn)) leave_smalls (comp_mono e (hT y hn) e (hU y hn) (SubR.refl _) (hs y hn)) (SubR.refl _))
 · exact SubR.refl _

theorem effL_eq {c : Int} {n : Nat} {T U : List (List Int)} (hs : ∀ i, i < n → T.getD i [] = U.getD i []) {s : Stm} (h : CanS n s) : effL c T s = effL c U s := by
 unfold effL
 split
 · rename_i h8
   obtain ⟨y, hy, hn⟩ := h.y h8
   have : s.y.toNat = y := by omega
   rw [this, hs y hn]
 · rfl

/-- The effect of statement i. -/
def effN (c : Int) (T : List (List Int)) (ss : List Stm) (i : Nat) : List Int := effL c T (ss.getD i ⟨0, 0, 0⟩)

theorem effN_eq {c : Int} {T : List (List Int)} {ss : List Stm} {i : Nat} (h : i < ss.length) : effN c T ss i = effL c T ss[i] := by
 unfold effN; simp [List.getD, h]

/-- R has what the chapter asks of the relations of ss, by the effects E. -/
def Clo (E : Nat → List Int) (ss : List Stm) (R : List (List Int)) : Prop :=
 SubR unitL (R.getD 0 []) ∧ ∀ (i : Nat) (hi : i < ss.length), ∀ x ∈ nextsS ss[i] i, SubR (comp (R.getD i []) (E i)) (R.getD x.toNat [])

/-- Whatever has it has all of R. -/
def Und (E : Nat → List Int) (ss : List Stm) (R : List (List Int)) : Prop := ∀ C, GoodN ss.length C → Clo E ss C → SubN ss.length R C

structure IsInner (E : Nat → List Int) (ss : List Stm) (R : List (List Int)) : Prop where
 good : GoodN ss.length R
 clo : Clo E ss R
 und : Und E ss R

theorem IsInner.uniq {E : Nat → List Int} {ss : List Stm} {R R' : List (List Int)} (h : IsInner E ss R) (k : IsInner E ss R') {i : Nat} (hi : i < ss.length) : R.getD i [] = R'.getD i [] :=
 subR_eq (h.good i hi) (k.good i hi) (h.und R' k.good k.clo i hi) (k.und R h.good h.clo i hi)

theorem next_lt {ss : List Stm} (hp : procOk ss = true) {i : Nat} (hi : i < ss.length) {x : Int} (hx : x ∈ nextsS ss[i] i) : x.toNat < ss.length := by
 obtain ⟨j, rfl, hj⟩ := nextsS_in hp hi x hx
 simpa using hj

theorem clo_less {E E' : Nat → List Int} {ss : List Stm} {R : List (List Int)} (hE : ∀ i, i < ss.length → Smalls (E i) ∧ Smalls (E' i) ∧ SubR (E i) (E' i)) (hR : GoodN ss.length R) (h : Clo E' ss R) : Clo E ss R :=
 ⟨h.1, fun i hi x hx => (comp_mono (hR i hi) (hE i hi).1 (hR i hi) (hE i hi).2.1 (SubR.refl _) (hE i hi).2.2).trans (h.2 i hi x hx)⟩

theorem inner_mono {E E' : Nat → List Int} {ss : List Stm} {R R' : List (List Int)} (hE : ∀ i, i < ss.length → Smalls (E i) ∧ Smalls (E' i) ∧ SubR (E i) (E' i)) (h : IsInner E ss R) (k : IsInner E' ss R') : SubN ss.length R R' :=
 h.und R' k.good (clo_less hE k.good k.clo)

theorem inner_eq {E E' : Nat → List Int} {ss : List Stm} {R : List (List Int)} (hE : ∀ i, i < ss.length → E i = E' i) (h : IsInner E ss R) : IsInner E' ss R := by
 have e : ∀ C, Clo E ss C ↔ Clo E' ss C := fun C => and_congr_right fun _ => forall_congr' fun i => forall_congr' fun hi => by rw [hE i hi]
 exact ⟨h.good, (e R).1 h.clo, fun C hC hc => h.und C hC ((e C).2 hc)⟩

/-- The Join of those of the first k statements that are StBacks. -/
def backsK (ss : List Stm) (R : List (List Int)) : Nat → List Int
 | 0 => zero7
 | k + 1 => if (ss.getD k ⟨0, 0, 0⟩).k = 9 then joi (backsK ss R k) (R.getD k []) else backsK ss R k
def backs (ss : List Stm) (R : List (List Int)) : List Int := backsK ss R ss.length

theorem backsK_smalls {ss : List Stm} {R : List (List Int)} (hR : GoodN ss.length R) : ∀ k, k ≤ ss.length → Smalls (backsK ss R k)
 | 0, _ => zero7_smalls
 | k + 1, h => by
  rw [backsK]
  split
  · exact joi_smalls (backsK_smalls hR k (by omega)) (hR k (by omega))
  · exact backsK_smalls hR k (by omega)

theorem backsK_mono {ss : List Stm} {R R' : List (List Int)} (hR : GoodN ss.length R) (hR' : GoodN ss.length R') (h : SubN ss.length R R') : ∀ k, k ≤ ss.length → SubR (backsK ss R k) (backsK ss R' k)
 | 0, _ => SubR.refl _
 | k + 1, hk => by
  rw [backsK, backsK]
  split
  · exact joi_mono (backsK_smalls hR k (by omega)) (hR k (by omega)) (backsK_smalls hR' k (by omega)) (hR' k (by omega)) (backsK_mono hR hR' h k (by omega)) (h k (by omega))
  · exact backsK_mono hR hR' h k (by omega)

/-- Right programs: what may stand in them. -/
def CanP (ps : List (List Stm)) : Prop := ∀ (i : Nat) (hi : i < ps.length), procOk ps[i] = true ∧ ∀ s ∈ ps[i], CanS ps.length s

/-- T' are the tables that come of T. -/
def IsRound (c : Int) (ps : List (List Stm)) (T T' : List (List Int)) : Prop :=
 ∀ (i : Nat) (hi : i < ps.length), ∃ R, IsInner (effN c T ps[i]) ps[i] R ∧ T'.getD i [] = backs ps[i] R

theorem effN_smalls {c : Int} (hc : c = 1 ∨ c = 2) {ps : List (List Stm)} (hp : CanP ps) {T : List (List Int)} (hT : GoodN ps.length T) {i : Nat} (hi : i < ps.length) {k : Nat} (hk : k < ps[i].length) : Smalls (effN c T ps[i] k) := by
 rw [effN_eq hk]
 exact effL_smalls hc hT ((hp i hi).2 _ (List.getElem_mem hk))

theorem IsRound.good {c : Int} {ps : List (List Stm)} {T T' : List (List Int)} (h : IsRound c ps T T') : GoodN ps.length T' := fun i hi => by
 obtain ⟨R, hR, e⟩ := h i hi
 rw [e]
 exact backsK_smalls hR.good _ (Nat.le_refl _)

theorem round_mono {c : Int} (hc : c = 1 ∨ c = 2) {ps : List (List Stm)} (hp : CanP ps) {T T' U U' : List (List Int)} (hT : GoodN ps.length T) (hU : GoodN ps.length U) (hs : SubN ps.length T U) (h : IsRound c ps T T') (k : IsRound c ps U U') : SubN ps.length T' U' := fun i hi => by
 obtain ⟨R, hR, e⟩ := h i hi
 obtain ⟨R', hR', e'⟩ := k i hi
 rw [e, e']
 refine backsK_mono hR.good hR'.good (inner_mono (fun j hj => ⟨effN_smalls hc hp hT hi hj, effN_smalls hc hp hU hi hj, ?_⟩) hR hR') _ (Nat.le_refl _)
 rw [effN_eq hj, effN_eq hj]
 exact effL_mono hc hT hU hs ((hp i hi).2 _ (List.getElem_mem hj))

/-- T lies below whatever holds, and the round makes no less of it. -/
structure Ris (c : Int) (ps : List (List Stm)) (T : List (List Int)) : Prop where
 good : GoodN ps.length T
 low : ∀ U U', GoodN ps.length U → IsRound c ps U U' → SubN ps.length U' U → SubN ps.length T U
 up : ∀ T', IsRound c ps T T' → SubN ps.length T T'

structure IsTables (c : Int) (ps : List (List Stm)) (T : List (List Int)) : Prop where
 good : GoodN ps.length T
 low : ∀ U U', GoodN ps.length U → IsRound c ps U U' → SubN ps.length U' U → SubN ps.length T U
 self : IsRound c ps T T

theorem Ris.zero {c : Int} {ps : List (List Stm)} {T : List (List Int)} (h : ∀ i, i < ps.length → T.getD i [] = zero7) : Ris c ps T where
 good := fun i hi => by rw [h i hi]; exact zero7_smalls
 low := fun U _ _ _ _ i hi => by rw [h i hi]; exact zero7_sub _
 up := fun U _ i hi => by rw [h i hi]; exact zero7_sub _

theorem Ris.next {c : Int} (hc : c = 1 ∨ c = 2) {ps : List (List Stm)} (hp : CanP ps) {T T' : List (List Int)} (h : Ris c ps T) (hr : IsRound c ps T T') : Ris c ps T' where
 good := hr.good
 low := fun U U' hU hu hs => (round_mono hc hp h.good hU (h.low U U' hU hu hs) hr hu).trans hs
 up := fun T'' hr' => round_mono hc hp h.good hr.good (h.up T' hr) hr hr'

theorem Ris.last {c : Int} {ps : List (List Stm)} {T : List (List Int)} (h : Ris c ps T) (hr : IsRound c ps T T) : IsTables c ps T := ⟨h.good, h.low, hr⟩

theorem IsTables.uniq {c : Int} {ps : List (List Stm)} {T T' : List (List Int)} (h : IsTables c ps T) (k : IsTables c ps T') {i : Nat} (hi : i < ps.length) : T.getD i [] = T'.getD i [] :=
 subR_eq (h.good i hi) (k.good i hi) (h.low T' T' k.good k.self (SubN.refl _ _) i hi) (k.low T T h.good h.self (SubN.refl _ _) i hi)

theorem canP_of {ps : List (List Stm)} (h : programOk ps = true) : CanP ps := fun i hi => by
 unfold programOk at h
 simp only [Bool.and_eq_true, List.all_eq_true, decide_eq_true_eq] at h
 have hm := h.2 _ (List.getElem_mem hi)
 unfold partOk at hm
 simp only [Bool.and_eq_true, List.all_eq_true] at hm
 refine ⟨hm.1, fun s hs => ⟨procOk_stm hm.1 hs, fun h8 => ?_⟩⟩
 have := hm.2 s hs
 unfold callOk at this
 simpa [h8] using this

/-- How much room is left in a list of sets. -/
def room (L : List Int) : Nat := (L.map (fun x => (127 - x).toNat)).sum
def roomT (T : List (List Int)) : Nat := (T.map room).sum

theorem sub_le {x y : Int} (hx : Small x) (hy : Small y) (h : Sub x y) : x ≤ y := by
 have e : lor x y = y := bit_ext (lor_small hx hy) hy (fun t _ => by
  rw [bit_lor hx hy]
  have := h t
  cases h1 : bit x t
  · rfl
  · rw [this h1]; rfl)
 obtain ⟨a, rfl, ha⟩ := small_nat hx
 obtain ⟨b, rfl, hb⟩ := small_nat hy
 rw [lor_nat a b ha hb] at e
 have h1 : a ||| b = b := by exact_mod_cast e
 have h2 : a ≤ a ||| b := Nat.left_le_or
 omega

theorem room_le : ∀ {xs ys : List Int}, xs.length = ys.length → (∀ j, xs.getD j 0 ≤ ys.getD j 0) → room ys ≤ room xs
 | [], [], _, _ => Nat.le_refl _
 | x :: xs, y :: ys, hl, h => by
  have h0 := h 0
  simp at h0
  have ih := room_le (xs := xs) (ys := ys) (by simpa using hl) (fun j => by simpa using h (j + 1))
  simp only [room, List.map_cons, List.sum_cons] at ih ⊢
  omega

theorem room_lt : ∀ {xs ys : List Int}, xs.length = ys.length → (∀ y ∈ ys, y ≤ 127) → (∀ j, xs.getD j 0 ≤ ys.getD j 0) → xs ≠ ys → room ys < room xs
 | [], [], _, _, _, hn => absurd rfl hn
 | x :: xs, y :: ys, hl, hs, h, hn => by
  have h0 := h 0
  simp at h0
  have hl' : xs.length = ys.length := by simpa using hl
  have hr : ∀ j, xs.getD j 0 ≤ ys.getD j 0 := fun j => by simpa using h (j + 1)
  have h1 := room_le hl' hr
  have h2 := hs y (by simp)
  by_cases e : x = y
  · subst e
    have := room_lt hl' (fun y hy => hs y (by simp [hy])) hr (fun e => hn (by rw [e]))
    simp only [room, List.map_cons, List.sum_cons] at this ⊢
    omega
  · simp only [room, List.map_cons, List.sum_cons] at h1 ⊢
    omega

theorem room_sub {xs ys : List Int} (hx : Smalls xs) (hy : Smalls ys) (h : SubR xs ys) : room ys ≤ room xs := room_le (by rw [hx.1, hy.1]) (fun j => sub_le (hx.getD j) (hy.getD j) (h j))
theorem room_sub_ne {xs ys : List Int} (hx : Smalls xs) (hy : Smalls ys) (h : SubR xs ys) (hn : xs ≠ ys) : room ys < room xs :=
 room_lt (by rw [hx.1, hy.1]) (fun y hm => (hy.2 y hm).2) (fun j => sub_le (hx.getD j) (hy.getD j) (h j)) hn

theorem roomT_sub : ∀ {T U : List (List Int)}, T.length = U.length → GoodN T.length T → GoodN T.length U → SubN T.length T U → roomT U ≤ roomT T
 | [], [], _, _, _, _ => Nat.le_refl _
 | x :: T, y :: U, hl, h1, h2, hs => by
  have hl' : T.length = U.length := by simpa using hl
  have ih := roomT_sub hl' (fun i hi => by simpa using h1 (i + 1) (by simp; omega)) (fun i hi => by simpa using h2 (i + 1) (by simp; omega)) (fun i hi => by simpa using hs (i + 1) (by simp; omega))
  have h0 := room_sub (xs := x) (ys := y) (by simpa using h1 0 (by simp)) (by simpa using h2 0 (by simp)) (by simpa using hs 0 (by simp))
  simp only [roomT, List.map_cons, List.sum_cons] at ih ⊢
  omega

theorem roomT_ne : ∀ {T U : List (List Int)}, T.length = U.length → GoodN T.length T → GoodN T.length U → SubN T.length T U → T ≠ U → roomT U < roomT T
 | [], [], _, _, _, _, hn => absurd rfl hn
 | x :: T, y :: U, hl, h1, h2, hs, hn => by
  have hl' : T.length = U.length := by simpa using hl
  have g1 : GoodN T.length T := fun i hi => by simpa using h1 (i + 1) (by simp; omega)
  have g2 : GoodN T.length U := fun i hi => by simpa using h2 (i + 1) (by simp; omega)
  have g3 : SubN T.length T U := fun i hi => by simpa using hs (i + 1) (by simp; omega)
  have x1 : Smalls x := by simpa using h1 0 (by simp)
  have x2 : Smalls y := by simpa using h2 0 (by simp)
  have x3 : SubR x y := by simpa using hs 0 (by simp)
  have ih := roomT_sub hl' g1 g2 g3
  have h0 := room_sub x1 x2 x3
  by_cases e : x = y
  · subst e
    have := roomT_ne hl' g1 g2 g3 (fun e => hn (by rw [e]))
    simp only [roomT, List.map_cons, List.sum_cons] at this ⊢
    omega
  · have := room_sub_ne x1 x2 x3 e
    simp only [roomT, List.map_cons, List.sum_cons] at ih ⊢
    omega

theorem getD_set {T : List (List Int)} {k : Nat} {r : List Int} (hk : k < T.length) (i : Nat) : (T.set k r).getD i [] = if i = k then r else T.getD i [] := by
 rw [List.getD_eq_getElem?_getD, List.getD_eq_getElem?_getD]
 by_cases e : i = k
 · subst e; simp [hk]
 · rw [if_neg e, List.getElem?_set_ne (fun h => e h.symm)]

theorem list_getD {T U : List (List Int)} (hl : T.length = U.length) (h : ∀ i, i < T.length → T.getD i [] = U.getD i []) : T = U := by
 refine List.ext_getElem hl (fun i h1 h2 => ?_)
 have := h i h1
 simpa [List.getD, h1, h2] using this

/-- One relation more: what is handed on to a next statement. -/
theorem SubN.set {n : Nat} {T : List (List Int)} {k : Nat} {r : List Int} (hk : k < T.length) (h : SubR (T.getD k []) r) : SubN n T (T.set k r) := fun i _ => by
 rw [getD_set hk]
 split
 · rename_i e; subst e; exact h
 · exact SubR.refl _

theorem GoodN.set {n : Nat} {T : List (List Int)} {k : Nat} {r : List Int} (hT : GoodN n T) (hk : k < T.length) (h : Smalls r) : GoodN n (T.set k r) := fun i hi => by
 rw [getD_set hk]
 split
 · exact h
 · exact hT i hi

theorem SubN.put {n : Nat} {T C : List (List Int)} {k : Nat} {r : List Int} (hT : SubN n T C) (hk : k < T.length) (h : SubR r (C.getD k [])) : SubN n (T.set k r) C := fun i hi => by
 rw [getD_set hk]
 split
 · rename_i e; subst e; exact h
 · exact hT i hi

/-- What the search within a procedure has at any time. -/
structure InnS (E : Nat → List Int) (ss : List Stm) (R : List (List Int)) : Prop where
 len : R.length = ss.length
 good : GoodN ss.length R
 und : Und E ss R
 unit : SubR unitL (R.getD 0 [])

/-- One pass: R0 at its begin, R now; the statements below m are done. -/
structure Pss (E : Nat → List Int) (ss : List Stm) (R0 : List (List Int)) (m : Nat) (ag : Bool) (R : List (List Int)) : Prop where
 inn : InnS E ss R
 sub : SubN ss.length R0 R
 done : ∀ (i : Nat) (hi : i < ss.length), i < m → ∀ x ∈ nextsS ss[i] i, SubR (comp (R0.getD i []) (E i)) (R.getD x.toNat [])
 st : (ag = false ∧ R = R0) ∨ (ag = true ∧ roomT R < roomT R0)

theorem InnS.begin {E : Nat → List Int} {ss : List Stm} (h : 1 ≤ ss.length) : InnS E ss ((List.replicate ss.length zero7).set 0 unitL) := by
 have hl : 0 < (List.replicate ss.length zero7).length := by simp; omega
 have hz : ∀ i, i < ss.length → (List.replicate ss.length zero7).getD i [] = zero7 := fun i hi => by simp [List.getD, hi]
 refine ⟨by simp, fun i hi => ?_, fun C hC hc i hi => ?_, ?_⟩
 · rw [getD_set hl]
   split
   · exact unit_smalls
   · rw [hz i hi]; exact zero7_smalls
 · rw [getD_set hl]
   split
   · rename_i e; subst e; exact hc.1
   · rw [hz i hi]; exact zero7_sub _
 · rw [getD_set hl, if_pos rfl]; exact SubR.refl _

theorem Pss.begin {E : Nat → List Int} {ss : List Stm} {R : List (List Int)} (h : InnS E ss R) : Pss E ss R 0 false R :=
 ⟨h, SubN.refl _ _, fun i _ hi => absurd hi (by omega), .inl ⟨rfl, rfl⟩⟩

/-- What is composed at i goes to whatever is closed. -/
theorem InnS.goes {E : Nat → List Int} {ss : List Stm} {R : List (List Int)} (h : InnS E ss R) {i : Nat} (hi : i < ss.length) (hE : Smalls (E i)) : ∀ x ∈ nextsS ss[i] i, ∀ C, GoodN ss.length C → Clo E ss C → SubR (comp (R.getD i []) (E i)) (C.getD x.toNat []) := fun x hx C hC hc =>
 (comp_mono (h.good i hi) hE (hC i hi) hE (h.und C hC hc i hi) (SubR.refl _)).trans (hc.2 i hi x hx)

theorem Pss.put {E : Nat → List Int} {ss : List Stm} {R0 R : List (List Int)} {m : Nat} {ag : Bool} (h : Pss E ss R0 m ag R) {x : Nat} (hx : x < ss.length) {r : List Int} (hr : Smalls r)
 (hg : ∀ C, GoodN ss.length C → Clo E ss C → SubR r (C.getD x [])) (hn : joi (R.getD x []) r ≠ R.getD x []) : Pss E ss R0 m true (R.set x (joi (R.getD x []) r)) := by
 have hl := h.inn.len
 have hxl : x < R.length := by omega
 have gx := h.inn.good x hx
 have hj := joi_smalls gx hr
 have hs : SubN ss.length R (R.set x (joi (R.getD x []) r)) := SubN.set hxl (joi_l gx hr)
 have hgood := h.inn.good.set hxl hj
 have hroom : roomT (R.set x (joi (R.getD x []) r)) < roomT R := by
  refine roomT_ne (by simp) (by rw [hl]; exact h.inn.good) (by rw [hl]; exact hgood) (by rw [hl]; exact hs) (fun e => hn ?_)
  have : R.getD x [] = (R.set x (joi (R.getD x []) r)).getD x [] := by rw [← e]
  rw [getD_set hxl, if_pos rfl] at this
  exact this.symm
 refine ⟨⟨by simpa using hl, hgood, fun C hC hc => (h.inn.und C hC hc).put hxl (joi_least gx hr (h.inn.und C hC hc x hx) (hg C hC hc)), ?_⟩, h.sub.trans hs, fun i hi hm y hy => ?_, .inr ⟨rfl, ?_⟩⟩
 · by_cases h0 : 0 < ss.length
   · exact h.inn.unit.trans (hs 0 h0)
   · omega
 · have h1 := h.done i hi hm y hy
   by_cases hyl : y.toNat < ss.length
   · exact h1.trans (hs _ hyl)
   · rw [getD_set hxl, if_neg (by omega)]; exact h1
 · rcases h.st with ⟨_, e⟩ | ⟨_, e⟩
   · rw [← e]; exact hroom
   · omega

/-- The statement at m is done, too. -/
theorem Pss.next {E : Nat → List Int} {ss : List Stm} {R0 R R1 : List (List Int)} {m : Nat} {ag : Bool} (h : Pss E ss R0 m ag R) (hm : m < ss.length) (g0 : GoodN ss.length R0) (hE : Smalls (E m)) (g1 : GoodN ss.length R1) (h1 : SubN ss.length R0 R1)
 (hd : ∀ x ∈ nextsS ss[m] m, SubR (comp (R1.getD m []) (E m)) (R.getD x.toNat [])) : Pss E ss R0 (m + 1) ag R :=
 ⟨h.inn, h.sub, fun i hi hi' x hx => by
  by_cases e : i = m
  · subst e
    exact (comp_mono (g0 i hi) hE (g1 i hi) hE (h1 i hi) (SubR.refl _)).trans (hd x hx)
  · exact h.done i hi (by omega) x hx, h.st⟩

theorem Pss.last {E : Nat → List Int} {ss : List Stm} {R0 R : List (List Int)} {ag : Bool} (h : Pss E ss R0 ss.length ag R) (hf : ag = false) : IsInner E ss R := by
 rcases h.st with ⟨_, e⟩ | ⟨e, _⟩
 · subst e
   exact ⟨h.inn.good, ⟨h.inn.unit, fun i hi x hx => h.done i hi hi x hx⟩, h.inn.und⟩
 · rw [hf] at e; cases e

end Go.Proofs.Ytnjbihfceckpfaa
