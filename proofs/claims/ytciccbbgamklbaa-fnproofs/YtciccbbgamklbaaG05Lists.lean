/-
  Put together out of: ProofM, LayersM, SpecAlong, SpecCovers, SolvedM, HeapF, Lists.
-/
import Derived.Test.YtciccbbgamklbaaG04VisitsM
import Derived.Test.YtciccbbgamklbaaG03Proc
import Derived.BigRegion
import Derived.Test.YtciccbbgamklbaaG00RelA
import Derived.Deep.RegionHeld3
import Derived.Maps.AppendAt
/-
  Mathematics of Proof: the least way that brings a fact.
-/
namespace Go.Proofs.Ytciccbbgamklbaa
set_option linter.unusedVariables false

/-- Is it a way to i that brings t? -/
def Brings (c : Int) (ss : List Stm) (s : Int) (i t : Nat) (ys : List Int) : Prop := RW ss ys ∧ lastI ys = (i : Int) ∧ bit (st c ss s ys) t = true

/-- The least way to i that brings t, or nothing. -/
def IsProof (c : Int) (ss : List Stm) (s : Int) (i t : Nat) (A : List Int) : Prop :=
  (A = [] ∧ ∀ ys, ¬ Brings c ss s i t ys) ∨ (Brings c ss s i t A ∧ ∀ ys, Brings c ss s i t ys → wle A ys)

theorem proof_unique {c : Int} {ss : List Stm} {s : Int} {i t : Nat} {A B : List Int} (ha : IsProof c ss s i t A) (hb : IsProof c ss s i t B) : A = B := by
  rcases ha with ⟨rfl, ha⟩ | ⟨ha, ha'⟩ <;> rcases hb with ⟨rfl, hb⟩ | ⟨hb, hb'⟩
  · rfl
  · exact absurd hb (ha B)
  · exact absurd ha (hb A)
  · exact wle_antisymm (ha' B hb) (hb' A ha)

def ProofAns (c : Int) (ss : List Stm) (s i t : Int) (A : List Int) : Prop :=
  ((procOk ss && isCl c && inB s 0 127 && wiB i ss.length && inB t 0 6) = true → ∀ (j u : Nat), i = (j : Int) → t = (u : Int) → IsProof c ss s j u A) ∧ ((procOk ss && isCl c && inB s 0 127 && wiB i ss.length && inB t 0 6) = false → A = [])

/-- A search that is stopped at x has found the least way. -/
theorem stop_proof {c : Int} {ss : List Stm} {s : Int} (hp : procOk ss = true) (hs : Small s) {pre work : List Vis} {fs : List Int} (h : VInv c ss s pre work fs) {x : Vis} (hx : x ∈ work) (hmin : ∀ y ∈ work, wle x.way y.way) {i t : Nat} (ht : t < 7) (hl : lastI x.way = (i : Int)) (hb : bit x.set t = true)
    (hno : ∀ y ∈ pre, ¬ (lastI y.way = (i : Int) ∧ bit y.set t = true)) : IsProof c ss s i t x.way := by
  obtain ⟨hR, hS⟩ := h.real x (.inr hx)
  refine .inr ⟨⟨hR, hl, by rw [← hS]; exact hb⟩, fun ys hy => ?_⟩
  obtain ⟨h1, h2, h3⟩ := hy
  cases hlt : wlt ys x.way with
  | false => exact hlt
  | true =>
    obtain ⟨z, hz, _, z2, z3⟩ := h.done hp hs h1 (fun y hy => wlt_of_lt_le hlt (hmin y hy)) t ht h3
    exact absurd ⟨z2.trans h2, z3⟩ (hno z hz)

theorem done_proof {c : Int} {ss : List Stm} {s : Int} (hp : procOk ss = true) (hs : Small s) {pre : List Vis} {fs : List Int} (h : VInv c ss s pre [] fs) {i t : Nat} (ht : t < 7) (hno : ∀ y ∈ pre, ¬ (lastI y.way = (i : Int) ∧ bit y.set t = true)) : IsProof c ss s i t [] := by
  refine .inl ⟨rfl, fun ys hy => ?_⟩
  obtain ⟨h1, h2, h3⟩ := hy
  obtain ⟨z, hz, _, z2, z3⟩ := h.done hp hs h1 (fun y hy => by simp at hy) t ht h3
  exact hno z hz ⟨z2.trans h2, z3⟩

theorem bit_pow : ∀ t, t < 7 → ∀ u, u < 7 → bit (2 ^ t) u = decide (u = t) := by decide +kernel

theorem hasA_pow {a : Int} (ha : Small a) {t : Nat} (ht : t < 7) : hasA a (2 ^ t) = bit a t := by
  have hs : Small (2 ^ t) := by
    have hc : t = 0 ∨ t = 1 ∨ t = 2 ∨ t = 3 ∨ t = 4 ∨ t = 5 ∨ t = 6 := by omega
    rcases hc with rfl | rfl | rfl | rfl | rfl | rfl | rfl <;> exact ⟨by decide, by decide⟩
  rw [Bool.eq_iff_iff, hasA_iff ha hs]
  constructor
  · intro h
    exact h t ht (by rw [bit_pow t ht t ht]; simp)
  · intro h u hu hb
    rw [bit_pow t ht u hu] at hb
    obtain rfl : u = t := by simpa using hb
    exact h

end Go.Proofs.Ytciccbbgamklbaa

/-
  Mathematics of spec.Proof: layers of ways, the least for each statement and fact.
-/
namespace Go.Proofs.Ytciccbbgamklbaa
set_option linter.unusedVariables false

theorem wlt_lex {a b : List Int} (h : a.length = b.length) : wlt a b = lexB a b := by simp [wlt, h]

abbrev Itm := List Int × Int

/-- N has, of all that C speaks of, the least way for each last statement and each fact, once. -/
structure MinOf (C : Itm → Prop) (N : List Itm) : Prop where
  isC : ∀ e ∈ N, C e
  all : ∀ x, C x → ∃ e ∈ N, lastI e.1 = lastI x.1 ∧ e.2 = x.2 ∧ wle e.1 x.1
  uniq : ∀ (a b : Nat) (e f : Itm), N[a]? = some e → N[b]? = some f → lastI e.1 = lastI f.1 → e.2 = f.2 → a = b

theorem MinOf.nil : MinOf (fun _ => False) [] := ⟨by simp, by simp, by simp⟩

theorem MinOf.congr {C D : Itm → Prop} {N : List Itm} (h : MinOf C N) (hd : ∀ x, C x ↔ D x) : MinOf D N :=
  ⟨fun e he => (hd e).1 (h.isC e he), fun x hx => h.all x ((hd x).2 hx), h.uniq⟩

theorem MinOf.new {C : Itm → Prop} {N : List Itm} (h : MinOf C N) (x : Itm) (hno : ∀ e ∈ N, ¬ (lastI e.1 = lastI x.1 ∧ e.2 = x.2)) : MinOf (fun z => C z ∨ z = x) (N ++ [x]) := by
  refine ⟨fun e he => ?_, fun z hz => ?_, fun a b e f ha hb h1 h2 => ?_⟩
  · rcases List.mem_append.1 he with he | he
    · exact .inl (h.isC e he)
    · exact .inr (by simpa using he)
  · rcases hz with hz | rfl
    · obtain ⟨e, he, h1⟩ := h.all z hz
      exact ⟨e, by simp [he], h1⟩
    · exact ⟨z, by simp, rfl, rfl, wle_refl _⟩
  · have get : ∀ (a : Nat) (e : Itm), (N ++ [x])[a]? = some e → (a < N.length ∧ N[a]? = some e) ∨ (a = N.length ∧ e = x) := fun a e ha => by
      rcases Nat.lt_or_ge a N.length with hl | hl
      · rw [List.getElem?_append_left hl] at ha
        exact .inl ⟨hl, ha⟩
      · rw [List.getElem?_append_right hl] at ha
        have hlt := (List.getElem?_eq_some_iff.1 ha).1
        simp at hlt
        have e0 : a - N.length = 0 := by omega
        rw [e0] at ha
        simp at ha
        exact .inr ⟨by omega, ha.symm⟩
    rcases get a e ha with ⟨la, ga⟩ | ⟨la, ea⟩ <;> rcases get b f hb with ⟨lb, gb⟩ | ⟨lb, eb⟩
    · exact h.uniq a b e f ga gb h1 h2
    · subst eb; exact absurd ⟨h1, h2⟩ (hno e (List.mem_of_getElem? ga))
    · subst ea; exact absurd ⟨h1.symm, h2.symm⟩ (hno f (List.mem_of_getElem? gb))
    · omega

theorem MinOf.keep {C : Itm → Prop} {N : List Itm} (h : MinOf C N) (x e : Itm) (he : e ∈ N) (h1 : lastI e.1 = lastI x.1) (h2 : e.2 = x.2) (hw : wle e.1 x.1) : MinOf (fun z => C z ∨ z = x) N := by
  refine ⟨fun e he => .inl (h.isC e he), fun z hz => ?_, h.uniq⟩
  rcases hz with hz | rfl
  · exact h.all z hz
  · exact ⟨e, he, h1, h2, hw⟩

theorem MinOf.put {C : Itm → Prop} {N : List Itm} (h : MinOf C N) (x e : Itm) (a : Nat) (ha : N[a]? = some e) (h1 : lastI e.1 = lastI x.1) (h2 : e.2 = x.2) (hw : wlt x.1 e.1 = true) : MinOf (fun z => C z ∨ z = x) (N.set a x) := by
  have hal := (List.getElem?_eq_some_iff.1 ha).1
  have get : ∀ (b : Nat) (f : Itm), (N.set a x)[b]? = some f → (b = a ∧ f = x) ∨ (b ≠ a ∧ N[b]? = some f) := fun b f hb => by
    by_cases e0 : a = b
    · subst e0
      rw [List.getElem?_set_self hal] at hb
      exact .inl ⟨rfl, by simpa using hb.symm⟩
    · rw [List.getElem?_set_ne e0] at hb
      exact .inr ⟨fun e => e0 e.symm, hb⟩
  have hmx : x ∈ N.set a x := List.mem_of_getElem? (List.getElem?_set_self hal)
  refine ⟨fun f hf => ?_, fun z hz => ?_, fun b b' f f' hb hb' g1 g2 => ?_⟩
  · obtain ⟨b, hb⟩ := List.getElem?_of_mem hf
    rcases get b f hb with ⟨_, rfl⟩ | ⟨_, hb⟩
    · exact .inr rfl
    · exact .inl (h.isC f (List.mem_of_getElem? hb))
  · rcases hz with hz | rfl
    · obtain ⟨f, hf, g1, g2, g3⟩ := h.all z hz
      obtain ⟨b, hb⟩ := List.getElem?_of_mem hf
      by_cases e0 : a = b
      · subst e0
        rw [ha] at hb
        obtain rfl : e = f := by simpa using hb
        exact ⟨x, hmx, h1.symm.trans g1, h2.symm.trans g2, wle_trans (wle_of_lt hw) g3⟩
      · exact ⟨f, List.mem_of_getElem? (by rw [List.getElem?_set_ne e0]; exact hb), g1, g2, g3⟩
    · exact ⟨z, hmx, rfl, rfl, wle_refl _⟩
  · rcases get b f hb with ⟨ea, ef⟩ | ⟨n1, gb⟩ <;> rcases get b' f' hb' with ⟨ea', ef'⟩ | ⟨n2, gb'⟩
    · omega
    · subst ef; exact absurd (h.uniq a b' e f' ha gb' (h1.trans g1) (h2.trans g2)).symm n2
    · subst ef'; exact absurd (h.uniq b a f e gb ha (g1.trans h1.symm) (g2.trans h2.symm)) n1
    · exact h.uniq b b' f f' gb gb' g1 g2

/-- What comes of one item: a next statement and a fact that has not been seen there. -/
def Cand (c : Int) (ss : List Stm) (seen : List Int) (row : List Itm) (x : Itm) : Prop :=
  ∃ e ∈ row, ∃ (y t : Nat), (y : Int) ∈ nx ss (lastI e.1).toNat ∧ t < 7 ∧ bit ((flw c ss (lastI e.1).toNat).getD e.2.toNat 0) t = true ∧ bit (seen.getD y 0) t = false ∧ x = (e.1 ++ [(y : Int)], (t : Int))

/-- The items of length L, and what has been seen. -/
structure Layer (c : Int) (ss : List Stm) (s : Int) (L : Nat) (row : List Itm) (seen : List Int) : Prop where
  pos : 1 ≤ L
  item : ∀ e ∈ row, e.1.length = L ∧ ∃ (i t : Nat), t < 7 ∧ e.2 = (t : Int) ∧ Brings c ss s i t e.1 ∧ ∀ zs, Brings c ss s i t zs → L ≤ zs.length
  all : ∀ (i t : Nat) ys, t < 7 → Brings c ss s i t ys → ys.length = L → (∀ zs, Brings c ss s i t zs → L ≤ zs.length) → ∃ e ∈ row, lastI e.1 = (i : Int) ∧ e.2 = (t : Int) ∧ wle e.1 ys
  uniq : ∀ (a b : Nat) (e f : Itm), row[a]? = some e → row[b]? = some f → lastI e.1 = lastI f.1 → e.2 = f.2 → a = b
  seen : ∀ i t : Nat, t < 7 → (bit (seen.getD i 0) t = true ↔ ∃ ys, Brings c ss s i t ys ∧ ys.length ≤ L)

theorem RW_one {ss : List Stm} {ys : List Int} (h : RW ss ys) (hl : ys.length = 1) : ys = [0] := by
  match ys, hl with
  | [x], _ => have := h.2.1; simp at this; rw [this]

theorem brings_snoc {c : Int} {ss : List Stm} {s : Int} (hp : procOk ss = true) (hf : ∀ i, i < ss.length → Smalls (flw c ss i)) {i u y t : Nat} {ys : List Int} (h : Brings c ss s i u ys) (hu : u < 7) (hy : (y : Int) ∈ nx ss i) (hb : bit ((flw c ss i).getD u 0) t = true) : Brings c ss s y t (ys ++ [(y : Int)]) := by
  obtain ⟨h1, h2, h3⟩ := h
  obtain ⟨j, hj, hjl⟩ := RW_in hp h1
  obtain rfl : i = j := by omega
  have e : (lastI ys).toNat = i := by omega
  refine ⟨RW_snoc hp h1 (by rw [e]; exact hy), lastI_snoc _ _, ?_⟩
  rw [st_snoc h1.1, e, bit_img (hf i hjl)]
  exact ⟨u, hu, h3, hb⟩

theorem brings_inv {c : Int} {ss : List Stm} {s : Int} (hp : procOk ss = true) (hf : ∀ i, i < ss.length → Smalls (flw c ss i)) {y t : Nat} {zs : List Int} (h : Brings c ss s y t zs) : zs.length = 1 ∨ ∃ ys i u, zs = ys ++ [(y : Int)] ∧ u < 7 ∧ Brings c ss s i u ys ∧ (y : Int) ∈ nx ss i ∧ bit ((flw c ss i).getD u 0) t = true := by
  obtain ⟨h1, h2, h3⟩ := h
  rcases RW_inv hp h1 with rfl | ⟨ys, x, rfl, hr, hx⟩
  · exact .inl rfl
  · rw [lastI_snoc] at h2
    subst h2
    obtain ⟨i, hi, hil⟩ := RW_in hp hr
    have e : (lastI ys).toNat = i := by omega
    rw [st_snoc hr.1, e, bit_img (hf i hil)] at h3
    obtain ⟨u, hu, hs, hb⟩ := h3
    exact .inr ⟨ys, i, u, rfl, hu, ⟨hr, hi, hs⟩, by rw [← e]; exact hx, hb⟩

theorem Layer.first {c : Int} {ss : List Stm} {s : Int} {row : List Itm} {seen : List Int} (hrow : ∀ e, e ∈ row ↔ ∃ t : Nat, t < 7 ∧ bit s t = true ∧ e = ([0], (t : Int))) (huniq : ∀ (a b : Nat) (e f : Itm), row[a]? = some e → row[b]? = some f → e.2 = f.2 → a = b)
    (hseen : ∀ i t : Nat, t < 7 → (bit (seen.getD i 0) t = true ↔ i = 0 ∧ bit s t = true)) : Layer c ss s 1 row seen := by
  have b0 : ∀ t, bit s t = true → Brings c ss s 0 t [0] := fun t h => ⟨RW0 ss, rfl, h⟩
  have inv : ∀ (i t : Nat) ys, Brings c ss s i t ys → ys.length = 1 → i = 0 ∧ ys = [0] ∧ bit s t = true := fun i t ys h hl => by
    obtain rfl := RW_one h.1 hl
    refine ⟨?_, rfl, h.2.2⟩
    have := h.2.1
    simp [lastI] at this
    omega
  refine ⟨Nat.le_refl _, fun e he => ?_, fun i t ys ht h hl _ => ?_, fun a b e f ha hb _ h2 => huniq a b e f ha hb h2, fun i t ht => ?_⟩
  · obtain ⟨t, ht, hb, rfl⟩ := (hrow e).1 he
    exact ⟨rfl, 0, t, ht, rfl, b0 t hb, fun zs hz => hz.1.1⟩
  · obtain ⟨rfl, rfl, hb⟩ := inv i t ys h hl
    exact ⟨([0], (t : Int)), (hrow _).2 ⟨t, ht, hb, rfl⟩, rfl, rfl, wle_refl _⟩
  · rw [hseen i t ht]
    constructor
    · rintro ⟨rfl, hb⟩
      exact ⟨[0], b0 t hb, Nat.le_refl _⟩
    · rintro ⟨ys, h, hl⟩
      obtain ⟨h1, _, h3⟩ := inv i t ys h (by have := h.1.1; omega)
      exact ⟨h1, h3⟩

theorem Layer.next {c : Int} {ss : List Stm} {s : Int} {L : Nat} {row N : List Itm} {seen seen' : List Int} (hp : procOk ss = true) (hf : ∀ i, i < ss.length → Smalls (flw c ss i)) (h : Layer c ss s L row seen) (hN : MinOf (Cand c ss seen row) N)
    (hseen : ∀ i t : Nat, t < 7 → (bit (seen'.getD i 0) t = true ↔ bit (seen.getD i 0) t = true ∨ ∃ e ∈ N, lastI e.1 = (i : Int) ∧ e.2 = (t : Int))) : Layer c ss s (L + 1) N seen' := by
  -- what a candidate is
  have cand : ∀ x, Cand c ss seen row x → x.1.length = L + 1 ∧ ∃ (i t : Nat), t < 7 ∧ x.2 = (t : Int) ∧ Brings c ss s i t x.1 ∧ ∀ zs, Brings c ss s i t zs → L + 1 ≤ zs.length := by
    rintro x ⟨e, he, y, t, hy, ht, hb, hs, rfl⟩
    obtain ⟨hl, i, u, hu, e2, hB, _⟩ := h.item e he
    have ei : (lastI e.1).toNat = i := by have := hB.2.1; omega
    have eu : e.2.toNat = u := by omega
    rw [ei] at hy hb
    rw [eu] at hb
    refine ⟨by simp [hl], y, t, ht, rfl, brings_snoc hp hf hB hu hy hb, fun zs hz => ?_⟩
    rcases Nat.lt_or_ge L zs.length with hh | hh
    · exact hh
    · rw [(h.seen y t ht).2 ⟨zs, hz, hh⟩] at hs
      cases hs
  have full : ∀ (i t : Nat) ys, t < 7 → Brings c ss s i t ys → ys.length = L + 1 → (∀ zs, Brings c ss s i t zs → L + 1 ≤ zs.length) → ∃ e ∈ N, lastI e.1 = (i : Int) ∧ e.2 = (t : Int) ∧ wle e.1 ys := by
    intro y t zs ht hB hl hmin
    rcases brings_inv hp hf hB with h1 | ⟨ys, i, u, rfl, hu, hB', hy, hb⟩
    · have := h.pos; omega
    · have hyl : ys.length = L := by simpa using hl
      obtain ⟨e, he, e1, e2, e3⟩ := h.all i u ys hu hB' hyl (fun zs' hz' => by
        have := hmin _ (brings_snoc hp hf hz' hu hy hb)
        simp at this
        omega)
      have hns : bit (seen.getD y 0) t = false := by
        cases hbs : bit (seen.getD y 0) t with
        | false => rfl
        | true =>
          obtain ⟨zs', hz', hl'⟩ := (h.seen y t ht).1 hbs
          have := hmin zs' hz'
          omega
      obtain ⟨f, hf', f1, f2, f3⟩ := hN.all (e.1 ++ [(y : Int)], (t : Int)) ⟨e, he, y, t, by rw [e1]; exact hy, ht, by rw [e1, e2]; exact hb, hns, rfl⟩
      exact ⟨f, hf', f1.trans (lastI_snoc _ _), f2, wle_trans f3 (wle_snoc _ e3)⟩
  refine ⟨by omega, fun e he => cand e (hN.isC e he), full, hN.uniq, fun i t ht => ?_⟩
  rw [hseen i t ht, h.seen i t ht]
  constructor
  · rintro (⟨ys, h1, h2⟩ | ⟨e, he, h1, h2⟩)
    · exact ⟨ys, h1, by omega⟩
    · obtain ⟨hl, j, u, hu, e2, hB, _⟩ := cand e (hN.isC e he)
      obtain rfl : i = j := by have := hB.2.1; omega
      obtain rfl : t = u := by omega
      exact ⟨e.1, hB, by omega⟩
  · rintro ⟨ys, h1, h2⟩
    by_cases hsh : ∃ zs, Brings c ss s i t zs ∧ zs.length ≤ L
    · exact .inl hsh
    · have hmin : ∀ zs, Brings c ss s i t zs → L + 1 ≤ zs.length := fun zs hz => by
        rcases Nat.lt_or_ge L zs.length with hh | hh
        · exact hh
        · exact absurd ⟨zs, hz, hh⟩ hsh
      obtain ⟨e, he, e1, e2, _⟩ := full i t ys ht h1 (by have := hmin ys h1; omega) hmin
      exact .inr ⟨e, he, e1, e2⟩

theorem Layer.found {c : Int} {ss : List Stm} {s : Int} {L : Nat} {row : List Itm} {seen : List Int} (h : Layer c ss s L row seen) {i t : Nat} (ht : t < 7) {e : Itm} (he : e ∈ row) (h1 : lastI e.1 = (i : Int)) (h2 : e.2 = (t : Int)) : IsProof c ss s i t e.1 := by
  obtain ⟨hl, j, u, hu, e2, hB, hmin⟩ := h.item e he
  obtain rfl : i = j := by have := hB.2.1; omega
  obtain rfl : t = u := by omega
  refine .inr ⟨hB, fun ys hy => ?_⟩
  have hge := hmin ys hy
  rcases Nat.lt_or_ge L ys.length with hh | hh
  · exact wle_of_lt (wlt_iff.2 (.inl (by omega)))
  · obtain ⟨f, hf, f1, f2, f3⟩ := h.all i t ys ht hy (by omega) hmin
    obtain ⟨a, ha⟩ := List.getElem?_of_mem he
    obtain ⟨b, hb⟩ := List.getElem?_of_mem hf
    have := h.uniq a b e f ha hb (h1.trans f1.symm) (h2.trans f2.symm)
    subst this
    rw [ha] at hb
    obtain rfl : e = f := by simpa using hb
    exact f3

theorem Layer.more {c : Int} {ss : List Stm} {s : Int} {L : Nat} {row : List Itm} {seen : List Int} (h : Layer c ss s L row seen) {i t : Nat} (ht : t < 7) (hmin : ∀ zs, Brings c ss s i t zs → L ≤ zs.length) (hno : ∀ e ∈ row, ¬ (lastI e.1 = (i : Int) ∧ e.2 = (t : Int))) : ∀ zs, Brings c ss s i t zs → L + 1 ≤ zs.length := by
  intro zs hz
  have := hmin zs hz
  rcases Nat.lt_or_ge L zs.length with hh | hh
  · exact hh
  · obtain ⟨e, he, e1, e2, _⟩ := h.all i t zs ht hz (by omega) hmin
    exact absurd ⟨e1, e2⟩ (hno e he)

/-- An empty layer is the last. -/
theorem Layer.last {c : Int} {ss : List Stm} {s : Int} {L : Nat} {seen : List Int} (hp : procOk ss = true) (hf : ∀ i, i < ss.length → Smalls (flw c ss i)) (h : Layer c ss s L [] seen) {i t : Nat} (ht : t < 7) (hmin : ∀ zs, Brings c ss s i t zs → L ≤ zs.length) : IsProof c ss s i t [] := by
  have key : ∀ (m : Nat) (i t : Nat) zs, t < 7 → Brings c ss s i t zs → zs.length = L + m → (∀ ys, Brings c ss s i t ys → L + m ≤ ys.length) → False := by
    intro m
    induction m with
    | zero =>
      intro i t zs ht hz hl hm
      obtain ⟨e, he, _⟩ := h.all i t zs ht hz hl hm
      simp at he
    | succ m ih =>
      intro y t zs ht hz hl hm
      rcases brings_inv hp hf hz with h1 | ⟨ys, i, u, rfl, hu, hB', hy, hb⟩
      · have := h.pos; omega
      · refine ih i u ys hu hB' (by simp at hl; omega) (fun ys' hy' => ?_)
        have := hm _ (brings_snoc hp hf hy' hu hy hb)
        simp at this
        omega
  refine .inl ⟨rfl, fun ys hy => ?_⟩
  -- the shortest that brings it
  have hex : ∃ k, ∃ zs, Brings c ss s i t zs ∧ zs.length = k := ⟨_, ys, hy, rfl⟩
  have least : ∃ k, (∃ zs, Brings c ss s i t zs ∧ zs.length = k) ∧ ∀ zs, Brings c ss s i t zs → k ≤ zs.length := by
    classical
    obtain ⟨k, hk⟩ := hex
    induction k using Nat.strongRecOn with
    | ind k ih =>
      by_cases hh : ∃ zs, Brings c ss s i t zs ∧ zs.length < k
      · obtain ⟨zs, hz, hl⟩ := hh
        exact ih zs.length hl ⟨zs, hz, rfl⟩
      · refine ⟨k, hk, fun zs hz => ?_⟩
        rcases Nat.lt_or_ge zs.length k with h1 | h1
        · exact absurd ⟨zs, hz, h1⟩ hh
        · exact h1
  obtain ⟨k, ⟨zs, hz, hl⟩, hm⟩ := least
  have hLk := hmin zs hz
  exact key (k - L) i t zs ht hz (by omega) (fun ys hy => by have := hm ys hy; omega)

end Go.Proofs.Ytciccbbgamklbaa

/-
  spec.Along.
-/
namespace Go.Proofs.Ytciccbbgamklbaa
open Go.RowKit
set_option linter.unusedVariables false
set_option maxHeartbeats 2000000
set_option maxRecDepth 4000

theorem cut_cell {w : World} {g : Nat} {off : Nat} {ys : List Int} (hc : ∀ (j : Nat) (x : Value), (ints ys)[j]? = some x → ∃ g' off', some (⟨g, off, none⟩ : Addr) = some ⟨g', off', none⟩ ∧ w.cell? ⟨g', off' + j, none⟩ = some x) {k : Nat} (hk : k < ys.length) : w.cell? ⟨g, off + k, none⟩ = some (.int .i64 (ys.getD k 0)) := by
  obtain ⟨g1, off1, e1, q0⟩ := hc k (.int .i64 (ys.getD k 0)) (ints_get ys k hk)
  simp only [Option.some.injEq, Addr.mk.injEq, and_true] at e1
  obtain ⟨rfl, rfl⟩ := e1
  exact q0

theorem int_reads {w : World} {B : Nat} {xs : List Int} (h : IntAt w B xs) (hl : xs.length = 7) : Reads w (.slice (some ⟨B, 0, none⟩) 7 7) (ints xs) := by
  have := reads_own (h.own (Nat.zero_le _) hl)
  exact this

end Go.Proofs.Ytciccbbgamklbaa

/-
  spec.Covers.
-/
namespace Go.Proofs.Ytciccbbgamklbaa
open Go.RowKit
set_option linter.unusedVariables false
set_option maxHeartbeats 4000000
set_option maxRecDepth 4000

theorem all127_take {xs : List Int} {k : Nat} (hk : k < xs.length) (h : (xs.take k).all (fun x => inB x 0 127) = true) (hx : inB (xs.getD k 0) 0 127 = true) : (xs.take (k + 1)).all (fun x => inB x 0 127) = true :=
  take_all hk h (by simpa [List.getD, hk] using hx)

theorem all127_not {xs : List Int} {k : Nat} (hk : k < xs.length) (hx : inB (xs.getD k 0) 0 127 = false) : xs.all (fun x => inB x 0 127) = false :=
  all_not hk (by simpa [List.getD, hk] using hx)

/-- The first k nexts of statement i have all that it makes. -/
def covT (c : Int) (ss : List Stm) (xs : List Int) (i k : Nat) : Bool := ((nx ss i).take k).all (fun x => hasA (xs.getD x.toNat 0) (img (flw c ss i) (xs.getD i 0)))

theorem covT_succ {c : Int} {ss : List Stm} {xs : List Int} {i k : Nat} (hk : k < (nx ss i).length) : covT c ss xs i (k + 1) = (covT c ss xs i k && hasA (xs.getD ((nx ss i)[k]).toNat 0) (img (flw c ss i) (xs.getD i 0))) := by
  unfold covT
  rw [all_take_succ _ _ _ hk]

theorem covT_all {c : Int} {ss : List Stm} {xs : List Int} {i k : Nat} (hk : (nx ss i).length ≤ k) : covT c ss xs i k = covI c ss xs i := by
  unfold covT covI
  rw [List.take_of_length_le hk]

theorem covT_not {c : Int} {ss : List Stm} {xs : List Int} {i k : Nat} (hk : k < (nx ss i).length) (h : hasA (xs.getD ((nx ss i)[k]).toNat 0) (img (flw c ss i) (xs.getD i 0)) = false) : covI c ss xs i = false :=
  all_false _ _ k hk h

theorem covK_not {c : Int} {ss : List Stm} {xs : List Int} {i n : Nat} (hi : i < n) (h : covI c ss xs i = false) : covK c ss xs n = false := by
  cases hn : covK c ss xs n with
  | false => rfl
  | true => rw [covK_iff.1 hn i hi] at h; cases h

theorem nxI {ss : List Stm} {i : Nat} (hi : i < ss.length) : nextsS ss[i] i = nx ss i := (nx_eq hi).symm

theorem has_bne {a b : Int} : (lor a b != a) = !hasA a b := by
  unfold hasA
  rw [bne, Bool.eq_iff_iff]; simp

end Go.Proofs.Ytciccbbgamklbaa

/-
  Mathematics of spec.Solved's rounds.
-/
namespace Go.Proofs.Ytciccbbgamklbaa
set_option linter.unusedVariables false

/-- All of z comes to statement i. -/
def Snd (c : Int) (ss : List Stm) (s : Int) (i : Nat) (z : Int) : Prop := ∀ t, t < 7 → bit z t = true → ∃ ys, RW ss ys ∧ lastI ys = (i : Int) ∧ bit (st c ss s ys) t = true

structure SIv (c : Int) (ss : List Stm) (s : Int) (xs : List Int) : Prop where
  len : xs.length = ss.length
  small : ∀ k, Small (xs.getD k 0)
  snd : ∀ i, i < ss.length → Snd c ss s i (xs.getD i 0)
  start : hasA (xs.getD 0 0) s = true

theorem getD_setS {xs : List Int} {j k : Nat} {z : Int} (hj : j < xs.length) : (xs.set j z).getD k 0 = if k = j then z else xs.getD k 0 := by
  by_cases e : j = k
  · subst e
    simp [List.getD, hj]
  · rw [if_neg (fun e' => e e'.symm)]
    simp [List.getD, List.getElem?_set_ne e]

theorem snd_img {c : Int} {ss : List Stm} {s : Int} (hp : procOk ss = true) {i j : Nat} (hi : i < ss.length) (hj : (j : Int) ∈ nx ss i) {z : Int} (h : Snd c ss s i z) : Snd c ss s j (img (flw c ss i) z) := by
  intro t ht hb
  obtain ⟨u, hu, h1, h2⟩ := (bit_img (flw_smalls hp hi) z t).1 hb
  obtain ⟨ys, hR, hl, hs⟩ := h u hu h1
  have hy : (j : Int) ∈ nx ss (lastI ys).toNat := by rw [hl, Int.toNat_natCast]; exact hj
  refine ⟨ys ++ [(j : Int)], RW_snoc hp hR hy, lastI_snoc _ _, ?_⟩
  rw [st_snoc hR.1, hl, Int.toNat_natCast]
  exact (bit_img (flw_smalls hp hi) _ t).2 ⟨u, hu, hs, h2⟩

theorem SIv.begin {c : Int} {ss : List Stm} {s : Int} (hp : procOk ss = true) (hs : Small s) : SIv c ss s ((List.replicate ss.length 0).set 0 s) := by
  have h1 := (procOk_parts hp).1
  have hg : ∀ k, ((List.replicate ss.length (0 : Int)).set 0 s).getD k 0 = if k = 0 then s else 0 := fun k => by
    rw [getD_setS (by simp; omega)]
    split
    · rfl
    · exact getD_rep _ _
  refine ⟨by simp, fun k => ?_, fun i hi t ht hb => ?_, ?_⟩
  · rw [hg]; split
    · exact hs
    · exact ⟨by decide, by decide⟩
  · rw [hg] at hb
    by_cases e : i = 0
    · subst e
      rw [if_pos rfl] at hb
      exact ⟨[0], RW0 ss, rfl, hb⟩
    · rw [if_neg e, bit_zero] at hb; cases hb
  · rw [hg, if_pos rfl, hasA_iff hs hs]
    exact fun _ _ h => h

theorem SIv.step {c : Int} {ss : List Stm} {s : Int} {xs : List Int} (h : SIv c ss s xs) (hs0 : Small s) {j : Nat} (hj : j < ss.length) {z : Int} (hz : Small z) (hs : Snd c ss s j z) : SIv c ss s (xs.set j (lor (xs.getD j 0) z)) := by
  have hg := fun k => getD_setS (xs := xs) (j := j) (k := k) (z := lor (xs.getD j 0) z) (by rw [h.len]; exact hj)
  refine ⟨by rw [List.length_set]; exact h.len, fun k => ?_, fun i hi t ht hb => ?_, ?_⟩
  · rw [hg]; split
    · exact lor_small (h.small j) hz
    · exact h.small k
  · rw [hg] at hb
    by_cases e : i = j
    · subst e
      rw [if_pos rfl, bit_lor (h.small i) hz, Bool.or_eq_true] at hb
      rcases hb with hb | hb
      · exact h.snd i hi t ht hb
      · exact hs t ht hb
    · rw [if_neg e] at hb
      exact h.snd i hi t ht hb
  · rw [hg]
    have h0 := (hasA_iff (h.small 0) hs0).1 h.start
    by_cases e : 0 = j
    · rw [if_pos e, hasA_iff (lor_small (h.small j) hz) hs0]
      intro t ht hb
      rw [bit_lor (h.small j) hz, ← e, h0 t ht hb]; rfl
    · rw [if_neg e]; exact h.start

/-- Where all covers it is solved. -/
theorem SIv.solved {c : Int} {ss : List Stm} {s : Int} {xs : List Int} (hp : procOk ss = true) (hs : Small s) (h : SIv c ss s xs) (hc : covK c ss xs ss.length = true) : IsSolved c ss s xs := by
  refine ⟨h.len, h.small, fun i t hi ht => ⟨h.snd i hi t ht, ?_⟩⟩
  rintro ⟨ys, hR, hl, hb⟩
  have key := RW_ind hp (P := fun ys => ∀ t, t < 7 → bit (st c ss s ys) t = true → bit (xs.getD (lastI ys).toNat 0) t = true)
    (fun t ht hb => (hasA_iff (h.small 0) hs).1 h.start t ht hb)
    (fun zs y hz hy ih t ht hb => by
      obtain ⟨j, hj, hjl⟩ := RW_in hp hz
      have hfs := flw_smalls (c := c) hp hjl
      rw [st_snoc hz.1, hj, Int.toNat_natCast] at hb
      rw [lastI_snoc]
      rw [hj, Int.toNat_natCast] at hy ih
      have hcv := covK_iff.1 hc j hjl
      have h1 := List.all_eq_true.1 hcv y hy
      obtain ⟨y', rfl, hyl⟩ := nx_in hp hjl y hy
      rw [Int.toNat_natCast] at h1 ⊢
      refine (hasA_iff (h.small y') (img_small hfs _)).1 h1 t ht ?_
      obtain ⟨u, hu, h2, h3⟩ := (bit_img hfs _ t).1 hb
      exact (bit_img hfs _ t).2 ⟨u, hu, ih u hu h2, h3⟩)
    ys.length ys (Nat.le_refl _) hR t ht hb
  rwa [hl, Int.toNat_natCast] at key

end Go.Proofs.Ytciccbbgamklbaa

/-
  The program's heap: Len, Less, Swap, Push, Pop of visits; cmp and slices under them.
-/
namespace Go.Proofs.Ytciccbbgamklbaa
open Go.RowKit
set_option linter.unusedVariables false
set_option maxHeartbeats 2000000
set_option maxRecDepth 20000

def sgn (x y : Int) : Int := if x < y then -1 else if y < x then 1 else 0

theorem cmpInt (x y : Int) (w : World) : Calls Try.prog 99 #[.int .i64 x, .int .i64 y] w fun e w' => e = .returned (.int .i64 (sgn x y)) ∧ w = w' := by
  have hn : ∀ (a : Int) W, Calls Try.prog 101 #[.int .i64 a] W fun e w' => e = .returned (.bool false) ∧ W = w' := fun a W => by
    go_enter Try.func101, Try.ntmps101
    go_wp2
    go_ret
    exact ⟨by simp, rfl⟩
  unfold sgn
  by_cases h1 : x < y
  · rw [if_pos h1]
    go_enter Try.func99, Try.ntmps99
    go_wp2_with (go_at_call 101; refine (hn _ _).mono ?_; rintro e w1 ⟨rfl, rfl⟩)
    go_ret
    exact ⟨rfl, rfl⟩
  · rw [if_neg h1]
    by_cases h2 : y < x
    · rw [if_pos h2]
      go_enter Try.func99, Try.ntmps99
      go_wp2_with (go_at_call 101; refine (hn _ _).mono ?_; rintro e w1 ⟨rfl, rfl⟩)
      go_ret
      exact ⟨rfl, rfl⟩
    · rw [if_neg h2]
      go_enter Try.func99, Try.ntmps99
      go_wp2_with (go_at_call 101; refine (hn _ _).mono ?_; rintro e w1 ⟨rfl, rfl⟩)
      go_ret
      exact ⟨rfl, rfl⟩

theorem cmpInt64 (x y : Int) (w : World) : Calls Try.prog 102 #[.int .i64 x, .int .i64 y] w fun e w' => e = .returned (.int .i64 (sgn x y)) ∧ w = w' := by
  have hn : ∀ (a : Int) W, Calls Try.prog 103 #[.int .i64 a] W fun e w' => e = .returned (.bool false) ∧ W = w' := fun a W => by
    go_enter Try.func103, Try.ntmps103
    go_wp2
    go_ret
    exact ⟨by simp, rfl⟩
  unfold sgn
  by_cases h1 : x < y
  · rw [if_pos h1]
    go_enter Try.func102, Try.ntmps102
    go_wp2_with (go_at_call 103; refine (hn _ _).mono ?_; rintro e w1 ⟨rfl, rfl⟩)
    go_ret
    exact ⟨rfl, rfl⟩
  · rw [if_neg h1]
    by_cases h2 : y < x
    · rw [if_pos h2]
      go_enter Try.func102, Try.ntmps102
      go_wp2_with (go_at_call 103; refine (hn _ _).mono ?_; rintro e w1 ⟨rfl, rfl⟩)
      go_ret
      exact ⟨rfl, rfl⟩
    · rw [if_neg h2]
      go_enter Try.func102, Try.ntmps102
      go_wp2_with (go_at_call 103; refine (hn _ _).mono ?_; rintro e w1 ⟨rfl, rfl⟩)
      go_ret
      exact ⟨rfl, rfl⟩

/-- How slices.Compare answers. -/
def lexC : List Int → List Int → Int
  | [], [] => 0
  | [], _ :: _ => -1
  | _ :: _, [] => 1
  | x :: a, y :: b => if sgn x y = 0 then lexC a b else sgn x y

theorem lexC_lt : ∀ a b : List Int, decide (lexC a b < 0) = lexB a b
  | [], [] => rfl
  | [], _ :: _ => rfl
  | _ :: _, [] => rfl
  | x :: a, y :: b => by
    have ih := lexC_lt a b
    unfold lexC lexB sgn
    by_cases h1 : x < y
    · simp [h1]
    · by_cases h2 : y < x
      · have : ¬ x = y := by omega
        simp [h1, h2, this]
      · have : x = y := by omega
        subst this
        simp [ih]

theorem sgn_range (x y : Int) : -1 ≤ sgn x y ∧ sgn x y ≤ 1 := by
  unfold sgn
  split
  · omega
  · split <;> omega

theorem lexC_range : ∀ a b : List Int, -1 ≤ lexC a b ∧ lexC a b ≤ 1
  | [], [] => by simp [lexC]
  | [], _ :: _ => by simp [lexC]
  | _ :: _, [] => by simp [lexC]
  | x :: a, y :: b => by
    have ih := lexC_range a b
    unfold lexC
    split
    · exact ih
    · exact sgn_range x y

theorem lexC_at {xs ys : List Int} {k : Nat} (hx : k < xs.length) (hy : k < ys.length) : lexC (xs.drop k) (ys.drop k) = if sgn (xs.getD k 0) (ys.getD k 0) = 0 then lexC (xs.drop (k + 1)) (ys.drop (k + 1)) else sgn (xs.getD k 0) (ys.getD k 0) := by
  rw [List.drop_eq_getElem_cons hx, List.drop_eq_getElem_cons hy]
  simp only [lexC, List.getD, List.getElem?_eq_getElem hx, List.getElem?_eq_getElem hy, Option.getD_some]

theorem slicesCompare (xs ys : List Int) (v u : Value) (w : World) (hx : xs.length ≤ maxLen) (hy : ys.length ≤ maxLen) (hv : Reads w v (ints xs)) (hu : Reads w u (ints ys)) :
    Calls Try.prog 100 #[v, u] w fun e w' => e = .returned (.int .i64 (lexC xs ys)) ∧ w = w' := by
  unfold maxLen at hx hy
  obtain ⟨ao, cap, rfl, hc⟩ := hv
  obtain ⟨bo, bcap, rfl, hd⟩ := hu
  rw [ints_length, ints_length]
  obtain ⟨R, hR⟩ : ∃ R, lexC xs ys = R := ⟨_, rfl⟩
  rw [hR]
  have HR : Hid _ := hR
  clear hR
  go_enter Try.func100, Try.ntmps100
  go_wp2
  go_loopw [11] (fun i wr => ∃ k : Nat, k ≤ xs.length ∧ k ≤ ys.length ∧ i = .int .i64 k ∧ lexC (xs.drop k) (ys.drop k) = R ∧ w = wr) (fun i _ => xs.length - (intOf i).toNat)
  case atStart => exact ⟨0, Nat.zero_le _, Nat.zero_le _, rfl, HR.out, rfl⟩
  case round =>
    obtain ⟨k, hkx, hky, rfl, hrr, rfl⟩ := hrel
    have HQ : Hid _ := hrr
    clear hrr
    by_cases hlt : k < xs.length
    · have hlt' : (k : Int) < (xs.length : Int) := by omega
      obtain ⟨g, off, rfl, hg⟩ := hc k (.int .i64 (xs.getD k 0)) (by simp [ints, List.getD, hlt])
      by_cases hlu : k < ys.length
      · have hlu' : ¬ (ys.length : Int) ≤ (k : Int) := by omega
        have hlu2 : (k : Int) < (ys.length : Int) := by omega
        obtain ⟨g2, off2, rfl, hg2⟩ := hd k (.int .i64 (ys.getD k 0)) (by simp [ints, List.getD, hlu])
        have HL : Hid _ := lexC_at hlt hlu
        have hcm := fun W => cmpInt64 (xs.getD k 0) (ys.getD k 0) W
        generalize xs.getD k 0 = x at *
        generalize ys.getD k 0 = y at *
        have hsr := sgn_range x y
        generalize sgn x y = z at *
        clear hc hd
        by_cases hz : z = 0
        · have hz' : (z != 0) = false := by simpa using hz
          have HN : Hid (lexC (xs.drop (k + 1)) (ys.drop (k + 1)) = R) := by
            show _ = R
            have := HL.out
            rw [if_pos hz] at this
            rw [← this]; exact HQ.out
          clear HL
          subst hz
          go_wp2_with (go_at_call 102; refine (hcm _).mono ?_; rintro e w5 ⟨rfl, rfl⟩)
          go_roundw
          case rel => exact ⟨k + 1, by omega, by omega, by go_num, HN.out, by first | trivial | rfl⟩
          case measure => simp [intOf]; omega
        · have hz' : (z != 0) = true := by simpa using hz
          have HN : Hid (z = R) := by
            show z = R
            have := HL.out
            rw [if_neg hz] at this
            rw [← this]; exact HQ.out
          clear HL
          go_wp2_with (go_at_call 102; refine (hcm _).mono ?_; rintro e w5 ⟨rfl, rfl⟩)
          go_ret
          exact ⟨by rw [← HN.out]; rfl, rfl⟩
      · have hlu' : (ys.length : Int) ≤ (k : Int) := by omega
        have HN : Hid (R = 1) := by
          show R = 1
          rw [← HQ.out, List.drop_eq_getElem_cons hlt, List.drop_of_length_le (by omega : ys.length ≤ k)]; rfl
        generalize xs.getD k 0 = x at *
        clear hc hd
        go_wp2
        go_ret
        exact ⟨by rw [HN.out]; rfl, rfl⟩
    · obtain rfl : k = xs.length := by omega
      by_cases hlu : xs.length < ys.length
      · have hlu' : (xs.length : Int) < (ys.length : Int) := by omega
        have HN : Hid (R = -1) := by
          show R = -1
          rw [← HQ.out, List.drop_eq_getElem_cons hlu, List.drop_of_length_le (Nat.le_refl _)]; rfl
        clear hc hd
        go_wp2
        go_ret
        exact ⟨by rw [HN.out]; rfl, rfl⟩
      · have hlu' : ¬ (xs.length : Int) < (ys.length : Int) := by omega
        have HN : Hid (R = 0) := by
          show R = 0
          rw [← HQ.out, List.drop_of_length_le (by omega : ys.length ≤ xs.length), List.drop_of_length_le (Nat.le_refl _)]; rfl
        clear hc hd
        go_wp2
        go_ret
        exact ⟨by rw [HN.out]; rfl, rfl⟩

/-- The first that is not 0. -/
theorem cmpOr (x y : Int) (v : Value) (w : World) (hv : Reads w v [.int .i64 x, .int .i64 y]) :
    Calls Try.prog 98 #[v] w fun e w' => e = .returned (.int .i64 (if x = 0 then y else x)) ∧ w = w' := by
  obtain ⟨ao, cap, rfl, hc⟩ := hv
  obtain ⟨g, off, rfl, h0⟩ := hc 0 _ rfl
  obtain ⟨g', off', e, h1⟩ := hc 1 _ rfl
  simp only [Option.some.injEq, Addr.mk.injEq, and_true] at e
  obtain ⟨rfl, rfl⟩ := e
  rw [Nat.add_zero] at h0
  clear hc
  simp only [List.length_cons, List.length_nil, Nat.zero_add, Nat.reduceAdd]
  by_cases hx : x = 0
  · rw [if_pos hx]
    subst hx
    have hy : (y != 0) = true ∨ y = 0 := by by_cases h : y = 0
                                            · exact .inr h
                                            · exact .inl (by simpa using h)
    rcases hy with hy | rfl
    · go_enter Try.func98, Try.ntmps98
      go_wp2
      refine wp_loop_rounds 3 ?_
      rw [rounds_succ]
      go_wp2
      rw [rounds_succ]
      go_wp2
      go_ret
      exact ⟨rfl, rfl⟩
    · go_enter Try.func98, Try.ntmps98
      go_wp2
      refine wp_loop_rounds 3 ?_
      rw [rounds_succ]
      go_wp2
      rw [rounds_succ]
      go_wp2
      rw [rounds_succ]
      go_wp2
      go_ret
      exact ⟨rfl, rfl⟩
  · rw [if_neg hx]
    have hx' : (x != 0) = true := by simpa using hx
    go_enter Try.func98, Try.ntmps98
    go_wp2
    refine wp_loop_rounds 3 ?_
    rw [rounds_succ]
    go_wp2
    go_ret
    exact ⟨rfl, rfl⟩

theorem two_reads (w : World) (x y : Value) (t : TypeId) : Reads (w.alloc (.cells #[x, y] t)) (.slice (some ⟨w.heap.size, 0, none⟩) 2 2) [x, y] := by
  refine ⟨some ⟨w.heap.size, 0, none⟩, 2, rfl, fun j z hz => ⟨w.heap.size, 0, rfl, ?_⟩⟩
  rw [Nat.zero_add, cell_of_row _ _ j _ t (0, 0) (heap_alloc_new w _)]
  simpa using hz

/-- The cells of visits. -/
def cellsV : List Vis → List Value
  | [] => []
  | x :: L => x.u :: .int .i64 x.set :: cellsV L

theorem cellsV_length : ∀ L : List Vis, (cellsV L).length = L.length * 2
  | [] => rfl
  | x :: L => by simp [cellsV, cellsV_length L]; omega

theorem cellsV_get : ∀ (L : List Vis) (j : Nat), j < L.length → (cellsV L)[j * 2]? = some (L.getD j vis0).u ∧ (cellsV L)[j * 2 + 1]? = some (.int .i64 (L.getD j vis0).set)
  | [], j, h => by simp at h
  | x :: L, 0, _ => by simp [cellsV]
  | x :: L, j + 1, h => by
    have := cellsV_get L j (by simpa using h)
    have e : (j + 1) * 2 = j * 2 + 1 + 1 := by omega
    simp only [e, cellsV, List.getElem?_cons_succ, List.getD_cons_succ]
    exact this

theorem cellsV_append : ∀ (a b : List Vis), cellsV (a ++ b) = cellsV a ++ cellsV b
  | [], b => rfl
  | x :: a, b => by simp [cellsV, cellsV_append a b]

theorem visLen (a : Option Addr) (n c : Nat) (w : World) : Calls Try.prog 95 #[.slice a n c] w fun e w' => e = .returned (.int .i64 n) ∧ w = w' := by
  go_enter Try.func95, Try.ntmps95
  go_wp2
  go_ret
  exact ⟨rfl, rfl⟩

theorem visLess (n cap g i j : Nat) (a b : Value) (xs ys : List Int) (w : World) (hi : i < n) (hj : j < n) (hn : n ≤ maxLen) (ha : w.cell? ⟨g, i * 2, none⟩ = some a) (hb : w.cell? ⟨g, j * 2, none⟩ = some b) (hx : xs.length ≤ maxLen) (hy : ys.length ≤ maxLen) (hv : Reads w a (ints xs)) (hu : Reads w b (ints ys)) :
    Calls Try.prog 96 #[.slice (some ⟨g, 0, none⟩) n cap, .int .i64 i, .int .i64 j] w fun e w' => e = .returned (.bool (wlt xs ys)) ∧ Below w.heap.size w w' := by
  unfold maxLen at hn
  have hi' : (i : Int) < (n : Int) := by omega
  have hj' : (j : Int) < (n : Int) := by omega
  have hi0 : (0 : Int) ≤ (i : Int) := by omega
  have hj0 : (0 : Int) ≤ (j : Int) := by omega
  go_enter Try.func96, Try.ntmps96
  obtain ⟨ao, ac, hae, _⟩ := id hv
  obtain ⟨bo, bc, hbe, _⟩ := id hu
  rw [ints_length] at hae hbe
  unfold maxLen at hx hy
  have hci := fun W => cmpInt (xs.length : Int) (ys.length : Int) W
  have hsc := fun W (hW : Below w.heap.size w W) => slicesCompare xs ys a b W (by unfold maxLen; omega) (by unfold maxLen; omega) (reads_below hv hW) (reads_below hu hW)
  have HW : Hid (wlt xs ys = decide ((if sgn (xs.length : Int) (ys.length : Int) = 0 then lexC xs ys else sgn (xs.length : Int) (ys.length : Int)) < 0)) := by
    show wlt xs ys = _
    unfold wlt sgn
    by_cases h1 : xs.length < ys.length
    · have : (xs.length : Int) < (ys.length : Int) := by omega
      simp [h1]
    · by_cases h2 : ys.length < xs.length
      · have : ¬ xs.length = ys.length := by omega
        simp [h1, h2, this]
      · have : xs.length = ys.length := by omega
        have h := lexC_lt xs ys
        simp [this, ← h]
  have r1 := sgn_range (xs.length : Int) (ys.length : Int)
  have r2 := lexC_range xs ys
  generalize sgn (xs.length : Int) (ys.length : Int) = z1 at *
  generalize lexC xs ys = z2 at *
  clear hv hu
  subst hae hbe
  go_wp2_with fail
  go_region
  have D0 : Below w.heap.size w w.drew := by go_grown
  have hor := cmpOr z1 z2 (.slice (some ⟨w.heap.size, 0, none⟩) 2 2) (w.alloc (.cells #[.int .i64 z1, .int .i64 z2] 3)).drew (reads_below (two_reads w _ _ _) (by go_grown))
  obtain ⟨z3, hz3⟩ : ∃ z3, (if z1 = 0 then z2 else z1) = z3 := ⟨_, rfl⟩
  rw [hz3] at hor HW
  have r3 : -1 ≤ z3 ∧ z3 ≤ 1 := by rw [← hz3]; split <;> omega
  clear hz3
  go_wp2_with (first
    | (go_at_call 99; refine (hci _).mono ?_; rintro e w1 ⟨rfl, rfl⟩)
    | (go_at_call 100; refine (hsc _ D0).mono ?_; rintro e w1 ⟨rfl, rfl⟩)
    | (go_at_call 98; refine hor.mono ?_; rintro e w1 ⟨rfl, rfl⟩))
  go_ret
  refine ⟨by rw [HW.out]; rfl, by go_grown⟩

theorem vis_find (name : String) (f n Wb : Nat) (sv : Value) (w : World) (hf : (Try.prog.info? 94).bind (fun i => (i.methods.find? (·.name == name)).map (fun m => (m.path.toList, m.func))) = some ([], some (f, false)))
    (hc : w.cell? ⟨Wb, 0, none⟩ = some sv) (hs : ∃ a n c, sv = .slice a n c) : (method (n + 1) 94 (.pointer (some ⟨Wb, 0, none⟩)) name).run Try.prog w = .ok (f, sv) w := by
  obtain ⟨sa, sn, sc, rfl⟩ := hs
  obtain ⟨i, hi, hf⟩ := Option.bind_eq_some_iff.1 hf
  obtain ⟨m, hm, hmf⟩ := Option.map_eq_some_iff.1 hf
  simp only [Prod.mk.injEq] at hmf
  obtain ⟨h1, h2⟩ := hmf
  have hw : ∀ (s1 s2 : String), (Builtin.ssaWrapNilChk_ #[94] 94 #[.pointer (some ⟨Wb, 0, none⟩), strVal s1, strVal s2]).run Try.prog w = .ok (.pointer (some ⟨Wb, 0, none⟩)) w := fun _ _ => rfl
  have hp : m.path = #[] := by cases hh : m.path; rw [hh] at h1; simp at h1; rw [h1]
  unfold method
  simp [go_sem, typeInfo, hi, hm, hp, h2, follow, receiverAt, hc, Place.get, hw]

theorem vis_len (n Wb : Nat) (a : Option Addr) (m c : Nat) (w : World) (hc : w.cell? ⟨Wb, 0, none⟩ = some (.slice a m c)) : (method (n + 1) 94 (.pointer (some ⟨Wb, 0, none⟩)) "Len").run Try.prog w = .ok (95, .slice a m c) w :=
  vis_find "Len" _ n Wb _ w (by kernel_rfl) hc ⟨a, m, c, rfl⟩

theorem vis_less (n Wb : Nat) (a : Option Addr) (m c : Nat) (w : World) (hc : w.cell? ⟨Wb, 0, none⟩ = some (.slice a m c)) : (method (n + 1) 94 (.pointer (some ⟨Wb, 0, none⟩)) "Less").run Try.prog w = .ok (96, .slice a m c) w :=
  vis_find "Less" _ n Wb _ w (by kernel_rfl) hc ⟨a, m, c, rfl⟩

theorem vis_swap (n Wb : Nat) (a : Option Addr) (m c : Nat) (w : World) (hc : w.cell? ⟨Wb, 0, none⟩ = some (.slice a m c)) : (method (n + 1) 94 (.pointer (some ⟨Wb, 0, none⟩)) "Swap").run Try.prog w = .ok (97, .slice a m c) w :=
  vis_find "Swap" _ n Wb _ w (by kernel_rfl) hc ⟨a, m, c, rfl⟩

theorem cellsV_set : ∀ (L : List Vis) (i : Nat) (z : Vis), cellsV (L.set i z) = ((cellsV L).set (i * 2) z.u).set (i * 2 + 1) (.int .i64 z.set)
  | [], i, z => by simp [cellsV]
  | x :: L, 0, z => by simp [cellsV]
  | x :: L, i + 1, z => by
    have e : (i + 1) * 2 = i * 2 + 1 + 1 := by omega
    simp only [List.set_cons_succ, cellsV, e, cellsV_set L i z]

/-- A row of visits. -/
abbrev RowV (w : World) (base g cap : Nat) (L : List Vis) : Prop := w.ownsRow base 67 2 (.slice (some ⟨g, 0, none⟩) L.length cap) L.length (cellsV L)

theorem RowV.at {w : World} {base g cap : Nat} {L : List Vis} (h : RowV w base g cap L) {j : Nat} (hj : j < L.length) : w.cell? ⟨g, j * 2, none⟩ = some (L.getD j vis0).u ∧ w.cell? ⟨g, j * 2 + 1, none⟩ = some (.int .i64 (L.getD j vis0).set) := by
  obtain ⟨a, b⟩ := cellsV_get L j hj
  rw [h.cellAt (j * 2) (by omega), h.cellAt (j * 2 + 1) (by omega)]
  exact ⟨a, b⟩

theorem RowV.le {w : World} {base g cap : Nat} {L : List Vis} (h : RowV w base g cap L) : L.length ≤ cap ∧ cap ≤ maxLen ∧ base ≤ g ∧ g < w.heap.size := by
  rcases h.2 with ⟨h, _⟩ | ⟨g', cap', cur, h1, h2, h3, h4, h5, _⟩
  · cases h
  · cases h1
    exact ⟨h4, h5, h2, (Array.getElem?_eq_some_iff.1 h3).1⟩

theorem visSwap (L : List Vis) (base cap g i j : Nat) (w : World) (hi : i < L.length) (hj : j < L.length) (hrow : RowV w base g cap L) (hsl : ∀ x ∈ L, ∃ o m c, x.u = .slice o m c) :
    Calls Try.prog 97 #[.slice (some ⟨g, 0, none⟩) L.length cap, .int .i64 i, .int .i64 j] w fun e w' => (∃ v, e = .returned v) ∧ RowV w' base g cap (swp L i j) ∧ w.grownBy w' (some g) := by
  have hle := hrow.le
  have hn : L.length ≤ 9223372036854775807 := by have := hle.1; have := hle.2.1; unfold maxLen at this; omega
  obtain ⟨ha, ha'⟩ := hrow.at hi
  obtain ⟨hb, hb'⟩ := hrow.at hj
  have h1 := hrow.stored (i * 2) (L.getD j vis0).u
  have h2 := h1.1.stored (i * 2 + 1) (.int .i64 (L.getD j vis0).set)
  have h3 := h2.1.stored (j * 2) (L.getD i vis0).u
  have h4 := h3.1.stored (j * 2 + 1) (.int .i64 (L.getD i vis0).set)
  have hg4 := grown_trans (grown_trans (grown_trans h1.2 h2.2) h3.2) h4.2
  have h4' := h4.1
  rw [← cellsV_set, ← cellsV_set] at h4'
  obtain ⟨z1, k1⟩ := own_cell h2.1 (j * 2) (by omega)
  obtain ⟨z2, k2⟩ := own_cell h2.1 (j * 2 + 1) (by omega)
  have f0 := hrow.frozenAt (i * 2)
  have f1 := hrow.frozenAt (i * 2 + 1)
  have f2 := hrow.frozenAt (j * 2)
  have f3 := hrow.frozenAt (j * 2 + 1)
  have hx4 : (((((w.setCell ⟨g, i * 2, none⟩ (L.getD j vis0).u).setCell ⟨g, i * 2 + 1, none⟩ (.int .i64 (L.getD j vis0).set)).setCell ⟨g, j * 2, none⟩ (L.getD i vis0).u).setCell ⟨g, j * 2 + 1, none⟩ (.int .i64 (L.getD i vis0).set)).ownsRow base 67 2 (.slice (some ⟨g, 0, none⟩) (swp L i j).length cap) (swp L i j).length (cellsV (swp L i j))) := by
    rw [swp_length]
    exact h4'
  have HX : Hid _ := hx4
  clear hx4
  have HG : Hid _ := hg4
  obtain ⟨o1, m1, c1, e1⟩ := hsl (L.getD i vis0) (mem_getD.2 ⟨i, hi, rfl⟩)
  obtain ⟨o2, m2, c2, e2⟩ := hsl (L.getD j vis0) (mem_getD.2 ⟨j, hj, rfl⟩)
  clear h1 h2 h3 h4 h4' hg4 hrow hsl
  rw [e1] at ha HX HG
  rw [e2] at hb k1 k2 HX HG
  clear e1 e2
  generalize (L.getD i vis0).set = x at *
  generalize (L.getD j vis0).set = y at *
  generalize hn' : L.length = n at *
  have hi' : (i : Int) < (n : Int) := by omega
  have hj' : (j : Int) < (n : Int) := by omega
  have hi0 : (0 : Int) ≤ (i : Int) := by omega
  have hj0 : (0 : Int) ≤ (j : Int) := by omega
  clear hn'
  go_enter Try.func97, Try.ntmps97
  go_wp2_with fail
  go_region
  go_wp2
  go_end0
  exact ⟨⟨_, rfl⟩, HX.out, grown_trans HG.out (grown_of_below (Below.drew (Below.refl _ _)) _)⟩

end Go.Proofs.Ytciccbbgamklbaa

/-
  Slices of slices of numbers that the call has made.
-/
namespace Go.Proofs.Ytciccbbgamklbaa
open Go.RowKit
set_option linter.unusedVariables false
set_option maxHeartbeats 1000000

theorem own_same {w w' : World} {base : Nat} {e : TypeId} {s : Nat} {v : Value} {n : Nat} {xs : List Value} (h : w.ownsRow base e s v n xs) (he : ∀ k, v.ownBlock = some k → w'.heap[k]? = w.heap[k]?) : w'.ownsRow base e s v n xs := by
  refine ⟨h.1, ?_⟩
  rcases h.2 with hn | ⟨g, cap, cur, rfl, hbg, hg, r⟩
  · exact .inl hn
  · exact .inr ⟨g, cap, cur, rfl, hbg, (he g rfl).trans hg, r⟩

/-- v holds the slices us, which hold the lists xss; all the call's own, from block base on. -/
structure OwnSS (w : World) (base : Nat) (v : Value) (us : List Value) (xss : List (List Int)) : Prop where
  row : w.ownsRow base 26 1 v xss.length us
  each : ∀ (j : Nat) (u : Value) (xs : List Int), us[j]? = some u → xss[j]? = some xs → w.ownsRow base 2 1 u xs.length (ints xs)

theorem OwnSS.len {w : World} {base : Nat} {v : Value} {us : List Value} {xss : List (List Int)} (h : OwnSS w base v us xss) : us.length = xss.length := by
  have := h.row.1
  omega

theorem OwnSS.inner {w : World} {base : Nat} {v : Value} {us : List Value} {xss : List (List Int)} (h : OwnSS w base v us xss) {u : Value} (hu : u ∈ us) : ∃ xs ∈ xss, w.ownsRow base 2 1 u xs.length (ints xs) := by
  obtain ⟨j, hj⟩ := List.getElem?_of_mem hu
  have hjl : j < xss.length := by rw [← h.len]; exact (List.getElem?_eq_some_iff.1 hj).1
  exact ⟨xss[j], List.getElem_mem hjl, h.each j u xss[j] hj (by simp [hjl])⟩

theorem OwnSS.same {w w' : World} {base : Nat} {v : Value} {us : List Value} {xss : List (List Int)} (h : OwnSS w base v us xss) (h1 : ∀ k, v.ownBlock = some k → w'.heap[k]? = w.heap[k]?) (h2 : ∀ u ∈ us, ∀ k, u.ownBlock = some k → w'.heap[k]? = w.heap[k]?) : OwnSS w' base v us xss :=
  ⟨own_same h.row h1, fun j u xs hj hx => own_same (h.each j u xs hj hx) (h2 u (List.mem_of_getElem? hj))⟩

theorem OwnSS.ltI {w : World} {base : Nat} {v : Value} {us : List Value} {xss : List (List Int)} (h : OwnSS w base v us xss) {u : Value} (hu : u ∈ us) {k : Nat} (hk : u.ownBlock = some k) : base ≤ k ∧ k < w.heap.size := by
  obtain ⟨xs, _, ho⟩ := h.inner hu
  exact ho.lt k hk

theorem OwnSS.below {w w' : World} {base : Nat} {v : Value} {us : List Value} {xss : List (List Int)} (h : OwnSS w base v us xss) (hb : Below w.heap.size w w') : OwnSS w' base v us xss :=
  h.same (fun k hk => hb.block k (h.row.lt k hk).2) (fun u hu k hk => hb.block k (h.ltI hu hk).2)

theorem OwnSS.mono {w : World} {base base' : Nat} {v : Value} {us : List Value} {xss : List (List Int)} (h : OwnSS w base v us xss) (hb : base' ≤ base) : OwnSS w base' v us xss :=
  ⟨own_mono h.row hb, fun j u xs hj hx => own_mono (h.each j u xs hj hx) hb⟩

/-- A row of another kind is another block. -/
theorem row_kind {w : World} {base base' : Nat} {e e' : TypeId} {s s' n n' : Nat} {v v' : Value} {xs xs' : List Value} (h : w.ownsRow base e s v n xs) (h' : w.ownsRow base' e' s' v' n' xs') (hne : e ≠ e') {k : Nat} (hk : v.ownBlock = some k) : v'.ownBlock ≠ some k := by
  intro hk'
  rcases h.2 with ⟨rfl, _⟩ | ⟨g, cap, cur, rfl, _, hg, _⟩
  · simp [Value.ownBlock] at hk
  rcases h'.2 with ⟨rfl, _⟩ | ⟨g', cap', cur', rfl, _, hg', _⟩
  · simp [Value.ownBlock] at hk'
  simp [Value.ownBlock] at hk hk'
  subst hk
  subst hk'
  rw [hg] at hg'
  simp at hg'
  exact hne hg'.2

/-- One list more. -/
theorem OwnSS.appended {w w' : World} {base : Nat} {v v' u : Value} {us : List Value} {xss : List (List Int)} {xs : List Int} (h : OwnSS w base v us xss) (hu : w.ownsRow base 2 1 u xs.length (ints xs))
    (hr : w'.ownsRow base 26 1 v' (xss.length + 1) (us ++ [u])) (hg : w.grownBy w' v.ownBlock) : OwnSS w' base v' (us ++ [u]) (xss ++ [xs]) := by
  refine ⟨by simpa using hr, fun j x ys hj hx => ?_⟩
  have keep : ∀ (x : Value) (ys : List Int), w.ownsRow base 2 1 x ys.length (ints ys) → w'.ownsRow base 2 1 x ys.length (ints ys) := fun x ys ho =>
    own_same ho (fun k hk => hg.block k (ho.lt k hk).2 (fun e => row_kind ho h.row (by decide) hk e.symm))
  have hl := h.len
  by_cases hjl : j < us.length
  · rw [List.getElem?_append_left hjl] at hj
    rw [List.getElem?_append_left (by omega)] at hx
    exact keep x ys (h.each j x ys hj hx)
  · rw [List.getElem?_append_right (by omega)] at hj
    rw [List.getElem?_append_right (by omega)] at hx
    have : j - us.length = 0 := by
      have := (List.getElem?_eq_some_iff.1 hj).1
      simp at this; omega
    rw [this] at hj
    rw [← hl, this] at hx
    simp at hj hx
    subst hj hx
    exact keep u xs hu

/-- A change elsewhere: of a row of slices that is another one. -/
theorem OwnSS.other {w w' : World} {base : Nat} {v : Value} {us : List Value} {xss : List (List Int)} {base2 : Nat} {v2 : Value} {n2 : Nat} {us2 : List Value} (h : OwnSS w base v us xss) (h2 : w.ownsRow base2 26 1 v2 n2 us2) (hg : w.grownBy w' v2.ownBlock) (hne : ∀ k, v.ownBlock = some k → v2.ownBlock ≠ some k) : OwnSS w' base v us xss :=
  h.same (fun k hk => hg.block k (h.row.lt k hk).2 (fun e => hne k hk e.symm)) (fun u hu k hk => by
    obtain ⟨xs, _, ho⟩ := h.inner hu
    exact hg.block k (ho.lt k hk).2 (fun e => row_kind ho h2 (by decide) hk e.symm))

theorem infoSlice : (Try.prog.info? 26).map (fun i => (i.zero, i.size, i.bytes)) = some (some (.slice none 0 0), 1, 24) := by kernel_rfl

theorem made0S (w : World) : OwnSS (w.alloc (.cells #[] 26)) w.heap.size (.slice (some ⟨w.heap.size, 0, none⟩) 0 0) [] [] :=
  ⟨World.ownsRow_made w #[] 0 (Nat.le_refl _) (by decide) (by simp), fun j u xs hj _ => by simp at hj⟩

theorem nilS (w : World) (base : Nat) : OwnSS w base (.slice none 0 0) [] [] := ⟨⟨by simp, .inl ⟨rfl, rfl⟩⟩, fun j u xs hj _ => by simp at hj⟩

/-- The cell of a list in its row. -/
theorem OwnSS.at {w : World} {base g cap : Nat} {us : List Value} {xss : List (List Int)} (h : OwnSS w base (.slice (some ⟨g, 0, none⟩) xss.length cap) us xss) {j : Nat} (hj : j < xss.length) : ∃ u, us[j]? = some u ∧ w.cell? ⟨g, j, none⟩ = some u ∧ w.ownsRow base 2 1 u xss[j].length (ints xss[j]) := by
  have hl := h.len
  refine ⟨us[j]'(by omega), by simp [hl, hj], ?_, h.each j _ _ (by simp [hl, hj]) (by simp [hj])⟩
  rw [h.row.cellAt j (by omega)]
  simp [hl, hj]

end Go.Proofs.Ytciccbbgamklbaa
