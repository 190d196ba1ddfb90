/-
 Put together out of: FactsLawM, Draw, DrawKit.
-/
import Derived.Test.YtdkdhjhhbkcciaaGreatG21PlOwn
import Derived.Test.YtdkdhjhhbkcciaaGreatG27WaysM
import Derived.Test.YtdkdhjhhbkcciaaGreatG29CallsFn
import Derived.Test.YtdkdhjhhbkcciaaGreatG30FindMore
import Derived.Test.YtdkdhjhhbkcciaaGreatImplAsk
import Derived.Test.YtdkdhjhhbkcciaaGreatG00Put
namespace Go.Proofs.YtdkdhjhhbkcciaaGreat
open Go.RowKit
set_option linter.unusedVariables false
set_option linter.unusedSimpArgs false
set_option maxHeartbeats 1000000
theorem bit_high {x : Int} (hx : Small x) {t : Nat} (ht : 7 ≤ t) : bit x t = false := by
 obtain ⟨n, rfl, hn⟩ := small_nat hx
 unfold bit
 rw [Int.toNat_natCast]
 exact Nat.testBit_lt_two_pow (Nat.lt_of_lt_of_le hn (Nat.pow_le_pow_right (by omega) ht))
theorem unit_bit {j : Nat} (hj : j < 7) : bit (unitL.getD j 0) j = true := by
 have : j = 0 ∨ j = 1 ∨ j = 2 ∨ j = 3 ∨ j = 4 ∨ j = 5 ∨ j = 6 := by omega
 rcases this with rfl | rfl | rfl | rfl | rfl | rfl | rfl <;> decide
theorem unit_of {j t : Nat} (h : bit (unitL.getD j 0) t = true) : j < 7 ∧ t = j := by
 by_cases hj : j < 7
 · refine ⟨hj, ?_⟩
   have ht : t < 7 := by
    by_cases ht : t < 7
    · exact ht
    · have : Small (unitL.getD j 0) := unit_smalls.getD j
      rw [bit_high this (by omega)] at h
      cases h
   have h1 : j = 0 ∨ j = 1 ∨ j = 2 ∨ j = 3 ∨ j = 4 ∨ j = 5 ∨ j = 6 := by omega
   have h2 : t = 0 ∨ t = 1 ∨ t = 2 ∨ t = 3 ∨ t = 4 ∨ t = 5 ∨ t = 6 := by omega
   rcases h1 with rfl | rfl | rfl | rfl | rfl | rfl | rfl <;> rcases h2 with rfl | rfl | rfl | rfl | rfl | rfl | rfl <;> first | rfl | (exact absurd h (by decide))
 · rw [getD_out (by show unitL.length ≤ j; simp [unitL]; omega), bit_zero] at h
   cases h
def oneB (j : Nat) : Int := unitL.getD j 0
theorem oneB_small (j : Nat) : Small (oneB j) := unit_smalls.getD j
theorem inner_ways {c : Int} (hc : isCl c = true) {ss : List Stm} (hp : procOk ss = true) {E : Nat → List Int} (hE : ∀ k, k < ss.length → E k = flw c ss k) {R : List (List Int)} (hR : IsInner E ss R) {s : Int} (hs : Small s) {A : List Int} (hA : IsSolved c ss s A) {k : Nat} (hk : k < ss.length) :
 img (R.getD k []) s = A.getD k 0 := by
 have hok : ∀ j, (procOk ss && isCl c && inB (oneB j) 0 127) = true := fun j => by rw [hp, hc, small_in.2 (oneB_small j)]; rfl
 have hB : ∀ j, ∃ B, IsSolved c ss (oneB j) B := fun j => by
  obtain ⟨B, hB⟩ := solvedAns_some c ss (oneB j)
  exact ⟨B, hB.1 (hok j)⟩
 let C : List (List Int) := (List.range ss.length).map (fun k => (List.range 7).map (fun j => (Classical.choose (hB j)).getD k 0))
 have hCg : ∀ i, i < ss.length → ∀ j, j < 7 → (C.getD i []).getD j 0 = (Classical.choose (hB j)).getD i 0 := fun i hi j hj => by
  simp [C, List.getD, hi, hj]
 have hCl : ∀ i, i < ss.length → (C.getD i []).length = 7 := fun i hi => by simp [C, List.getD, hi]
 have hCs : GoodN ss.length C := fun i hi => ⟨hCl i hi, fun x hx => by
  obtain ⟨j, hj, rfl⟩ := List.getElem_of_mem hx
  have h7 := hCl i hi
  have e := hCg i hi j (by omega)
  have e2 : (C.getD i []).getD j 0 = (C.getD i [])[j] := by rw [List.getD_eq_getElem?_getD, List.getElem?_eq_getElem hj]; rfl
  rw [e2] at e
  rw [e]
  exact (Classical.choose_spec (hB j)).2.1 i⟩
 have hfl : ∀ i, i < ss.length → Smalls (flw c ss i) := fun i hi => flw_smalls hp hi
 have hlen0 : 0 < ss.length := by omega
 have hclo : Clo E ss C := by
  refine ⟨fun j t hb => ?_, fun i hi x hx j t hb => ?_⟩
  · obtain ⟨hj, rfl⟩ := unit_of hb
    rw [hCg 0 hlen0 t hj]
    exact ((Classical.choose_spec (hB t)).2.2 0 t hlen0 hj).2 ⟨[0], RW0 ss, rfl, by rw [st0]; exact hb⟩
  · rw [hE i hi] at hb
    obtain ⟨a, ha, h1, h2⟩ := (bit_comp (hCs i hi) (hfl i hi) j t).1 hb
    have hj : j < 7 := by
     by_cases hj : j < 7
     · exact hj
     · rw [getD_out (by rw [hCl i hi]; omega), bit_zero] at h1; cases h1
    have hxl := next_lt hp hi hx
    have ht : t < 7 := by
     by_cases ht : t < 7
     · exact ht
     · rw [bit_high ((hfl i hi).getD a) (by omega)] at h2; cases h2
    rw [hCg i hi j hj] at h1
    obtain ⟨ys, hRW, hl, hbs⟩ := ((Classical.choose_spec (hB j)).2.2 i a hi ha).1 h1
    obtain ⟨x', hx', hxlt⟩ := nextsS_in hp hi x hx
    have hnx : x ∈ nx ss (lastI ys).toNat := by
     rw [hl]
     unfold nx
     simpa [List.getD, hi] using hx
    rw [hCg _ hxl j hj]
    refine ((Classical.choose_spec (hB j)).2.2 _ t hxl ht).2 ⟨ys ++ [x], RW_snoc hp hRW hnx, ?_, ?_⟩
    · have : lastI (ys ++ [x]) = x := by unfold lastI; simp [List.getD]
      rw [this, hx']
      simp
    · rw [st_snoc hRW.1, hl]
      simp only [Int.toNat_natCast]
      exact (bit_img (hfl i hi) _ t).2 ⟨a, ha, hbs, h2⟩
 have hsub := hR.und C hCs hclo
 refine bit_eq (img_small (hR.good k hk) s) (hA.2.1 k) (fun t ht => ⟨fun hb => ?_, fun hb => ?_⟩)
 · obtain ⟨j, hj, h1, h2⟩ := (bit_img (hR.good k hk) s t).1 hb
   have h3 := hsub k hk j t h2
   rw [hCg k hk j hj] at h3
   obtain ⟨ys, hRW, hl, hbs⟩ := ((Classical.choose_spec (hB j)).2.2 k t hk ht).1 h3
   refine (hA.2.2 k t hk ht).2 ⟨ys, hRW, hl, st_mono hp (fun u hu hbu => ?_) hRW t ht hbs⟩
   obtain ⟨_, rfl⟩ := unit_of hbu
   exact h1
 · obtain ⟨ys, hRW, hl, hbs⟩ := (hA.2.2 k t hk ht).1 hb
   have key : ∀ t, t < 7 → bit (st c ss s ys) t = true → bit (img (R.getD (lastI ys).toNat []) s) t = true := by
    refine RW_ind hp (P := fun ys => ∀ t, t < 7 → bit (st c ss s ys) t = true → bit (img (R.getD (lastI ys).toNat []) s) t = true) ?_ ?_ ys.length ys (Nat.le_refl _) hRW
    · intro t ht hb
      rw [st0] at hb
      exact (bit_img (hR.good 0 hlen0) s t).2 ⟨t, ht, hb, hR.clo.1 t t (unit_bit ht)⟩
    · intro zs y hz hy ih t ht hb
      obtain ⟨i, hi, hil⟩ := RW_in hp hz
      rw [st_snoc hz.1, hi] at hb
      simp only [Int.toNat_natCast] at hb
      obtain ⟨a, ha, h1, h2⟩ := (bit_img (hfl i hil) _ t).1 hb
      have h3 := ih a ha h1
      rw [hi] at h3
      simp only [Int.toNat_natCast] at h3
      obtain ⟨j, hj, h4, h5⟩ := (bit_img (hR.good i hil) s a).1 h3
      have hyn : y ∈ nextsS ss[i] i := by
       rw [hi] at hy
       unfold nx at hy
       simpa [List.getD, hil] using hy
      have hyl := next_lt hp hil hyn
      have h6 := hR.clo.2 i hil y hyn j t ((bit_comp (hR.good i hil) (by rw [hE i hil]; exact hfl i hil) j t).2 ⟨a, ha, h5, by rw [hE i hil]; exact h2⟩)
      have hlast : lastI (zs ++ [y]) = y := by unfold lastI; simp [List.getD]
      rw [hlast]
      exact (bit_img (hR.good _ hyl) s t).2 ⟨j, hj, h4, h6⟩
   have := key t ht hbs
   rw [hl] at this
   simpa using this
theorem ent_start {ps : List (List Stm)} {c : Int} (hok : okB ps c = true) {I : Nat → Nat → List Int} {E : List Int} (h : FA ps c I E) (hno : ∀ (h0 : 0 < ps.length), ∀ s ∈ ps[0], s.k ≠ 8) : E.getD 0 0 = startAns c := by
 obtain ⟨_, hc, hp, _⟩ := okB_parts hok
 have h1 := ok_one hok
 have hg : ∀ i, ((List.replicate ps.length (0 : Int)).set 0 (startAns c)).getD i 0 = if i = 0 then startAns c else 0 := fun i => by
  rw [getD_setI (by simp; omega)]
  split
  · rfl
  · rw [List.getD_eq_getElem?_getD, List.getElem?_replicate]; split <;> rfl
 have hlow := h.ent.low ((List.replicate ps.length 0).set 0 (startAns c)) (fun i hi => by
  rw [hg]; split
  · exact start_small hc
  · exact small0) ⟨by rw [hg, if_pos rfl]; exact Sub.refl _, fun i hi k hk h8 => by
  by_cases e : i = 0
  · subst e
    exact absurd h8 (hno hi _ (List.getElem_mem hk))
  · intro t hb
    unfold goesIn at hb
    obtain ⟨a, _, h2, _⟩ := (bit_img (enter_smalls hc) _ t).1 hb
    obtain ⟨b, _, h3, _⟩ := (bit_img (h.inn.good i hi k hk) _ a).1 h2
    rw [hg, if_neg e, bit_zero] at h3
    cases h3⟩ 0 (by omega)
 rw [hg, if_pos rfl] at hlow
 exact sub_eq (h.ent.small 0 (by omega)) (start_small hc) hlow h.ent.clo.1
theorem facts_solved {ps : List (List Stm)} {c : Int} (hok : okB ps c = true) {I : Nat → Nat → List Int} {E : List Int} (h : FA ps c I E) (hcalls : callsAns ps 0 = []) (h0 : 0 < ps.length) {A : List Int} (hA : SolvedAns c ps[0] (startAns c) A) : rowF I E 0 ps[0].length = A := by
 obtain ⟨hpo, hc, hp, _⟩ := okB_parts hok
 have hno : ∀ s ∈ ps[0], s.k ≠ 8 := by
  intro s hs h8
  have hb : hasB ps (0 : Int) = true := by unfold hasB wiB; rw [hpo]; simp; omega
  unfold callsAns at hcalls
  rw [if_pos hb] at hcalls
  have e : ps.getD (0 : Int).toNat [] = ps[0] := by simp [List.getD, h0]
  rw [e] at hcalls
  have := callsOf_any ps[0] s.y
  rw [hcalls] at this
  have h9 : called ps[0] s.y = true := List.any_eq_true.2 ⟨s, hs, by simp [h8]⟩
  rw [h9] at this
  simp at this
 have he := ent_start hok h (fun _ => hno)
 have hcl : isCl c = true := by unfold isCl; simpa using hc
 have hso : IsSolved c ps[0] (startAns c) A := hA.1 (by rw [(hp 0 h0).1, hcl, small_in.2 (start_small hc)]; rfl)
 obtain ⟨T, hT, hR⟩ := h.inn
 obtain ⟨R, hRi, hRe⟩ := hR 0 h0
 refine List.ext_getElem (by simp [rowF, hso.1]) (fun k h1 h2 => ?_)
 have hk : k < ps[0].length := by simpa [rowF] using h1
 have e1 : A[k] = A.getD k 0 := by simp [List.getD, h2]
 rw [e1, ← inner_ways hcl (hp 0 h0).1 (fun k hk => ?_) hRi (start_small hc) hso hk]
 · simp only [rowF, List.getElem_map, List.getElem_range, he, hRe k hk]
 · rw [effN_eq hk, flw_eq hk]
   unfold effL
   rw [if_neg (hno _ (List.getElem_mem hk))]
def PairsOk (Q : Nat → Nat → Prop) (X : List Int) : Prop := ∃ n, X.length = 2 * n ∧ ∀ m, m < n → ∃ a b : Nat, X.getD (2 * m) 0 = a ∧ X.getD (2 * m + 1) 0 = b ∧ Q a b
theorem PairsOk.nil (Q : Nat → Nat → Prop) : PairsOk Q [] := ⟨0, rfl, fun m hm => by omega⟩
theorem PairsOk.append {Q : Nat → Nat → Prop} {X Y : List Int} (h : PairsOk Q X) (k : PairsOk Q Y) : PairsOk Q (X ++ Y) := by
 obtain ⟨n, hn, h⟩ := h
 obtain ⟨n', hn', k⟩ := k
 refine ⟨n + n', by rw [List.length_append]; omega, fun m hm => ?_⟩
 by_cases hl : m < n
 · obtain ⟨a, b, h1, h2, h3⟩ := h m hl
   refine ⟨a, b, ?_, ?_, h3⟩
   · rw [← h1, List.getD_eq_getElem?_getD, List.getD_eq_getElem?_getD, List.getElem?_append_left (by omega)]
   · rw [← h2, List.getD_eq_getElem?_getD, List.getD_eq_getElem?_getD, List.getElem?_append_left (by omega)]
 · obtain ⟨a, b, h1, h2, h3⟩ := k (m - n) (by omega)
   refine ⟨a, b, ?_, ?_, h3⟩
   · rw [← h1, List.getD_eq_getElem?_getD, List.getD_eq_getElem?_getD, List.getElem?_append_right (by omega)]
     congr 2; omega
   · rw [← h2, List.getD_eq_getElem?_getD, List.getD_eq_getElem?_getD, List.getElem?_append_right (by omega)]
     congr 2; omega
theorem PairsOk.one {Q : Nat → Nat → Prop} {a b : Nat} (h : Q a b) : PairsOk Q [(a : Int), (b : Int)] := ⟨1, rfl, fun m hm => by
 have : m = 0 := by omega
 subst this
 exact ⟨a, b, rfl, rfl, h⟩⟩
theorem rowPl_ok (P : Nat → Nat → Bool) (i : Nat) : ∀ k, PairsOk (fun a b => a = i ∧ b < k ∧ P a b = true) (rowPl P i k)
 | 0 => PairsOk.nil _
 | k + 1 => by
  have up : ∀ {X}, PairsOk (fun a b => a = i ∧ b < k ∧ P a b = true) X → PairsOk (fun a b => a = i ∧ b < k + 1 ∧ P a b = true) X := fun ⟨n, hn, h⟩ => ⟨n, hn, fun m hm => by
   obtain ⟨a, b, h1, h2, h3, h4, h5⟩ := h m hm
   exact ⟨a, b, h1, h2, h3, by omega, h5⟩⟩
  unfold rowPl
  refine (up (rowPl_ok P i k)).append ?_
  split
  · rename_i hb
    exact PairsOk.one ⟨rfl, by omega, hb⟩
  · exact PairsOk.nil _
theorem allPl_ok (P : Nat → Nat → Bool) (ps : List (List Stm)) : ∀ i, PairsOk (fun a b => a < i ∧ b < (ps.getD a []).length ∧ P a b = true) (allPl P ps i)
 | 0 => PairsOk.nil _
 | i + 1 => by
  have up : ∀ {X}, PairsOk (fun a b => a < i ∧ b < (ps.getD a []).length ∧ P a b = true) X → PairsOk (fun a b => a < i + 1 ∧ b < (ps.getD a []).length ∧ P a b = true) X := fun ⟨n, hn, h⟩ => ⟨n, hn, fun m hm => by
   obtain ⟨a, b, h1, h2, h3, h4, h5⟩ := h m hm
   exact ⟨a, b, h1, h2, by omega, h4, h5⟩⟩
  have up2 : ∀ {X}, PairsOk (fun a b => a = i ∧ b < (ps.getD i []).length ∧ P a b = true) X → PairsOk (fun a b => a < i + 1 ∧ b < (ps.getD a []).length ∧ P a b = true) X := fun ⟨n, hn, h⟩ => ⟨n, hn, fun m hm => by
   obtain ⟨a, b, h1, h2, h3, h4, h5⟩ := h m hm
   subst h3
   exact ⟨a, b, h1, h2, by omega, h4, h5⟩⟩
  unfold allPl
  exact (up (allPl_ok P ps i)).append (up2 (rowPl_ok P i _))
theorem kind6 {k x y : Int} (h : stmtOk k x y = true) (h6 : k = 6) : 0 ≤ x ∧ x ≤ 5 := by
 subst h6
 unfold stmtOk at h
 simp [inB, wiB] at h
 omega
theorem factL_at {ps : List (List Stm)} {I : Nat → Nat → List Int} {E : List Int} {i k : Nat} (hi : i < ps.length) (hk : k < ps[i].length) : ((factL ps I E).getD i []).getD k 0 = img (I i k) (E.getD i 0) ∧ ((factL ps I E).getD i []).length = ps[i].length := by
 have e : (factL ps I E).getD i [] = rowF I E i ps[i].length := by rw [List.getD_eq_getElem?_getD, factL_get hi]; rfl
 rw [e]
 exact ⟨by simp [rowF, List.getD, hk], by simp [rowF]⟩
theorem ask_at {A : List (List Int)} {i k x : Nat} (hi : i < A.length) (hk : k < (A.getD i []).length) (h1 : 1 ≤ x) (h6 : x ≤ 6) : askAns A (i : Int) (k : Int) (x : Int) = bit ((A.getD i []).getD k 0) x := by
 unfold askAns
 rw [Int.toNat_natCast, Int.toNat_natCast, Int.toNat_natCast, decide_eq_true ⟨by omega, by omega, by omega, by omega, by omega, by omega⟩]
 rfl
structure FactF (ps : List (List Stm)) (c : Int) (A : List (List Int)) (T : List Int) (A1 : List (List Int)) (X : List Int) : Prop where
 ok : okB ps c = true
 len : A.length = ps.length
 row : ∀ i (hi : i < ps.length), (A.getD i []).length = ps[i].length
 small : ∀ i k, i < A.length → k < (A.getD i []).length → Small ((A.getD i []).getD k 0)
 tests : PairsOk (fun a b => ∃ ss s, ps[a]? = some ss ∧ ss[b]? = some s ∧ s.k = 6 ∧ 0 ≤ s.x ∧ s.x ≤ 5 ∧ askAns A (a : Int) (b : Int) (s.x + 1) = true) T
 now : PairsOk (fun a b => a < A1.length ∧ b < (A1.getD a []).length ∧ (A1.getD a []).getD b 0 = 0 ∧ ¬ (a = 0 ∧ b = 0)) X
 solved : callsAns ps 0 = [] → ∀ ss, ps[0]? = some ss → ∀ S, SolvedAns c ss (startAns c) S → A.getD 0 [] = S
theorem facts_asked (ps : List (List Stm)) (c : Int) : ∃ (A : List (List Int)) (T EN : List Int) (A1 : List (List Int)) (X : List Int), FactA ps c A ∧ PlA ps c testF T ∧ EntA ps c EN ∧ FactA ps 1 A1 ∧ PlA ps 1 nowF X ∧ (A.length = 0 → T.length = 0 ∧ EN.length = 0) ∧ (0 < A.length → FactF ps c A T A1 X) := by
 cases hok : okB ps c with
 | false =>
  obtain ⟨A1, hA1⟩ := factA_some ps 1
  obtain ⟨X, hX⟩ := plA_some ps 1 nowF
  exact ⟨[], [], [], A1, X, ⟨by simp [hok], fun _ => rfl⟩, ⟨by simp [hok], fun _ => rfl⟩, ⟨by simp [hok], fun _ => rfl⟩, hA1, hX, fun _ => ⟨rfl, rfl⟩, fun h => by simp at h⟩
 | true =>
  obtain ⟨hpo, hc, hp, h4⟩ := okB_parts hok
  have hp1 := ok_one hok
  have hok1 : okB ps 1 = true := by simp [okB, hpo]
  obtain ⟨I, E, hF⟩ := fa_some hok
  obtain ⟨I1, E1, hF1⟩ := fa_some hok1
  have hl : (factL ps I E).length = ps.length := by simp [factL]
  have hl1 : (factL ps I1 E1).length = ps.length := by simp [factL]
  refine ⟨factL ps I E, allPl (selP ps testF I E) ps ps.length, E, factL ps I1 E1, allPl (selP ps nowF I1 E1) ps ps.length, ⟨fun _ => ⟨I, E, hF, rfl⟩, by simp [hok]⟩, ⟨fun _ => ⟨I, E, hF, rfl⟩, by simp [hok]⟩, ⟨fun _ => ⟨I, hF⟩, by simp [hok]⟩, ⟨fun _ => ⟨I1, E1, hF1, rfl⟩, by simp [hok1]⟩, ⟨fun _ => ⟨I1, E1, hF1, rfl⟩, by simp [hok1]⟩, fun h0 => by omega, fun _ => ?_⟩
  refine ⟨hok, hl, fun i hi => ?_, fun i k hi hk => ?_, ?_, ?_, fun hcl ss hss S hS => ?_⟩
  · rw [List.getD_eq_getElem?_getD, factL_get hi]; simp [rowF]
  · have hi' : i < ps.length := by omega
    have hk' : k < ps[i].length := by
     rw [List.getD_eq_getElem?_getD, factL_get hi'] at hk
     simpa [rowF] using hk
    rw [(factL_at hi' hk').1]
    exact img_small (hF.inn.good i hi' k hk') _
  · obtain ⟨n, hn, h⟩ := allPl_ok (selP ps testF I E) ps ps.length
    refine ⟨n, hn, fun m hm => ?_⟩
    obtain ⟨a, b, h1, h2, h3, h5, h6⟩ := h m hm
    have eg : ps.getD a [] = ps[a] := by simp [List.getD, h3]
    rw [eg] at h5
    unfold selP testF at h6
    rw [eg] at h6
    have es : ps[a].getD b ⟨0, 0, 0⟩ = ps[a][b] := by simp [List.getD, h5]
    rw [es] at h6
    simp only [Bool.and_eq_true, decide_eq_true_eq] at h6
    obtain ⟨hk6, hbt⟩ := h6
    obtain ⟨hx0, hx5⟩ := kind6 ((hp a h3).2 _ (List.getElem_mem h5)).1 hk6
    refine ⟨a, b, h1, h2, ps[a], ps[a][b], by simp [h3], by simp [h5], hk6, hx0, hx5, ?_⟩
    obtain ⟨f1, f2⟩ := factL_at (I := I) (E := E) h3 h5
    have ex : ps[a][b].x + 1 = (((ps[a][b].x + 1).toNat : Nat) : Int) := by omega
    rw [ex, ask_at (by omega) (by rw [f2]; exact h5) (by omega) (by omega), f1]
    exact hbt
  · obtain ⟨n, hn, h⟩ := allPl_ok (selP ps nowF I1 E1) ps ps.length
    refine ⟨n, hn, fun m hm => ?_⟩
    obtain ⟨a, b, h1, h2, h3, h5, h6⟩ := h m hm
    have eg : ps.getD a [] = ps[a] := by simp [List.getD, h3]
    rw [eg] at h5
    unfold selP nowF at h6
    simp only [decide_eq_true_eq] at h6
    obtain ⟨f1, f2⟩ := factL_at (I := I1) (E := E1) h3 h5
    refine ⟨a, b, h1, h2, by omega, by rw [f2]; exact h5, by rw [f1]; exact h6, ?_⟩
    rintro ⟨rfl, rfl⟩
    obtain ⟨T1, _, hR⟩ := hF1.inn
    obtain ⟨R, hRi, hRe⟩ := hR 0 h3
    rw [hRe 0 h5] at h6
    have hst : bit (startAns 1) 0 = true := by decide
    have h7 := hF1.ent.clo.1 0 hst
    have h8 : bit (img (R.getD 0 []) (E1.getD 0 0)) 0 = true := (bit_img (hRi.good 0 h5) _ 0).2 ⟨0, by omega, h7, hRi.clo.1 0 0 (unit_bit (by omega))⟩
    rw [h6, bit_zero] at h8
    cases h8
  · have h0 : 0 < ps.length := by omega
    have e0 : ss = ps[0] := by simpa [h0] using hss.symm
    subst e0
    have := facts_solved hok hF hcl h0 hS
    rw [List.getD_eq_getElem?_getD, factL_get h0]
    exact this
theorem plA_lenF {ps : List (List Stm)} {c : Int} {F : Stm → Int → Bool} {X : List Int} (h : PlA ps c F X) : ∃ n, X.length = 2 * n ∧ n ≤ 1000 := by
 cases hok : okB ps c with
 | false => rw [h.2 hok]; exact ⟨0, rfl, by omega⟩
 | true =>
  obtain ⟨I, E, _, rfl⟩ := h.1 hok
  obtain ⟨_, _, hp, h4⟩ := okB_parts hok
  obtain ⟨n, h1, h2⟩ := allPl_len (selP ps F I E) (fun i hi => (procOk_parts (hp i hi).1).2.1) ps.length (Nat.le_refl _)
  have h9 : 12 * ps.length ≤ 48 := by omega
  exact ⟨n, h1, by omega⟩
end Go.Proofs.YtdkdhjhhbkcciaaGreat
namespace Go.Proofs.YtdkdhjhhbkcciaaGreat
open Go.RowKit
set_option linter.unusedVariables false
set_option maxHeartbeats 4000000
def Cur (w : World) (g : Nat) (bs : List Int) : Prop :=
 ∃ ao cap, ∃ i : Nat, ∃ h : Int, w.heap[g]? = some (.cells #[.slice ao bs.length cap, .int .i64 i, .int .i64 h] 100 (0, 0)) ∧ i ≤ bs.length ∧
  ∀ j x, bs[j]? = some x → ∃ gg off, ao = some ⟨gg, off, none⟩ ∧ gg < g ∧ w.cell? ⟨gg, off + j, none⟩ = some (.int .u8 x)
theorem three_cells {w : World} {b : Nat} {x y z : Value} {t : TypeId} (h : w.heap[b]? = some (.cells #[x, y, z] t (0, 0))) :
 w.cell? ⟨b, 0, none⟩ = some x ∧ w.cell? ⟨b, 1, none⟩ = some y ∧ w.cell? ⟨b, 2, none⟩ = some z ∧ w.frozen? ⟨b, 0, none⟩ = false ∧ w.frozen? ⟨b, 1, none⟩ = false ∧ w.frozen? ⟨b, 2, none⟩ = false := by
 refine ⟨?_, ?_, ?_, ?_, ?_, ?_⟩ <;> simp [World.cell?, World.frozen?, h]
theorem and255 (y : Int) : 0 ≤ bits .and .i64 y 255 ∧ bits .and .i64 y 255 ≤ 255 := by
 have h : (BitVec.ofInt 64 y &&& BitVec.ofInt 64 255).toNat ≤ 255 := by
  rw [BitVec.toNat_and]
  have : (BitVec.ofInt 64 255).toNat = 255 := by decide
  rw [this]
  exact Nat.and_le_right
 show 0 ≤ IntKind.i64.wrap ((BitVec.ofInt 64 y &&& BitVec.ofInt 64 255).toNat : Int) ∧ IntKind.i64.wrap ((BitVec.ofInt 64 y &&& BitVec.ofInt 64 255).toNat : Int) ≤ 255
 generalize (BitVec.ofInt 64 y &&& BitVec.ofInt 64 255).toNat = n at h
 simp [IntKind.wrap, IntKind.bits, IntKind.signed]
 omega
theorem cur_grown {w w' : World} {g : Nat} {bs : List Int} {row : Option Nat} (h : Cur w g bs) (hg : w.grownBy w' row) (hr : ∀ k, row = some k → g < k) : Cur w' g bs := by
 obtain ⟨ao, cap, i, h, hh, hi, hc⟩ := h
 refine ⟨ao, cap, i, h, ?_, hi, fun j x hx => ?_⟩
 · rw [hg.block g (Array.getElem?_eq_some_iff.1 hh).1 (fun e => by have := hr g e.symm; omega)]; exact hh
 · obtain ⟨gg, off, h1, h2, h3⟩ := hc j x hx
   exact ⟨gg, off, h1, h2, hg.cell h3 (fun e => by have h4 : g < gg := hr gg e.symm; omega)⟩
theorem cur_below {w w' : World} {g : Nat} {bs : List Int} (h : Cur w g bs) (hb : Below w.heap.size w w') : Cur w' g bs :=
 cur_grown h (grown_of_below hb none) (by simp)
theorem set3_2 {w : World} {b : Nat} {x y z : Value} {t : TypeId} (h : w.heap[b]? = some (.cells #[x, y, z] t (0, 0))) (u : Value) : (w.setCell ⟨b, 2, none⟩ u).heap[b]? = some (.cells #[x, y, u] t (0, 0)) := by
 have := heap_setCell_same w b 2 _ t u h
 simpa using this
theorem set3_1 {w : World} {b : Nat} {x y z : Value} {t : TypeId} (h : w.heap[b]? = some (.cells #[x, y, z] t (0, 0))) (u : Value) : (w.setCell ⟨b, 1, none⟩ u).heap[b]? = some (.cells #[x, u, z] t (0, 0)) := by
 have := heap_setCell_same w b 1 _ t u h
 simpa using this
theorem grown_setCell (w : World) (b o : Nat) (u : Value) : w.grownBy (w.setCell ⟨b, o, none⟩ u) (some b) :=
 ⟨rfl, rfl, rfl, by simp, fun k _ hk => Below.heap_setCell _ _ _ _ (fun e => hk (by simp [e]))⟩
theorem grown_drewN {w w' : World} {row : Option Nat} (h : w.grownBy w' row) (n : Nat) : w.grownBy (w'.drewN n) row := ⟨h.os, h.tape, h.output, h.size, h.block⟩
theorem cur_of {w w1 : World} {g : Nat} {bs : List Int} {ao : Option Addr} {cap i i' : Nat} {h h' : Int}
 (_ : w.heap[g]? = some (.cells #[.slice ao bs.length cap, .int .i64 i, .int .i64 h] 100 (0, 0))) (hh : w1.heap[g]? = some (.cells #[.slice ao bs.length cap, .int .i64 i', .int .i64 h'] 100 (0, 0))) (hi : i' ≤ bs.length)
 (hc : ∀ j x, bs[j]? = some x → ∃ gg off, ao = some ⟨gg, off, none⟩ ∧ gg < g ∧ w.cell? ⟨gg, off + j, none⟩ = some (.int .u8 x)) (hg : w.grownBy w1 (some g)) (n : Nat) : Cur (w1.drewN n) g bs := by
 refine ⟨ao, cap, i', h', hh, hi, fun j x hx => ?_⟩
 obtain ⟨gg, off, h1, h2, h3⟩ := hc j x hx
 exact ⟨gg, off, h1, h2, hg.cell h3 (by simp; omega)⟩
theorem l1Byte (g : Nat) (bs : List Int) (w : World) (hl : bs.length ≤ 1048576) (hc : Cur w g bs) :
 Calls Tryz.prog 85 #[.pointer (some ⟨g, 0, none⟩)] w fun e w' => ∃ x : Int, e = .returned (.int .i64 x) ∧ 0 ≤ x ∧ x ≤ 255 ∧ Cur w' g bs ∧ w.grownBy w' (some g) := by
 obtain ⟨ao, cap, i, h, hh, hi, hcell⟩ := hc
 obtain ⟨c0, c1, c2, f0, f1, f2⟩ := three_cells hh
 have HH : Hid _ := hh
 clear hh
 by_cases hlt : i < bs.length
 · have HC : Hid (∀ j x, bs[j]? = some x → ∃ gg off, ao = some ⟨gg, off, none⟩ ∧ gg < g ∧ w.cell? ⟨gg, off + j, none⟩ = some (.int .u8 x)) := hcell
   obtain ⟨gg, off, rfl, hne, hx⟩ := hcell i bs[i] (by simp [hlt])
   clear hcell
   have hlt' : (i : Int) < (bs.length : Int) := by omega
   go_enter Tryz.func85, Tryz.ntmps85
   go_wp2
   generalize wrap64 (wrap64 (h * _) + _) = H
   have k1 := set3_2 HH.out (.int .i64 H)
   have gr1 := grown_setCell w g 2 (.int .i64 H)
   generalize w.setCell ⟨g, 2, none⟩ (.int .i64 H) = w1 at k1 gr1 ⊢
   clear c0 c1 c2 f0 f1 f2
   obtain ⟨c0, c1, c2, f0, f1, f2⟩ := three_cells k1
   have hx1 : w1.cell? ⟨gg, off + i, none⟩ = _ := gr1.cell hx (by simp; omega)
   have K1 : Hid _ := k1
   have GR1 : Hid _ := gr1
   clear k1 gr1 hx
   go_quiet (fail)
   go_wp2
   go_quiet (fail)
   go_wp2
   go_quiet (fail)
   go_wp2
   go_ret
   have gr2 : ∀ n, w.grownBy ((w1.drewN n).setCell ⟨g, 1, none⟩ (.int .i64 ((i : Int) + 1))) (some g) := fun n => grown_trans (grown_drewN GR1.out n) (grown_setCell _ g 1 _)
   refine ⟨_, rfl, (and255 _).1, (and255 _).2, ?_, gr2 _⟩
   exact cur_of (i' := i + 1) HH.out (set3_1 (w := w1.drewN _) K1.out _) (by omega) HC.out (gr2 _) 0
 · go_enter Tryz.func85, Tryz.ntmps85
   go_wp2
   generalize wrap64 (wrap64 (h * _) + _) = H
   have k1 := set3_2 HH.out (.int .i64 H)
   have gr1 := grown_setCell w g 2 (.int .i64 H)
   generalize w.setCell ⟨g, 2, none⟩ (.int .i64 H) = w1 at k1 gr1 ⊢
   clear c0 c1 c2 f0 f1 f2
   obtain ⟨c0, c1, c2, f0, f1, f2⟩ := three_cells k1
   have K1 : Hid _ := k1
   have GR1 : Hid _ := gr1
   have HC : Hid (∀ j x, bs[j]? = some x → ∃ gg off, ao = some ⟨gg, off, none⟩ ∧ gg < g ∧ w.cell? ⟨gg, off + j, none⟩ = some (.int .u8 x)) := hcell
   clear k1 gr1 hcell
   go_quiet (fail)
   go_wp2
   go_quiet (fail)
   go_wp2
   go_ret
   refine ⟨_, rfl, (and255 _).1, (and255 _).2, ?_, grown_drewN (grown_drewN GR1.out _) _⟩
   exact cur_of (w1 := w1.drewN _) HH.out K1.out hi HC.out (grown_drewN GR1.out _) _
theorem rem_range (x n : Int) (h0 : 0 ≤ x) (hn : 0 < n) : 0 ≤ x % n ∧ x % n < n := ⟨Int.emod_nonneg _ (by omega), Int.emod_lt_of_pos _ hn⟩
theorem l1Below (g : Nat) (bs : List Int) (n : Int) (hn : n ≤ 4294967296) (w : World) (hl : bs.length ≤ 1048576) (hc : Cur w g bs) :
 Calls Tryz.prog 54 #[.pointer (some ⟨g, 0, none⟩), .int .i64 n] w fun e w' => ∃ x : Int, e = .returned (.int .i64 x) ∧ 0 ≤ x ∧ (0 < n → x < n) ∧ (n ≤ 0 → x = 0) ∧ Cur w' g bs ∧ w.grownBy w' (some g) := by
 by_cases h0 : n ≤ 0
 · go_enter Tryz.func54, Tryz.ntmps54
   go_wp2
   go_ret
   exact ⟨0, rfl, by omega, by omega, by omega, hc, World.grownBy.refl _ _⟩
 · have hn0 : (n == 0) = false := by simp; omega
   by_cases h1 : n ≤ 256
   · go_enter Tryz.func54, Tryz.ntmps54
     go_wp2_with (go_at_call 85; refine (l1Byte g bs _ hl hc).mono ?_; rintro e w1 ⟨x, rfl, hx0, hx1, hc1, hg1⟩)
     go_ret
     have := rem_range x n hx0 (by omega)
     exact ⟨_, rfl, this.1, fun _ => this.2, by omega, hc1, hg1⟩
   · go_enter Tryz.func54, Tryz.ntmps54
     go_wp2_with fail
     go_at_call 85
     refine (l1Byte g bs _ hl hc).mono ?_
     rintro e w1 ⟨x, rfl, hx0, hx1, hc1, hg1⟩
     go_wp2_with fail
     go_at_call 85
     refine (l1Byte g bs _ hl hc1).mono ?_
     rintro e w2 ⟨y, rfl, hy0, hy1, hc2, hg2⟩
     go_wp2_with fail
     go_at_call 85
     refine (l1Byte g bs _ hl hc2).mono ?_
     rintro e w3 ⟨z, rfl, hz0, hz1, hc3, hg3⟩
     go_wp2_with fail
     go_at_call 85
     refine (l1Byte g bs _ hl hc3).mono ?_
     rintro e w4 ⟨u, rfl, hu0, hu1, hc4, hg4⟩
     go_wp2
     go_ret
     have := rem_range (x * 16777216 + y * 65536 + z * 256 + u) n (by omega) (by omega)
     exact ⟨_, rfl, this.1, fun _ => this.2, by omega, hc4, grown_trans hg1 (grown_trans hg2 (grown_trans hg3 hg4))⟩
theorem l1Once (g : Nat) (bs : List Int) (n : Int) (hn : n ≤ 4294967296) (w : World) (hl : bs.length ≤ 1048576) (hc : Cur w g bs) :
 Calls Tryz.prog 53 #[.pointer (some ⟨g, 0, none⟩), .int .i64 n] w fun e w' => ∃ b : Bool, e = .returned (.bool b) ∧ Cur w' g bs ∧ w.grownBy w' (some g) := by
 go_enter Tryz.func53, Tryz.ntmps53
 go_wp2_with (go_at_call 54; refine (l1Below g bs n hn _ hl hc).mono ?_; rintro e w1 ⟨x, rfl, hx0, hx1, hx2, hc1, hg1⟩)
 go_ret
 exact ⟨_, rfl, hc1, hg1⟩
theorem l1New (bs : List Int) (v : Value) (w : World) (hl : bs.length ≤ 1048576) (hv : Reads w v (bs.map (Value.int .u8))) :
 Calls Tryz.prog 26 #[v] w fun e w' => ∃ g, e = .returned (.pointer (some ⟨g, 0, none⟩)) ∧ w.heap.size ≤ g ∧ Cur w' g bs ∧ Below w.heap.size w w' := by
 obtain ⟨ao, cap, rfl, hc⟩ := hv
 simp only [List.length_map]
 go_enter Tryz.func26, Tryz.ntmps26
 go_wp2
 go_loopw [3, 4] (fun q i wr => ∃ k : Nat, k ≤ bs.length ∧ i = .int .i64 k ∧ (∃ h : Int, q = .int .i64 h) ∧ Below w.heap.size w wr) (fun _ i _ => bs.length - (intOf i).toNat)
 case atStart => exact ⟨0, Nat.zero_le _, rfl, ⟨_, rfl⟩, Below.refl _ _⟩
 case round =>
  obtain ⟨k, hk, rfl, ⟨h, rfl⟩, hb⟩ := hrel
  by_cases hlt : k < bs.length
  · obtain ⟨g, off, rfl, hg⟩ := hc k (.int .u8 bs[k]) (by simp [hlt])
    have hg := (hb.cell (World.block_lt_of_cell? w _ hg)).trans hg
    have hlt' : (k : Int) < (bs.length : Int) := by omega
    clear hc
    go_wp2
    go_roundw
    case rel => exact ⟨k + 1, by omega, by go_num, ⟨_, rfl⟩, hb⟩
    case measure => simp [intOf]; omega
  · go_wp2
    go_ret
    have hs := hb.size
    refine ⟨_, rfl, hs, ?_, hb.alloc hs _⟩
    refine ⟨ao, cap, 0, h, heap_alloc_new wr _, Nat.zero_le _, fun j x hx => ?_⟩
    obtain ⟨gg, off, h1, h2⟩ := hc j (.int .u8 x) (by simp [hx])
    have hlt := World.block_lt_of_cell? w _ h2
    refine ⟨gg, off, h1, by have : gg < w.heap.size := hlt; omega, ?_⟩
    rw [World.cell?_alloc_lt (h := by have : gg < w.heap.size := hlt; show gg < wr.heap.size; omega)]
    exact (hb.cell hlt).trans h2
end Go.Proofs.YtdkdhjhhbkcciaaGreat
namespace Go.Proofs.YtdkdhjhhbkcciaaGreat
open Go.RowKit
set_option linter.unusedVariables false
theorem curLt {w : World} {g : Nat} {bs : List Int} (h : Cur w g bs) : g < w.heap.size := by
 obtain ⟨ao, cap, i, h, hh, _⟩ := h
 exact (Array.getElem?_eq_some_iff.1 hh).1
theorem curAlloc {w : World} {g : Nat} {bs : List Int} (h : Cur w g bs) (o : Obj) : Cur (w.alloc o) g bs := cur_below h (Below.alloc (Below.refl _ _) (Nat.le_refl _) o)
theorem grownAlloc {a w : World} {row : Option Nat} (h : a.grownBy w row) (o : Obj) : a.grownBy (w.alloc o) row := grown_trans h (World.grownBy_alloc w o row)
theorem grownSet {a w : World} {row : Option Nat} (h : a.grownBy w row) {b o : Nat} (hb : a.heap.size ≤ b) (u : Value) : a.grownBy (w.setCell ⟨b, o, none⟩ u) row :=
 ⟨h.os, h.tape, h.output, by simpa [World.setCell] using h.size, fun k hk hr => (Below.heap_setCell _ _ _ _ (by simp; omega)).trans (h.block k hk hr)⟩
theorem blockGrown {wr wr' : World} {g b : Nat} {o : Obj} (h : wr.heap[b]? = some o) (hg : wr.grownBy wr' (some g)) (hb : g < b) : wr'.heap[b]? = some o := by
 rw [hg.block b (Array.getElem?_eq_some_iff.1 h).1 (by simp; omega)]; exact h
theorem curSet {w : World} {g : Nat} {bs : List Int} (h : Cur w g bs) {b o : Nat} (hb : g < b) (u : Value) : Cur (w.setCell ⟨b, o, none⟩ u) g bs :=
 cur_grown h (grown_setCell w b o u) (by simp; omega)
theorem threeCells {w : World} {b : Nat} {x0 x1 x2 : Value} {T : TypeId} (h : w.heap[b]? = some (.cells #[x0, x1, x2] T (0, 0))) :
 w.cell? ⟨b, 0, none⟩ = some x0 ∧ w.cell? ⟨b, 1, none⟩ = some x1 ∧ w.cell? ⟨b, 2, none⟩ = some x2 ∧
  w.frozen? ⟨b, 0, none⟩ = false ∧ w.frozen? ⟨b, 1, none⟩ = false ∧ w.frozen? ⟨b, 2, none⟩ = false := by
 refine ⟨?_, ?_, ?_, ?_, ?_, ?_⟩ <;> simp [World.cell?, World.frozen?, h]
theorem threeSet {w : World} {b : Nat} {p0 p1 p2 : Value} {t : TypeId} (h : w.heap[b]? = some (.cells #[p0, p1, p2] t (0, 0))) (x0 x1 x2 : Value) :
 (((w.setCell ⟨b, 0, none⟩ x0).setCell ⟨b, 1, none⟩ x1).setCell ⟨b, 2, none⟩ x2).heap[b]? = some (.cells #[x0, x1, x2] t (0, 0)) := by
 have h1 := heap_setCell_same w b 0 _ t x0 h
 have h2 := heap_setCell_same _ b 1 _ t x1 h1
 have h3 := heap_setCell_same _ b 2 _ t x2 h2
 simpa using h3
end Go.Proofs.YtdkdhjhhbkcciaaGreat
