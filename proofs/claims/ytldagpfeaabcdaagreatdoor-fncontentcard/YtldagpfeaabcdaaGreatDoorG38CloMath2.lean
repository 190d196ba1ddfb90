/-
 Put together out of: CloMath, CloMath2.
-/
import Derived.Test.YtldagpfeaabcdaaGreatDoorReach9M
namespace Go.Proofs.YtldagpfeaabcdaaGreatDoor
open Go.RowKit
set_option linter.unusedVariables false
set_option linter.unusedSimpArgs false
set_option maxHeartbeats 1000000
theorem ren14_k (R : List Int) (s : Stm) : (je5 R s).k = s.k := by unfold je5; split <;> rfl
theorem qg7 (R : List Int) (s : Stm) (i : Int) : jj0 (je5 R s) i = jj0 s i := by
 unfold je5
 split
 · rename_i h
   unfold jj0
   simp [h]
 · rfl
theorem jg3 (ps : List (List Stm)) (R : List Int) : (jf7 ps R).length = R.length := by simp [jf7]
theorem jx5 (ps : List (List Stm)) (R : List Int) {j : Nat} (hj : j < R.length) (hq : j < (jf7 ps R).length) : (jf7 ps R)[j] = (ps.getD R[j].toNat []).map (je5 R) := by simp [jf7]
theorem Ord14.at {ps : List (List Stm)} {R : List Int} (h : Ord14 ps R) {j : Nat} (hj : j < R.length) : ∃ hp : R[j].toNat < ps.length, ps.getD R[j].toNat [] = ps[R[j].toNat] := by
 obtain ⟨h0, h1⟩ := h.o.inn R[j] (List.getElem_mem hj)
 exact jv5 h0 h1
theorem stmtOk_ren {R : List Int} {s : Stm} (h : jd7 s.k s.x s.y = true) (h4 : R.length ≤ 4) (hy : s.k = 8 → s.y ∈ R) : jd7 (je5 R s).k (je5 R s).x (je5 R s).y = true := by
 unfold je5
 split
 · rename_i h8
   have h9 := jj9 (hy h8)
   obtain ⟨k, x, y⟩ := s
   simp only at h8 h9 h ⊢
   subst h8
   have hx : x = 0 := by
    unfold jd7 at h
    simp [inB] at h
    omega
   unfold jd7
   simp [inB]
   omega
 · exact h
theorem clo14_ok {ps : List (List Stm)} {R : List Int} (hok : ja5 ps = true) (h : Ord14 ps R) (h1 : 1 ≤ R.length) : ja5 (jf7 ps R) = true := by
 obtain ⟨hp4, _, hpr⟩ := jc1 hok
 have hR4 : R.length ≤ 4 := by have := h.o.len; omega
 unfold ja5
 simp only [Bool.and_eq_true, List.all_eq_true, decide_eq_true_eq]
 refine ⟨⟨by rw [jg3]; exact h1, by rw [jg3]; exact hR4⟩, fun q hq => ?_⟩
 obtain ⟨t, ht, rfl⟩ := List.mem_map.1 hq
 obtain ⟨j, hj, rfl⟩ := List.getElem_of_mem ht
 obtain ⟨hpl, e⟩ := h.at hj
 rw [e]
 have hcan := canP_of hok R[j].toNat hpl
 have hcl : ∀ s ∈ ps[R[j].toNat], s.k = 8 → s.y ∈ R := fun s hs h8 => h.cl R[j] (List.getElem_mem hj) s (by rw [e]; exact hs) h8
 have hpo := hcan.1
 unfold je7 at hpo
 simp only [Bool.and_eq_true, decide_eq_true_eq, List.all_eq_true] at hpo
 obtain ⟨⟨⟨l1, l2⟩, l3⟩, l4⟩ := hpo
 unfold jj7 je7
 simp only [Bool.and_eq_true, decide_eq_true_eq, List.all_eq_true, List.length_map]
 refine ⟨⟨⟨⟨l1, l2⟩, ?_⟩, fun s hs => ?_⟩, fun s hs => ?_⟩
 · rw [List.getElem?_map]
   cases e9 : (ps[R[j].toNat])[(ps[R[j].toNat]).length - 1]? with
   | none => rw [e9] at l3; cases l3
   | some s =>
    rw [e9] at l3
    simp at l3
    simp [ren14_k, l3]
 · obtain ⟨s0, hs0, rfl⟩ := List.mem_map.1 hs
   have h9 := l4 s0 hs0
   unfold jm6 at h9 ⊢
   simp only [Bool.and_eq_true] at h9 ⊢
   refine ⟨stmtOk_ren h9.1 hR4 (hcl s0 hs0), ?_⟩
   rw [ren14_k]
   by_cases h7 : s0.k = 7
   · have h8 : ¬ s0.k = 8 := by omega
     rw [show (je5 R s0) = s0 from if_neg h8]
     exact h9.2
   · simp [h7]
 · obtain ⟨s0, hs0, rfl⟩ := List.mem_map.1 hs
   unfold ji5
   by_cases h8 : s0.k = 8
   · have h9 := jj9 (hcl s0 hs0 h8)
     rw [show (je5 R s0) = ⟨s0.k, s0.x, (jh8 R s0.y : Int)⟩ from if_pos h8]
     simp [h8, jg3]
     omega
   · rw [show (je5 R s0) = s0 from if_neg h8]
     simp [h8]
theorem effL_ren {c : Int} {T U : List (List Int)} {R : List Int} {s : Stm} (hy : s.k = 8 → U.getD (jh8 R s.y) [] = T.getD s.y.toNat []) : effL c U (je5 R s) = effL c T s := by
 unfold je5
 split
 · rename_i h8
   unfold effL
   rw [if_pos h8, if_pos h8]
   have e : ((jh8 R s.y : Int)).toNat = jh8 R s.y := by simp
   simp only [e]
   rw [hy h8]
 · rename_i h8
   unfold effL
   rw [if_neg h8, if_neg h8]
theorem effN_ren {c : Int} {T U : List (List Int)} {R : List Int} {p : List Stm} {i : Nat} (hi : i < p.length) (hy : ∀ s ∈ p, s.k = 8 → U.getD (jh8 R s.y) [] = T.getD s.y.toNat []) : effN c U (p.map (je5 R)) i = effN c T p i := by
 rw [jv1 (by simpa using hi), jv1 hi]
 rw [List.getElem_map]
 exact effL_ren (hy _ (List.getElem_mem hi))
theorem clo_ren {E : Nat → List Int} {R : List Int} {p : List Stm} {C : List (List Int)} : Clo E (p.map (je5 R)) C ↔ Clo E p C := by
 unfold Clo
 refine and_congr_right fun _ => ⟨fun h i hi x hx => ?_, fun h i hi x hx => ?_⟩
 · exact h i (by simpa using hi) x (by rw [List.getElem_map, qg7]; exact hx)
 · rw [List.getElem_map, qg7] at hx
   exact h i (by simpa using hi) x hx
theorem inner_ren {E : Nat → List Int} {R : List Int} {p : List Stm} {C : List (List Int)} : IsInner E (p.map (je5 R)) C ↔ IsInner E p C := by
 constructor
 · intro h
   refine ⟨by have := h.good; rw [List.length_map] at this; exact this, clo_ren.1 h.clo, fun D hD hc => ?_⟩
   have := h.und D (by rw [List.length_map]; exact hD) (clo_ren.2 hc)
   rw [List.length_map] at this
   exact this
 · intro h
   refine ⟨by rw [List.length_map]; exact h.good, clo_ren.2 h.clo, fun D hD hc => ?_⟩
   rw [List.length_map] at hD ⊢
   exact h.und D hD (clo_ren.1 hc)
theorem qf9 {R : List Int} {p : List Stm} {C : List (List Int)} : ∀ k, k ≤ p.length → ji6 (p.map (je5 R)) C k = ji6 p C k
 | 0, _ => rfl
 | k + 1, hk => by
  have e : ((p.map (je5 R)).getD k ⟨0, 0, 0⟩).k = (p.getD k ⟨0, 0, 0⟩).k := by
   simp [List.getD, show k < p.length by omega, ren14_k]
  rw [ji6, ji6, e, qf9 k (by omega)]
theorem backs_ren {R : List Int} {p : List Stm} {C : List (List Int)} : backs (p.map (je5 R)) C = backs p C := by
 unfold backs
 rw [List.length_map]
 exact qf9 _ (Nat.le_refl _)
def qf1 (R : List Int) (T : List (List Int)) : List (List Int) := R.map (fun t => T.getD t.toNat [])
theorem jr4 {R : List Int} {T : List (List Int)} {j : Nat} (hj : j < R.length) : (qf1 R T).getD j [] = T.getD R[j].toNat [] := by simp [qf1, List.getD, hj]
theorem pick14_pos {R : List Int} {T : List (List Int)} {y : Int} (hy : y ∈ R) : (qf1 R T).getD (jh8 R y) [] = T.getD y.toNat [] := by
 rw [jr4 (jj9 hy)]
 have h := jm4 hy
 rw [List.getElem?_eq_getElem (jj9 hy)] at h
 rw [Option.some.inj h]
theorem round_pick {c : Int} {ps : List (List Stm)} {R : List Int} (h : Ord14 ps R) {T T' : List (List Int)} (hr : IsRound c ps T T') : IsRound c (jf7 ps R) (qf1 R T) (qf1 R T') := by
 intro j hj
 have hj' : j < R.length := by rw [jg3] at hj; exact hj
 obtain ⟨hpl, e⟩ := h.at hj'
 obtain ⟨C, hC, hb⟩ := hr R[j].toNat hpl
 rw [jx5 ps R hj' hj, e]
 refine ⟨C, ?_, by rw [jr4 hj', hb, backs_ren]⟩
 refine inner_ren.2 ?_
 refine inner_eq (fun i hi => ?_) hC
 refine (effN_ren hi (fun s hs h8 => ?_)).symm
 exact pick14_pos (h.cl R[j] (List.getElem_mem hj') s (by rw [e]; exact hs) h8)
def top7 : List Int := List.replicate 7 127
theorem top7_smalls : Smalls top7 := relOk_iff.1 (by decide)
theorem top7_all {xs : List Int} (h : Smalls xs) : SubR xs top7 := by
 intro j t ht
 by_cases hj : j < 7
 · have hx := h.getD j
   have ht7 : t < 7 := by
    refine Classical.byContradiction fun hn => ?_
    have h2 : (xs.getD j 0).toNat < 2 ^ t := by
     have : 2 ^ 7 ≤ 2 ^ t := Nat.pow_le_pow_right (by omega) (by omega)
     have h3 := hx.2
     omega
    unfold bit at ht
    rw [Nat.testBit_lt_two_pow h2] at ht
    cases ht
   have : top7.getD j 0 = 127 := by
    have h9 : j = 0 ∨ j = 1 ∨ j = 2 ∨ j = 3 ∨ j = 4 ∨ j = 5 ∨ j = 6 := by omega
    rcases h9 with rfl | rfl | rfl | rfl | rfl | rfl | rfl <;> rfl
   rw [this]
   have : t = 0 ∨ t = 1 ∨ t = 2 ∨ t = 3 ∨ t = 4 ∨ t = 5 ∨ t = 6 := by omega
   rcases this with rfl | rfl | rfl | rfl | rfl | rfl | rfl <;> decide
 · rw [js7 (by rw [h.1]; omega)] at ht
   simp [bit] at ht
def qf6 (n : Nat) (R : List Int) (U : List (List Int)) : List (List Int) := (List.range n).map (fun (i : Nat) => if (i : Int) ∈ R then U.getD (jh8 R (i : Int)) [] else top7)
theorem jw0 {n : Nat} {R : List Int} {U : List (List Int)} {i : Nat} (hi : i < n) : (qf6 n R U).getD i [] = if (i : Int) ∈ R then U.getD (jh8 R (i : Int)) [] else top7 := by
 unfold qf6
 rw [jt1 n _ hi]
theorem tables_clo {c : Int} (hc : c = 1 ∨ c = 2) {ps : List (List Stm)} {R : List Int} (hok : ja5 ps = true) (h : Ord14 ps R) {T : List (List Int)} (hT : IsTables c ps T) : IsTables c (jf7 ps R) (qf1 R T) := by
 have hp := canP_of hok
 refine ⟨fun j hj => ?_, fun U U' hU hu hs => ?_, round_pick h hT.self⟩
 · have hj' : j < R.length := by rw [jg3] at hj; exact hj
   obtain ⟨hpl, e⟩ := h.at hj'
   rw [jr4 hj']
   exact hT.good _ hpl
 · -- tables for all that hold
   have hgV : GoodN ps.length (qf6 ps.length R U) := fun i hi => by
    rw [jw0 hi]
    split
    · rename_i hm
      exact hU _ (by rw [jg3]; exact jj9 hm)
    · exact top7_smalls
   obtain ⟨V', hl', hV'⟩ := qf5 hc hp hgV
   have hsub : SubN ps.length V' (qf6 ps.length R U) := fun i hi => by
    rw [jw0 hi]
    split
    · rename_i hm
      have hj := jj9 hm
      have hj2 : jh8 R (i : Int) < (jf7 ps R).length := by rw [jg3]; exact hj
      have hRi : R[jh8 R (i : Int)] = (i : Int) := by
       have h9 := jm4 hm
       rw [List.getElem?_eq_getElem hj] at h9
       exact Option.some.inj h9
      obtain ⟨C, hC, hb⟩ := hu _ hj2
      obtain ⟨D, hD, hd⟩ := hV' i hi
      obtain ⟨hpl, e⟩ := h.at hj
      have e2 : ps.getD R[jh8 R (i : Int)].toNat [] = ps[i] := by rw [e]; simp [hRi]
      rw [jx5 ps R hj hj2, e2] at hC hb
      have hC2 := inner_ren.1 hC
      have hC3 : IsInner (effN c (qf6 ps.length R U) ps[i]) ps[i] C := by
       refine inner_eq (fun k hk => ?_) hC2
       refine effN_ren hk (fun s hs8 h8 => ?_)
       have hmem := h.cl R[jh8 R (i : Int)] (List.getElem_mem hj) s (by rw [e2]; exact hs8) h8
       obtain ⟨y0, y1⟩ := h.o.inn s.y hmem
       have hyn : s.y.toNat < ps.length := by omega
       have hyi : ((s.y.toNat : Nat) : Int) = s.y := Int.toNat_of_nonneg y0
       rw [jw0 hyn, hyi, if_pos hmem]
      have e3 : V'.getD i [] = U'.getD (jh8 R (i : Int)) [] := by
       rw [hd, hb, backs_ren]
       exact backsK_eq (fun k hk => hD.uniq hC3 hk) _ (Nat.le_refl _)
      rw [e3]
      exact hs _ hj2
    · exact top7_all (hV'.good i hi)
   have hlow := hT.low (qf6 ps.length R U) V' hgV hV' hsub
   intro j hj
   have hj' : j < R.length := by rw [jg3] at hj; exact hj
   obtain ⟨hpl, e⟩ := h.at hj'
   rw [jr4 hj']
   have h9 := hlow R[j].toNat hpl
   obtain ⟨r0, r1⟩ := h.o.inn R[j] (List.getElem_mem hj')
   have hri : ((R[j].toNat : Nat) : Int) = R[j] := Int.toNat_of_nonneg r0
   rw [jw0 hpl, hri, if_pos (List.getElem_mem hj'), jp2 h.o.nd (List.getElem?_eq_getElem hj')] at h9
   exact h9
end Go.Proofs.YtldagpfeaabcdaaGreatDoor
namespace Go.Proofs.YtldagpfeaabcdaaGreatDoor
open Go.RowKit
set_option linter.unusedVariables false
set_option linter.unusedSimpArgs false
set_option maxHeartbeats 1000000
def posI (R : List Int) (y : Int) : Int := (jh8 R y : Int)
theorem pos_inj {R : List Int} {y z : Int} (hy : y ∈ R) (hz : z ∈ R) (h : posI R y = posI R z) : y = z := by
 have h1 := jm4 hy
 have h2 := jm4 hz
 have e : jh8 R y = jh8 R z := by unfold posI at h; omega
 rw [e, h2] at h1
 exact (Option.some.inj h1).symm
theorem come14_ren {R out : List Int} {s : Stm} (ho : ∀ x ∈ out, x ∈ R) (hs : s.k = 8 → s.y ∈ R) : jh1 (out.map (posI R)) (je5 R s) = (jh1 out s).map (posI R) := by
 by_cases h8 : s.k = 8
 · have e : je5 R s = ⟨s.k, s.x, posI R s.y⟩ := if_pos h8
   rw [e]
   unfold jh1
   by_cases hm : s.y ∈ out
   · have h1 : hasI out s.y = true := hasI_iff.2 hm
     have h2 : hasI (out.map (posI R)) (posI R s.y) = true := hasI_iff.2 (List.mem_map_of_mem hm)
     rw [if_neg (by simp [h2]), if_neg (by simp [h1])]
   · have h1 : hasI out s.y = false := hasI_not.2 hm
     have h2 : hasI (out.map (posI R)) (posI R s.y) = false := hasI_not.2 (fun h => by
      obtain ⟨z, hz, e9⟩ := List.mem_map.1 h
      exact hm (pos_inj (ho z hz) (hs h8) e9 ▸ hz))
     rw [if_pos ⟨h8, h2⟩, if_pos ⟨h8, h1⟩]
     simp
 · have e : je5 R s = s := if_neg h8
   rw [e]
   unfold jh1
   rw [if_neg (fun h => h8 h.1), if_neg (fun h => h8 h.1)]
theorem come14_in {R out : List Int} {s : Stm} (ho : ∀ x ∈ out, x ∈ R) (hs : s.k = 8 → s.y ∈ R) : ∀ x ∈ jh1 out s, x ∈ R := by
 intro x hx
 unfold jh1 at hx
 split at hx
 · rename_i h
   rcases List.mem_append.1 hx with hx | hx
   · exact ho x hx
   · rw [List.mem_singleton.1 hx]; exact hs h.1
 · exact ho x hx
theorem qg1 {R : List Int} : ∀ (p : List Stm) {out : List Int}, (∀ x ∈ out, x ∈ R) → (∀ s ∈ p, s.k = 8 → s.y ∈ R) → ji8 (out.map (posI R)) (p.map (je5 R)) = (ji8 out p).map (posI R)
 | [], _, _, _ => rfl
 | s :: p, out, ho, hp => by
  show ji8 (jh1 (out.map (posI R)) (je5 R s)) (p.map (je5 R)) = (ji8 (jh1 out s) p).map (posI R)
  rw [come14_ren ho (hp s (by simp))]
  exact qg1 p (come14_in ho (hp s (by simp))) (fun t ht => hp t (by simp [ht]))
theorem scan14_in {R : List Int} : ∀ (p : List Stm) {out : List Int}, (∀ x ∈ out, x ∈ R) → (∀ s ∈ p, s.k = 8 → s.y ∈ R) → ∀ x ∈ ji8 out p, x ∈ R
 | [], _, ho, _ => ho
 | s :: p, out, ho, hp => scan14_in p (come14_in ho (hp s (by simp))) (fun t ht => hp t (by simp [ht]))
theorem go14_ren {ps : List (List Stm)} {R : List Int} (h : Ord14 ps R) : ∀ (f k : Nat) (out : List Int), (∀ x ∈ out, x ∈ R) → go14 (jf7 ps R) f k (out.map (posI R)) = (go14 ps f k out).map (posI R)
 | 0, _, _, _ => rfl
 | f + 1, k, out, ho => by
  unfold go14
  rw [List.length_map]
  by_cases hk : k < out.length
  · rw [if_pos hk, if_pos hk]
    have hm : out[k] ∈ R := ho _ (List.getElem_mem hk)
    have e1 : out.getD k 0 = out[k] := by simp [List.getD, hk]
    have e2 : ((out.map (posI R)).getD k 0).toNat = jh8 R out[k] := by simp [List.getD, hk, posI]
    have hj := jj9 hm
    have hRj : R[jh8 R out[k]] = out[k] := by
     have h9 := jm4 hm
     rw [List.getElem?_eq_getElem hj] at h9
     exact Option.some.inj h9
    have e3 : (jf7 ps R).getD (jh8 R out[k]) [] = (ps.getD out[k].toNat []).map (je5 R) := by
     have hq : jh8 R out[k] < (jf7 ps R).length := by rw [jg3]; exact hj
     have e9 : (jf7 ps R).getD (jh8 R out[k]) [] = (jf7 ps R)[jh8 R out[k]] := by simp [List.getD, hq]
     rw [e9, jx5 ps R hj hq, hRj]
    have hcl : ∀ s ∈ ps.getD out[k].toNat [], s.k = 8 → s.y ∈ R := fun s hs h8 => h.cl out[k] hm s hs h8
    rw [e1, e2, e3, qg1 _ ho hcl]
    exact go14_ren h f (k + 1) _ (scan14_in _ ho hcl)
  · rw [if_neg hk, if_neg hk]
theorem posI_all {R : List Int} (hn : R.Nodup) : R.map (posI R) = (List.range R.length).map Int.ofNat := by
 apply List.ext_getElem (by simp)
 intro j h1 h2
 simp only [List.getElem_map, List.getElem_range]
 have hj : j < R.length := by simpa using h1
 unfold posI
 rw [jp2 hn (List.getElem?_eq_getElem hj)]
 rfl
theorem pos14_range {n y : Nat} (hy : y < n) : jh8 ((List.range n).map Int.ofNat) (y : Int) = y := by
 refine jp2 ?_ ?_
 · unfold List.Nodup
   rw [List.pairwise_map]
   exact List.nodup_range.imp (fun {a b} h e => h (by have e2 : (a : Int) = (b : Int) := e; omega))
 · simp [hy]
theorem ord14_clo {ps : List (List Stm)} {i : Int} (h : hasB ps i = true) : jg4 (jf7 ps (jg4 ps i)) 0 = (List.range (jg4 ps i).length).map Int.ofNat := by
 obtain ⟨ho, h0⟩ := jn0 h
 have hi : i ∈ jg4 ps i := List.mem_of_getElem? h0
 have e := go14_ren ho 5 0 [i] (fun x hx => by rw [List.mem_singleton.1 hx]; exact hi)
 have e0 : [i].map (posI (jg4 ps i)) = [0] := by simp [posI, jp2 ho.o.nd h0]
 rw [e0] at e
 show go14 (jf7 ps (jg4 ps i)) 5 0 [0] = _
 rw [e]
 exact posI_all ho.o.nd
theorem clo14_twice {ps : List (List Stm)} {R : List Int} (h : Ord14 ps R) : jf7 (jf7 ps R) ((List.range R.length).map Int.ofNat) = jf7 ps R := by
 apply List.ext_getElem (by simp [jf7])
 intro j h1 h2
 have hj : j < R.length := by rw [jg3] at h2; exact h2
 have hj2 : j < ((List.range R.length).map Int.ofNat).length := by simpa using hj
 rw [jx5 _ _ hj2 h1]
 have e1 : ((List.range R.length).map Int.ofNat)[j].toNat = j := by simp
 rw [e1]
 have e2 : (jf7 ps R).getD j [] = (jf7 ps R)[j] := by simp [List.getD, h2]
 rw [e2]
 have e3 : ∀ s ∈ (jf7 ps R)[j], je5 ((List.range R.length).map Int.ofNat) s = s := by
  intro s hs
  rw [jx5 ps R hj h2] at hs
  obtain ⟨s0, hs0, rfl⟩ := List.mem_map.1 hs
  by_cases h8 : s0.k = 8
  · have hm := h.cl R[j] (List.getElem_mem hj) s0 hs0 h8
    have e : je5 R s0 = ⟨s0.k, s0.x, (jh8 R s0.y : Int)⟩ := if_pos h8
    rw [e]
    have e9 : je5 ((List.range R.length).map Int.ofNat) ⟨s0.k, s0.x, (jh8 R s0.y : Int)⟩ = ⟨s0.k, s0.x, (jh8 ((List.range R.length).map Int.ofNat) (jh8 R s0.y : Int) : Int)⟩ := if_pos h8
    rw [e9, pos14_range (jj9 hm)]
  · have e : je5 R s0 = s0 := if_neg h8
    rw [e]
    exact if_neg h8
 exact (List.map_congr_left e3).trans (List.map_id _)
theorem qc6 {ps : List (List Stm)} {i : Int} (h : hasB ps i = true) : 1 ≤ (jg4 ps i).length := by
 have := (List.getElem?_eq_some_iff.1 (jn0 h).2).1
 omega
theorem jt2 {ps : List (List Stm)} {i : Int} (h : hasB ps i = true) : ja5 (jf7 ps (jg4 ps i)) = true := by
 have hok : ja5 ps = true := by unfold hasB at h; simp only [Bool.and_eq_true] at h; exact h.1
 exact clo14_ok hok (jn0 h).1 (qc6 h)
theorem hasB_clo {ps : List (List Stm)} {i : Int} (h : hasB ps i = true) : hasB (jf7 ps (jg4 ps i)) 0 = true := by
 unfold hasB
 rw [jt2 h]
 have := qc6 h
 unfold wiB
 simp [jg3]
 omega
theorem cloA_twice {ps : List (List Stm)} {i : Int} (h : hasB ps i = true) : cloA (cloA ps i) 0 = cloA ps i := by
 have e : cloA ps i = jf7 ps (jg4 ps i) := if_pos h
 rw [e]
 have e2 : cloA (jf7 ps (jg4 ps i)) 0 = jf7 (jf7 ps (jg4 ps i)) (jg4 (jf7 ps (jg4 ps i)) 0) := if_pos (hasB_clo h)
 rw [e2, ord14_clo h]
 exact clo14_twice (jn0 h).1
theorem jw4 {c : Int} (hc : c = 1 ∨ c = 2) {ps : List (List Stm)} {i : Int} (h : hasB ps i = true) {T U : List (List Int)} (hT : IsTables c ps T) (hU : IsTables c (cloA ps i) U) : U.getD 0 [] = T.getD i.toNat [] := by
 have hok : ja5 ps = true := by unfold hasB at h; simp only [Bool.and_eq_true] at h; exact h.1
 have e : cloA ps i = jf7 ps (jg4 ps i) := if_pos h
 rw [e] at hU
 obtain ⟨ho, h0⟩ := jn0 h
 have hp := qc6 h
 have h1 := tables_clo hc hok ho hT
 have h2 := hU.uniq h1 (i := 0) (by rw [jg3]; omega)
 rw [h2, jr4 (by omega)]
 have h3 : (jg4 ps i)[0] = i := by
  rw [List.getElem?_eq_getElem (by omega)] at h0
  exact Option.some.inj h0
 rw [h3]
theorem called_iff {p : List Stm} {x : Int} : jd2 p x = true ↔ ∃ s ∈ p, s.k = 8 ∧ s.y = x := by
 unfold jd2
 simp [List.any_eq_true]
theorem mem_callsOf {p : List Stm} {x : Int} : x ∈ ju7 p ↔ ∃ s ∈ p, s.k = 8 ∧ s.y = x := by
 rw [← called_iff, ← qc0]
 simp [List.any_eq_true]
theorem come14_reach {ps : List (List Stm)} {P : Int → Prop} {out : List Int} {s : Stm} (ho : ∀ x ∈ out, P x) (hs : s.k = 8 → P s.y) : ∀ x ∈ jh1 out s, P x := by
 intro x hx
 unfold jh1 at hx
 split at hx
 · rename_i h
   rcases List.mem_append.1 hx with hx | hx
   · exact ho x hx
   · rw [List.mem_singleton.1 hx]; exact hs h.1
 · exact ho x hx
theorem jz6 {P : Int → Prop} : ∀ (p : List Stm) {out : List Int}, (∀ x ∈ out, P x) → (∀ s ∈ p, s.k = 8 → P s.y) → ∀ x ∈ ji8 out p, P x
 | [], _, ho, _ => ho
 | s :: p, out, ho, hp => jz6 p (come14_reach (ps := []) ho (hp s (by simp))) (fun t ht => hp t (by simp [ht]))
theorem qh7 {ps : List (List Stm)} {P : Int → Prop} (hP : ∀ x, P x → ∀ s ∈ ps.getD x.toNat [], s.k = 8 → P s.y) : ∀ (f k : Nat) (out : List Int), (∀ x ∈ out, P x) → ∀ x ∈ go14 ps f k out, P x
 | 0, _, _, ho => ho
 | f + 1, k, out, ho => by
  unfold go14
  split
  · rename_i hk
    have hm : P (out.getD k 0) := by
     have e1 : out.getD k 0 = out[k] := by simp [List.getD, hk]
     rw [e1]; exact ho _ (List.getElem_mem hk)
    exact qh7 hP f (k + 1) _ (jz6 _ ho (hP _ hm))
  · exact ho
theorem ord14_reach {ps : List (List Stm)} {i : Int} (h : hasB ps i = true) {A : List Int} (hA : jr7 (jq4 ps) i.toNat A) : (jg4 ps i).length = A.length := by
 have hok : ja5 ps = true := by unfold hasB at h; simp only [Bool.and_eq_true] at h; exact h.1
 obtain ⟨ho, h0⟩ := jn0 h
 have hi : i ∈ jg4 ps i := List.mem_of_getElem? h0
 obtain ⟨i0, i1⟩ := ho.o.inn i hi
 have hcalls := js3 hok
 have h1 : ∀ x ∈ jg4 ps i, (0 ≤ x ∧ x < (ps.length : Int)) ∧ CR (jq4 ps) i.toNat x.toNat := by
  refine qh7 (P := fun x => (0 ≤ x ∧ x < (ps.length : Int)) ∧ CR (jq4 ps) i.toNat x.toNat) (fun x hx s hs h8 => ?_) 5 0 [i] (fun x hx => by rw [List.mem_singleton.1 hx]; exact ⟨⟨i0, i1⟩, CR.refl _ _⟩)
  obtain ⟨⟨x0, x1⟩, hcr⟩ := hx
  obtain ⟨hpl, e⟩ := jv5 x0 x1
  have hy := hcalls.at x0 x1 s hs h8
  refine ⟨hy, hcr.step ?_⟩
  rw [qb0 hok hpl, Int.toNat_of_nonneg hy.1]
  rw [e] at hs
  exact mem_callsOf.2 ⟨s, hs, h8, rfl⟩
 have h2 : ∀ k a, ck (jq4 ps) i.toNat k a → (a : Int) ∈ jg4 ps i := by
  intro k
  induction k with
  | zero =>
   intro a ha
   have : a = i.toNat := ha
   rw [this, Int.toNat_of_nonneg i0]
   exact hi
  | succ k ih =>
   intro a ha
   obtain ⟨b, hb, hab⟩ := ha
   have hbm := ih b hb
   obtain ⟨b0, b1⟩ := ho.o.inn _ hbm
   have hbl : b < ps.length := by omega
   rw [qb0 hok hbl] at hab
   obtain ⟨s, hs, h8, hy⟩ := mem_callsOf.1 hab
   have h9 := ho.cl (b : Int) hbm s (by simp [List.getD, hbl, hs]) h8
   rw [hy] at h9
   exact h9
 have hnA : A.Nodup := hA.1.imp (fun h => by omega)
 have h3 : ∀ x, x ∈ jg4 ps i ↔ x ∈ A := fun x => by
  rw [hA.2]
  constructor
  · intro hx
    obtain ⟨⟨x0, _⟩, hcr⟩ := h1 x hx
    exact ⟨x.toNat, by rw [Int.toNat_of_nonneg x0], hcr⟩
  · rintro ⟨a, rfl, k, hk⟩
    exact h2 k a hk
 have l1 := List.Nodup.length_le_of_subset (α := Int) ho.o.nd (fun x hx => (h3 x).1 hx)
 have l2 := List.Nodup.length_le_of_subset (α := Int) hnA (fun x hx => (h3 x).2 hx)
 omega
end Go.Proofs.YtldagpfeaabcdaaGreatDoor
