/-
  Mathematics of spec.Solved's rounds.
-/
import Derived.Test.YtcecfmdlefkjfaaVisitsM
import Derived.Test.YtcecfmdlefkjfaaSpecCovers
namespace Go.Proofs.Ytcecfmdlefkjfaa
set_option linter.unusedVariables false

/-- All of z comes to statement i. -/
def Snd (c : Int) (ss : List Stm) (s : Int) (i : Nat) (z : Int) : Prop := ∀ t, t < 7 → bit z t = true → ∃ ys, RW ss ys ∧ lastI ys = (i : Int) ∧ bit (st c ss s ys) t = true

structure SIv (c : Int) (ss : List Stm) (s : Int) (xs : List Int) : Prop where
  len : xs.length = ss.length
  small : ∀ k, Small (xs.getD k 0)
  snd : ∀ i, i < ss.length → Snd c ss s i (xs.getD i 0)
  start : hasA (xs.getD 0 0) s = true

theorem getD_set {xs : List Int} {j k : Nat} {z : Int} (hj : j < xs.length) : (xs.set j z).getD k 0 = if k = j then z else xs.getD k 0 := by
  by_cases e : j = k
  · subst e
    simp [List.getD, hj]
  · rw [if_neg (fun e' => e e'.symm)]
    simp [List.getD, List.getElem?_set_ne e]

theorem snd_img {c : Int} {ss : List Stm} {s : Int} (hp : procOk ss = true) {i j : Nat} (hi : i < ss.length) (hj : (j : Int) ∈ nx ss i) {z : Int} (h : Snd c ss s i z) : Snd c ss s j (img (flw c ss i) z) := by
  intro t ht hb
  obtain ⟨u, hu, h1, h2⟩ := (bit_img (flw_smalls hp hi) z t).1 hb
  obtain ⟨ys, hR, hl, hs⟩ := h u hu h1
  have hy : (j : Int) ∈ nx ss (lastI ys).toNat := by rw [hl, Int.toNat_natCast]; exact hj
  refine ⟨ys ++ [(j : Int)], RW_snoc hp hR hy, lastI_snoc _ _, ?_⟩
  rw [st_snoc hR.1, hl, Int.toNat_natCast]
  exact (bit_img (flw_smalls hp hi) _ t).2 ⟨u, hu, hs, h2⟩

theorem SIv.begin {c : Int} {ss : List Stm} {s : Int} (hp : procOk ss = true) (hs : Small s) : SIv c ss s ((List.replicate ss.length 0).set 0 s) := by
  have h1 := (procOk_parts hp).1
  have hg : ∀ k, ((List.replicate ss.length (0 : Int)).set 0 s).getD k 0 = if k = 0 then s else 0 := fun k => by
    rw [getD_set (by simp; omega)]
    split
    · rfl
    · exact getD_rep _ _
  refine ⟨by simp, fun k => ?_, fun i hi t ht hb => ?_, ?_⟩
  · rw [hg]; split
    · exact hs
    · exact ⟨by decide, by decide⟩
  · rw [hg] at hb
    by_cases e : i = 0
    · subst e
      rw [if_pos rfl] at hb
      exact ⟨[0], RW0 ss, rfl, hb⟩
    · rw [if_neg e, bit_zero] at hb; cases hb
  · rw [hg, if_pos rfl, hasA_iff hs hs]
    exact fun _ _ h => h

theorem SIv.step {c : Int} {ss : List Stm} {s : Int} {xs : List Int} (h : SIv c ss s xs) (hs0 : Small s) {j : Nat} (hj : j < ss.length) {z : Int} (hz : Small z) (hs : Snd c ss s j z) : SIv c ss s (xs.set j (lor (xs.getD j 0) z)) := by
  have hg := fun k => getD_set (xs := xs) (j := j) (k := k) (z := lor (xs.getD j 0) z) (by rw [h.len]; exact hj)
  refine ⟨by rw [List.length_set]; exact h.len, fun k => ?_, fun i hi t ht hb => ?_, ?_⟩
  · rw [hg]; split
    · exact lor_small (h.small j) hz
    · exact h.small k
  · rw [hg] at hb
    by_cases e : i = j
    · subst e
      rw [if_pos rfl, bit_lor (h.small i) hz, Bool.or_eq_true] at hb
      rcases hb with hb | hb
      · exact h.snd i hi t ht hb
      · exact hs t ht hb
    · rw [if_neg e] at hb
      exact h.snd i hi t ht hb
  · rw [hg]
    have h0 := (hasA_iff (h.small 0) hs0).1 h.start
    by_cases e : 0 = j
    · rw [if_pos e, hasA_iff (lor_small (h.small j) hz) hs0]
      intro t ht hb
      rw [bit_lor (h.small j) hz, ← e, h0 t ht hb]; rfl
    · rw [if_neg e]; exact h.start

/-- Where all covers it is solved. -/
theorem SIv.solved {c : Int} {ss : List Stm} {s : Int} {xs : List Int} (hp : procOk ss = true) (hs : Small s) (h : SIv c ss s xs) (hc : covK c ss xs ss.length = true) : IsSolved c ss s xs := by
  refine ⟨h.len, h.small, fun i t hi ht => ⟨h.snd i hi t ht, ?_⟩⟩
  rintro ⟨ys, hR, hl, hb⟩
  have key := RW_ind hp (P := fun ys => ∀ t, t < 7 → bit (st c ss s ys) t = true → bit (xs.getD (lastI ys).toNat 0) t = true)
    (fun t ht hb => (hasA_iff (h.small 0) hs).1 h.start t ht hb)
    (fun zs y hz hy ih t ht hb => by
      obtain ⟨j, hj, hjl⟩ := RW_in hp hz
      have hfs := flw_smalls (c := c) hp hjl
      rw [st_snoc hz.1, hj, Int.toNat_natCast] at hb
      rw [lastI_snoc]
      rw [hj, Int.toNat_natCast] at hy ih
      have hcv := covK_iff.1 hc j hjl
      have h1 := List.all_eq_true.1 hcv y hy
      obtain ⟨y', rfl, hyl⟩ := nx_in hp hjl y hy
      rw [Int.toNat_natCast] at h1 ⊢
      refine (hasA_iff (h.small y') (img_small hfs _)).1 h1 t ht ?_
      obtain ⟨u, hu, h2, h3⟩ := (bit_img hfs _ t).1 hb
      exact (bit_img hfs _ t).2 ⟨u, hu, ih u hu h2, h3⟩)
    ys.length ys (Nat.le_refl _) hR t ht hb
  rwa [hl, Int.toNat_natCast] at key

end Go.Proofs.Ytcecfmdlefkjfaa
