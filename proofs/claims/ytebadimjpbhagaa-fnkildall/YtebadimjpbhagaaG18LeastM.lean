/-
  Put together out of: SpecCovers, SolvedM, LeastM.
-/
import Derived.Test.YtebadimjpbhagaaSpecAlong
import Derived.BigRegion
import Derived.Test.YtebadimjpbhagaaVisitsM
/-
  spec.Covers.
-/
namespace Go.Proofs.Ytebadimjpbhagaa
open Go.RowKit
set_option linter.unusedVariables false
set_option maxHeartbeats 4000000
set_option maxRecDepth 4000

theorem all127_take {xs : List Int} {k : Nat} (hk : k < xs.length) (h : (xs.take k).all (fun x => inB x 0 127) = true) (hx : inB (xs.getD k 0) 0 127 = true) : (xs.take (k + 1)).all (fun x => inB x 0 127) = true :=
  take_all hk h (by simpa [List.getD, hk] using hx)

theorem all127_not {xs : List Int} {k : Nat} (hk : k < xs.length) (hx : inB (xs.getD k 0) 0 127 = false) : xs.all (fun x => inB x 0 127) = false :=
  all_not hk (by simpa [List.getD, hk] using hx)

/-- The first k nexts of statement i have all that it makes. -/
def covT (c : Int) (ss : List Stm) (xs : List Int) (i k : Nat) : Bool := ((nx ss i).take k).all (fun x => hasA (xs.getD x.toNat 0) (img (flw c ss i) (xs.getD i 0)))

theorem covT_succ {c : Int} {ss : List Stm} {xs : List Int} {i k : Nat} (hk : k < (nx ss i).length) : covT c ss xs i (k + 1) = (covT c ss xs i k && hasA (xs.getD ((nx ss i)[k]).toNat 0) (img (flw c ss i) (xs.getD i 0))) := by
  unfold covT
  rw [all_take_succ _ _ _ hk]

theorem covT_all {c : Int} {ss : List Stm} {xs : List Int} {i k : Nat} (hk : (nx ss i).length ≤ k) : covT c ss xs i k = covI c ss xs i := by
  unfold covT covI
  rw [List.take_of_length_le hk]

theorem covT_not {c : Int} {ss : List Stm} {xs : List Int} {i k : Nat} (hk : k < (nx ss i).length) (h : hasA (xs.getD ((nx ss i)[k]).toNat 0) (img (flw c ss i) (xs.getD i 0)) = false) : covI c ss xs i = false :=
  all_false _ _ k hk h

theorem covK_not {c : Int} {ss : List Stm} {xs : List Int} {i n : Nat} (hi : i < n) (h : covI c ss xs i = false) : covK c ss xs n = false := by
  cases hn : covK c ss xs n with
  | false => rfl
  | true => rw [covK_iff.1 hn i hi] at h; cases h

theorem nxI {ss : List Stm} {i : Nat} (hi : i < ss.length) : nextsS ss[i] i = nx ss i := (nx_eq hi).symm

theorem has_bne {a b : Int} : (lor a b != a) = !hasA a b := by
  unfold hasA
  rw [bne, Bool.eq_iff_iff]; simp

end Go.Proofs.Ytebadimjpbhagaa

/-
  Mathematics of spec.Solved's rounds.
-/
namespace Go.Proofs.Ytebadimjpbhagaa
set_option linter.unusedVariables false

/-- All of z comes to statement i. -/
def Snd (c : Int) (ss : List Stm) (s : Int) (i : Nat) (z : Int) : Prop := ∀ t, t < 7 → bit z t = true → ∃ ys, RW ss ys ∧ lastI ys = (i : Int) ∧ bit (st c ss s ys) t = true

structure SIv (c : Int) (ss : List Stm) (s : Int) (xs : List Int) : Prop where
  len : xs.length = ss.length
  small : ∀ k, Small (xs.getD k 0)
  snd : ∀ i, i < ss.length → Snd c ss s i (xs.getD i 0)
  start : hasA (xs.getD 0 0) s = true

theorem getD_setS {xs : List Int} {j k : Nat} {z : Int} (hj : j < xs.length) : (xs.set j z).getD k 0 = if k = j then z else xs.getD k 0 := by
  by_cases e : j = k
  · subst e
    simp [List.getD, hj]
  · rw [if_neg (fun e' => e e'.symm)]
    simp [List.getD, List.getElem?_set_ne e]

theorem snd_img {c : Int} {ss : List Stm} {s : Int} (hp : procOk ss = true) {i j : Nat} (hi : i < ss.length) (hj : (j : Int) ∈ nx ss i) {z : Int} (h : Snd c ss s i z) : Snd c ss s j (img (flw c ss i) z) := by
  intro t ht hb
  obtain ⟨u, hu, h1, h2⟩ := (bit_img (flw_smalls hp hi) z t).1 hb
  obtain ⟨ys, hR, hl, hs⟩ := h u hu h1
  have hy : (j : Int) ∈ nx ss (lastI ys).toNat := by rw [hl, Int.toNat_natCast]; exact hj
  refine ⟨ys ++ [(j : Int)], RW_snoc hp hR hy, lastI_snoc _ _, ?_⟩
  rw [st_snoc hR.1, hl, Int.toNat_natCast]
  exact (bit_img (flw_smalls hp hi) _ t).2 ⟨u, hu, hs, h2⟩

theorem SIv.begin {c : Int} {ss : List Stm} {s : Int} (hp : procOk ss = true) (hs : Small s) : SIv c ss s ((List.replicate ss.length 0).set 0 s) := by
  have h1 := (procOk_parts hp).1
  have hg : ∀ k, ((List.replicate ss.length (0 : Int)).set 0 s).getD k 0 = if k = 0 then s else 0 := fun k => by
    rw [getD_setS (by simp; omega)]
    split
    · rfl
    · exact getD_rep _ _
  refine ⟨by simp, fun k => ?_, fun i hi t ht hb => ?_, ?_⟩
  · rw [hg]; split
    · exact hs
    · exact ⟨by decide, by decide⟩
  · rw [hg] at hb
    by_cases e : i = 0
    · subst e
      rw [if_pos rfl] at hb
      exact ⟨[0], RW0 ss, rfl, hb⟩
    · rw [if_neg e, bit_zero] at hb; cases hb
  · rw [hg, if_pos rfl, hasA_iff hs hs]
    exact fun _ _ h => h

theorem SIv.step {c : Int} {ss : List Stm} {s : Int} {xs : List Int} (h : SIv c ss s xs) (hs0 : Small s) {j : Nat} (hj : j < ss.length) {z : Int} (hz : Small z) (hs : Snd c ss s j z) : SIv c ss s (xs.set j (lor (xs.getD j 0) z)) := by
  have hg := fun k => getD_setS (xs := xs) (j := j) (k := k) (z := lor (xs.getD j 0) z) (by rw [h.len]; exact hj)
  refine ⟨by rw [List.length_set]; exact h.len, fun k => ?_, fun i hi t ht hb => ?_, ?_⟩
  · rw [hg]; split
    · exact lor_small (h.small j) hz
    · exact h.small k
  · rw [hg] at hb
    by_cases e : i = j
    · subst e
      rw [if_pos rfl, bit_lor (h.small i) hz, Bool.or_eq_true] at hb
      rcases hb with hb | hb
      · exact h.snd i hi t ht hb
      · exact hs t ht hb
    · rw [if_neg e] at hb
      exact h.snd i hi t ht hb
  · rw [hg]
    have h0 := (hasA_iff (h.small 0) hs0).1 h.start
    by_cases e : 0 = j
    · rw [if_pos e, hasA_iff (lor_small (h.small j) hz) hs0]
      intro t ht hb
      rw [bit_lor (h.small j) hz, ← e, h0 t ht hb]; rfl
    · rw [if_neg e]; exact h.start

/-- Where all covers it is solved. -/
theorem SIv.solved {c : Int} {ss : List Stm} {s : Int} {xs : List Int} (hp : procOk ss = true) (hs : Small s) (h : SIv c ss s xs) (hc : covK c ss xs ss.length = true) : IsSolved c ss s xs := by
  refine ⟨h.len, h.small, fun i t hi ht => ⟨h.snd i hi t ht, ?_⟩⟩
  rintro ⟨ys, hR, hl, hb⟩
  have key := RW_ind hp (P := fun ys => ∀ t, t < 7 → bit (st c ss s ys) t = true → bit (xs.getD (lastI ys).toNat 0) t = true)
    (fun t ht hb => (hasA_iff (h.small 0) hs).1 h.start t ht hb)
    (fun zs y hz hy ih t ht hb => by
      obtain ⟨j, hj, hjl⟩ := RW_in hp hz
      have hfs := flw_smalls (c := c) hp hjl
      rw [st_snoc hz.1, hj, Int.toNat_natCast] at hb
      rw [lastI_snoc]
      rw [hj, Int.toNat_natCast] at hy ih
      have hcv := covK_iff.1 hc j hjl
      have h1 := List.all_eq_true.1 hcv y hy
      obtain ⟨y', rfl, hyl⟩ := nx_in hp hjl y hy
      rw [Int.toNat_natCast] at h1 ⊢
      refine (hasA_iff (h.small y') (img_small hfs _)).1 h1 t ht ?_
      obtain ⟨u, hu, h2, h3⟩ := (bit_img hfs _ t).1 hb
      exact (bit_img hfs _ t).2 ⟨u, hu, ih u hu h2, h3⟩)
    ys.length ys (Nat.le_refl _) hR t ht hb
  rwa [hl, Int.toNat_natCast] at key

end Go.Proofs.Ytebadimjpbhagaa

/-
  Mathematics of FnLeastInside: whatever covers has all that is solved; what begins with more solves to more; what is solved covers.
-/
namespace Go.Proofs.Ytebadimjpbhagaa
set_option linter.unusedVariables false

theorem coversAns_parts {ss : List Stm} {c s : Int} {xs : List Int} (h : coversAns ss c s xs = true) : procOk ss = true ∧ isCl c = true ∧ inB s 0 127 = true ∧ xs.length = ss.length ∧ xs.all (fun x => inB x 0 127) = true ∧ hasA (xs.getD 0 0) s = true ∧ covK c ss xs ss.length = true := by
  simp only [coversAns, Bool.and_eq_true, decide_eq_true_eq] at h
  obtain ⟨⟨⟨⟨⟨⟨a, b⟩, c⟩, d⟩, e⟩, f⟩, g⟩ := h
  exact ⟨a, b, c, d, e, f, g⟩

theorem cov_way {c : Int} {ss : List Stm} {s : Int} {xs : List Int} (hp : procOk ss = true) (hs : Small s) (hsm : ∀ k, Small (xs.getD k 0)) (h0 : hasA (xs.getD 0 0) s = true) (hc : covK c ss xs ss.length = true) {ys : List Int} (hR : RW ss ys) : ∀ t, t < 7 → bit (st c ss s ys) t = true → bit (xs.getD (lastI ys).toNat 0) t = true :=
  RW_ind hp (P := fun ys => ∀ t, t < 7 → bit (st c ss s ys) t = true → bit (xs.getD (lastI ys).toNat 0) t = true)
    (fun t ht hb => (hasA_iff (hsm 0) hs).1 h0 t ht hb)
    (fun zs y hz hy ih t ht hb => by
      obtain ⟨j, hj, hjl⟩ := RW_in hp hz
      have hfs := flw_smalls (c := c) hp hjl
      rw [st_snoc hz.1, hj, Int.toNat_natCast] at hb
      rw [lastI_snoc]
      rw [hj, Int.toNat_natCast] at hy ih
      have hcv := covK_iff.1 hc j hjl
      have h1 := List.all_eq_true.1 hcv y hy
      obtain ⟨y', rfl, hyl⟩ := nx_in hp hjl y hy
      rw [Int.toNat_natCast] at h1 ⊢
      refine (hasA_iff (hsm y') (img_small hfs _)).1 h1 t ht ?_
      obtain ⟨u, hu, h2, h3⟩ := (bit_img hfs _ t).1 hb
      exact (bit_img hfs _ t).2 ⟨u, hu, ih u hu h2, h3⟩)
    ys.length ys (Nat.le_refl _) hR

theorem lor_of_has {a b : Int} (ha : Small a) (hb : Small b) (h : hasA b a = true) : lor a b = b := by
  rw [lor_comm ha hb]
  unfold hasA at h
  exact of_decide_eq_true h

theorem covers_least {c : Int} {ss : List Stm} {s : Int} {xs A : List Int} (h : coversAns ss c s xs = true) (hA : SolvedAns c ss s A) (i : Nat) (hi : i < A.length) : lor (A.getD i 0) (xs.getD i 0) = xs.getD i 0 := by
  obtain ⟨hp, hc, hs, hl, hall, h0, hcov⟩ := coversAns_parts h
  have hS := hA.1 (by rw [hp, hc, hs]; rfl)
  have hsm := fun k => smallAll hall k
  refine lor_of_has (hS.2.1 i) (hsm i) ((hasA_iff (hsm i) (hS.2.1 i)).2 (fun t ht hb => ?_))
  obtain ⟨ys, hR, hly, hb2⟩ := (hS.2.2 i t (by rw [← hS.1]; exact hi) ht).1 hb
  have := cov_way hp (small_in.1 hs) hsm h0 hcov hR t ht hb2
  rwa [hly, Int.toNat_natCast] at this

theorem st_mono {c : Int} {ss : List Stm} {s s' : Int} (hp : procOk ss = true) (h : ∀ t, t < 7 → bit s t = true → bit s' t = true) {ys : List Int} (hR : RW ss ys) : ∀ t, t < 7 → bit (st c ss s ys) t = true → bit (st c ss s' ys) t = true :=
  RW_ind hp (P := fun ys => ∀ t, t < 7 → bit (st c ss s ys) t = true → bit (st c ss s' ys) t = true) h
    (fun zs y hz hy ih t ht hb => by
      obtain ⟨j, hj, hjl⟩ := RW_in hp hz
      have hfs := flw_smalls (c := c) hp hjl
      rw [st_snoc hz.1, hj, Int.toNat_natCast] at hb ⊢
      obtain ⟨u, hu, h2, h3⟩ := (bit_img hfs _ t).1 hb
      exact (bit_img hfs _ t).2 ⟨u, hu, ih u hu h2, h3⟩)
    ys.length ys (Nat.le_refl _) hR

theorem solved_more {c : Int} {ss : List Stm} {s x : Int} {A B : List Int} (hok : (procOk ss && isCl c && inB s 0 127) = true) (hx : Small x) (hA : SolvedAns c ss s A) (hB : SolvedAns c ss (lor s x) B) : B.length = A.length ∧ ∀ i, i < A.length → lor (A.getD i 0) (B.getD i 0) = B.getD i 0 := by
  have hparts : procOk ss = true ∧ isCl c = true ∧ inB s 0 127 = true := by
    simp only [Bool.and_eq_true] at hok
    exact ⟨hok.1.1, hok.1.2, hok.2⟩
  obtain ⟨hp, hc, hs⟩ := hparts
  have hsm := small_in.1 hs
  have hS := hA.1 hok
  have hT := hB.1 (by rw [hp, hc, small_in.2 (lor_small hsm hx)]; rfl)
  refine ⟨by rw [hS.1, hT.1], fun i hi => lor_of_has (hS.2.1 i) (hT.2.1 i) ((hasA_iff (hT.2.1 i) (hS.2.1 i)).2 (fun t ht hb => ?_))⟩
  rw [hS.1] at hi
  obtain ⟨ys, hR, hly, hb2⟩ := (hS.2.2 i t hi ht).1 hb
  refine (hT.2.2 i t hi ht).2 ⟨ys, hR, hly, st_mono hp (fun t ht h => ?_) hR t ht hb2⟩
  rw [bit_lor hsm hx, h]; rfl

theorem covers_solved {c : Int} {ss : List Stm} {s : Int} {A : List Int} (hok : (procOk ss && isCl c && inB s 0 127) = true) (hA : SolvedAns c ss s A) : coversAns ss c s A = true := by
  have hparts : procOk ss = true ∧ isCl c = true ∧ inB s 0 127 = true := by
    simp only [Bool.and_eq_true] at hok
    exact ⟨hok.1.1, hok.1.2, hok.2⟩
  obtain ⟨hp, hc, hs⟩ := hparts
  have hsm := small_in.1 hs
  have hS := hA.1 hok
  have h1 := (procOk_parts hp).1
  have hall : A.all (fun x => inB x 0 127) = true := List.all_eq_true.2 (fun x hx => by
    obtain ⟨k, hk, e⟩ := List.mem_iff_getElem.1 hx
    have := hS.2.1 k
    rw [show A.getD k 0 = x by simp [List.getD, hk, e]] at this
    exact small_in.2 this)
  have h0 : hasA (A.getD 0 0) s = true := (hasA_iff (hS.2.1 0) hsm).2 (fun t ht hb => (hS.2.2 0 t h1 ht).2 ⟨[0], RW0 ss, rfl, hb⟩)
  have hcov : covK c ss A ss.length = true := covK_iff.2 (fun i hi => List.all_eq_true.2 (fun y hy => by
    obtain ⟨j, rfl, hjl⟩ := nx_in hp hi y hy
    have hfs := flw_smalls (c := c) hp hi
    rw [Int.toNat_natCast]
    refine (hasA_iff (hS.2.1 j) (img_small hfs _)).2 (fun t ht hb => ?_)
    obtain ⟨u, hu, h2, h3⟩ := (bit_img hfs _ t).1 hb
    obtain ⟨ys, hR, hly, hb2⟩ := (hS.2.2 i u hi hu).1 h2
    have hy' : (j : Int) ∈ nx ss (lastI ys).toNat := by rw [hly, Int.toNat_natCast]; exact hy
    refine (hS.2.2 j t hjl ht).2 ⟨ys ++ [(j : Int)], RW_snoc hp hR hy', lastI_snoc _ _, ?_⟩
    rw [st_snoc hR.1, hly, Int.toNat_natCast]
    exact (bit_img hfs _ t).2 ⟨u, hu, hb2, h3⟩))
  unfold coversAns
  rw [hp, hc, hs, hall, h0, hcov]
  simp [hS.1]

theorem covers_none {c : Int} {ss : List Stm} {s : Int} {xs : List Int} (h : (procOk ss && isCl c && inB s 0 127) = false) : coversAns ss c s xs = false := by
  cases hc : coversAns ss c s xs with
  | false => rfl
  | true =>
    obtain ⟨a, b, d, _⟩ := coversAns_parts hc
    rw [a, b, d] at h
    cases h

theorem solved_nil {c : Int} {ss : List Stm} {s : Int} {A : List Int} (hA : SolvedAns c ss s A) : (A.length = 0 ↔ (procOk ss && isCl c && inB s 0 127) = false) := by
  cases h : (procOk ss && isCl c && inB s 0 127)
  · rw [hA.2 h]; simp
  · have := (hA.1 h).1
    simp only [Bool.and_eq_true] at h
    have h1 := (procOk_parts h.1.1).1
    exact ⟨fun h0 => by omega, fun h0 => by cases h0⟩

end Go.Proofs.Ytebadimjpbhagaa
