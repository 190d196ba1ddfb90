/-
  Mathematics of FnLeastInside: whatever covers has all that is solved; what begins with more solves to more; what is solved covers.
-/
import Derived.Test.YtciccbbgamklbaaG05Lists
namespace Go.Proofs.Ytciccbbgamklbaa
set_option linter.unusedVariables false

theorem coversAns_parts {ss : List Stm} {c s : Int} {xs : List Int} (h : coversAns ss c s xs = true) : procOk ss = true ∧ isCl c = true ∧ inB s 0 127 = true ∧ xs.length = ss.length ∧ xs.all (fun x => inB x 0 127) = true ∧ hasA (xs.getD 0 0) s = true ∧ covK c ss xs ss.length = true := by
  simp only [coversAns, Bool.and_eq_true, decide_eq_true_eq] at h
  obtain ⟨⟨⟨⟨⟨⟨a, b⟩, c⟩, d⟩, e⟩, f⟩, g⟩ := h
  exact ⟨a, b, c, d, e, f, g⟩

theorem cov_way {c : Int} {ss : List Stm} {s : Int} {xs : List Int} (hp : procOk ss = true) (hs : Small s) (hsm : ∀ k, Small (xs.getD k 0)) (h0 : hasA (xs.getD 0 0) s = true) (hc : covK c ss xs ss.length = true) {ys : List Int} (hR : RW ss ys) : ∀ t, t < 7 → bit (st c ss s ys) t = true → bit (xs.getD (lastI ys).toNat 0) t = true :=
  RW_ind hp (P := fun ys => ∀ t, t < 7 → bit (st c ss s ys) t = true → bit (xs.getD (lastI ys).toNat 0) t = true)
    (fun t ht hb => (hasA_iff (hsm 0) hs).1 h0 t ht hb)
    (fun zs y hz hy ih t ht hb => by
      obtain ⟨j, hj, hjl⟩ := RW_in hp hz
      have hfs := flw_smalls (c := c) hp hjl
      rw [st_snoc hz.1, hj, Int.toNat_natCast] at hb
      rw [lastI_snoc]
      rw [hj, Int.toNat_natCast] at hy ih
      have hcv := covK_iff.1 hc j hjl
      have h1 := List.all_eq_true.1 hcv y hy
      obtain ⟨y', rfl, hyl⟩ := nx_in hp hjl y hy
      rw [Int.toNat_natCast] at h1 ⊢
      refine (hasA_iff (hsm y') (img_small hfs _)).1 h1 t ht ?_
      obtain ⟨u, hu, h2, h3⟩ := (bit_img hfs _ t).1 hb
      exact (bit_img hfs _ t).2 ⟨u, hu, ih u hu h2, h3⟩)
    ys.length ys (Nat.le_refl _) hR

theorem lor_of_has {a b : Int} (ha : Small a) (hb : Small b) (h : hasA b a = true) : lor a b = b := by
  rw [lor_comm ha hb]
  unfold hasA at h
  exact of_decide_eq_true h

theorem covers_least {c : Int} {ss : List Stm} {s : Int} {xs A : List Int} (h : coversAns ss c s xs = true) (hA : SolvedAns c ss s A) (i : Nat) (hi : i < A.length) : lor (A.getD i 0) (xs.getD i 0) = xs.getD i 0 := by
  obtain ⟨hp, hc, hs, hl, hall, h0, hcov⟩ := coversAns_parts h
  have hS := hA.1 (by rw [hp, hc, hs]; rfl)
  have hsm := fun k => smallAll hall k
  refine lor_of_has (hS.2.1 i) (hsm i) ((hasA_iff (hsm i) (hS.2.1 i)).2 (fun t ht hb => ?_))
  obtain ⟨ys, hR, hly, hb2⟩ := (hS.2.2 i t (by rw [← hS.1]; exact hi) ht).1 hb
  have := cov_way hp (small_in.1 hs) hsm h0 hcov hR t ht hb2
  rwa [hly, Int.toNat_natCast] at this

theorem st_mono {c : Int} {ss : List Stm} {s s' : Int} (hp : procOk ss = true) (h : ∀ t, t < 7 → bit s t = true → bit s' t = true) {ys : List Int} (hR : RW ss ys) : ∀ t, t < 7 → bit (st c ss s ys) t = true → bit (st c ss s' ys) t = true :=
  RW_ind hp (P := fun ys => ∀ t, t < 7 → bit (st c ss s ys) t = true → bit (st c ss s' ys) t = true) h
    (fun zs y hz hy ih t ht hb => by
      obtain ⟨j, hj, hjl⟩ := RW_in hp hz
      have hfs := flw_smalls (c := c) hp hjl
      rw [st_snoc hz.1, hj, Int.toNat_natCast] at hb ⊢
      obtain ⟨u, hu, h2, h3⟩ := (bit_img hfs _ t).1 hb
      exact (bit_img hfs _ t).2 ⟨u, hu, ih u hu h2, h3⟩)
    ys.length ys (Nat.le_refl _) hR

theorem solved_more {c : Int} {ss : List Stm} {s x : Int} {A B : List Int} (hok : (procOk ss && isCl c && inB s 0 127) = true) (hx : Small x) (hA : SolvedAns c ss s A) (hB : SolvedAns c ss (lor s x) B) : B.length = A.length ∧ ∀ i, i < A.length → lor (A.getD i 0) (B.getD i 0) = B.getD i 0 := by
  have hparts : procOk ss = true ∧ isCl c = true ∧ inB s 0 127 = true := by
    simp only [Bool.and_eq_true] at hok
    exact ⟨hok.1.1, hok.1.2, hok.2⟩
  obtain ⟨hp, hc, hs⟩ := hparts
  have hsm := small_in.1 hs
  have hS := hA.1 hok
  have hT := hB.1 (by rw [hp, hc, small_in.2 (lor_small hsm hx)]; rfl)
  refine ⟨by rw [hS.1, hT.1], fun i hi => lor_of_has (hS.2.1 i) (hT.2.1 i) ((hasA_iff (hT.2.1 i) (hS.2.1 i)).2 (fun t ht hb => ?_))⟩
  rw [hS.1] at hi
  obtain ⟨ys, hR, hly, hb2⟩ := (hS.2.2 i t hi ht).1 hb
  refine (hT.2.2 i t hi ht).2 ⟨ys, hR, hly, st_mono hp (fun t ht h => ?_) hR t ht hb2⟩
  rw [bit_lor hsm hx, h]; rfl

theorem covers_solved {c : Int} {ss : List Stm} {s : Int} {A : List Int} (hok : (procOk ss && isCl c && inB s 0 127) = true) (hA : SolvedAns c ss s A) : coversAns ss c s A = true := by
  have hparts : procOk ss = true ∧ isCl c = true ∧ inB s 0 127 = true := by
    simp only [Bool.and_eq_true] at hok
    exact ⟨hok.1.1, hok.1.2, hok.2⟩
  obtain ⟨hp, hc, hs⟩ := hparts
  have hsm := small_in.1 hs
  have hS := hA.1 hok
  have h1 := (procOk_parts hp).1
  have hall : A.all (fun x => inB x 0 127) = true := List.all_eq_true.2 (fun x hx => by
    obtain ⟨k, hk, e⟩ := List.mem_iff_getElem.1 hx
    have := hS.2.1 k
    rw [show A.getD k 0 = x by simp [List.getD, hk, e]] at this
    exact small_in.2 this)
  have h0 : hasA (A.getD 0 0) s = true := (hasA_iff (hS.2.1 0) hsm).2 (fun t ht hb => (hS.2.2 0 t h1 ht).2 ⟨[0], RW0 ss, rfl, hb⟩)
  have hcov : covK c ss A ss.length = true := covK_iff.2 (fun i hi => List.all_eq_true.2 (fun y hy => by
    obtain ⟨j, rfl, hjl⟩ := nx_in hp hi y hy
    have hfs := flw_smalls (c := c) hp hi
    rw [Int.toNat_natCast]
    refine (hasA_iff (hS.2.1 j) (img_small hfs _)).2 (fun t ht hb => ?_)
    obtain ⟨u, hu, h2, h3⟩ := (bit_img hfs _ t).1 hb
    obtain ⟨ys, hR, hly, hb2⟩ := (hS.2.2 i u hi hu).1 h2
    have hy' : (j : Int) ∈ nx ss (lastI ys).toNat := by rw [hly, Int.toNat_natCast]; exact hy
    refine (hS.2.2 j t hjl ht).2 ⟨ys ++ [(j : Int)], RW_snoc hp hR hy', lastI_snoc _ _, ?_⟩
    rw [st_snoc hR.1, hly, Int.toNat_natCast]
    exact (bit_img hfs _ t).2 ⟨u, hu, hb2, h3⟩))
  unfold coversAns
  rw [hp, hc, hs, hall, h0, hcov]
  simp [hS.1]

theorem covers_none {c : Int} {ss : List Stm} {s : Int} {xs : List Int} (h : (procOk ss && isCl c && inB s 0 127) = false) : coversAns ss c s xs = false := by
  cases hc : coversAns ss c s xs with
  | false => rfl
  | true =>
    obtain ⟨a, b, d, _⟩ := coversAns_parts hc
    rw [a, b, d] at h
    cases h

theorem solved_nil {c : Int} {ss : List Stm} {s : Int} {A : List Int} (hA : SolvedAns c ss s A) : (A.length = 0 ↔ (procOk ss && isCl c && inB s 0 127) = false) := by
  cases h : (procOk ss && isCl c && inB s 0 127)
  · rw [hA.2 h]; simp
  · have := (hA.1 h).1
    simp only [Bool.and_eq_true] at h
    have h1 := (procOk_parts h.1.1).1
    exact ⟨fun h0 => by omega, fun h0 => by cases h0⟩

end Go.Proofs.Ytciccbbgamklbaa
