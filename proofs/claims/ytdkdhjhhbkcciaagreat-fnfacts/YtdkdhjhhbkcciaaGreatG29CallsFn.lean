/-
 Put together out of: SpecAlong, SpecCovers, SolvedM, LeastM, Size, CallsFn.
-/
import Derived.Test.YtdkdhjhhbkcciaaGreatG27WaysM
import Derived.Test.YtdkdhjhhbkcciaaGreatG06SpecFlow
import Derived.BigRegion
import Derived.Test.YtdkdhjhhbkcciaaGreatG28VisitsM
import Derived.Test.YtdkdhjhhbkcciaaGreatG09Nexts
import Derived.Test.YtdkdhjhhbkcciaaGreatG00Put
namespace Go.Proofs.YtdkdhjhhbkcciaaGreat
open Go.RowKit
set_option linter.unusedVariables false
set_option maxHeartbeats 2000000
set_option maxRecDepth 4000
end Go.Proofs.YtdkdhjhhbkcciaaGreat
namespace Go.Proofs.YtdkdhjhhbkcciaaGreat
open Go.RowKit
set_option linter.unusedVariables false
set_option maxHeartbeats 4000000
set_option maxRecDepth 4000
end Go.Proofs.YtdkdhjhhbkcciaaGreat
namespace Go.Proofs.YtdkdhjhhbkcciaaGreat
set_option linter.unusedVariables false
def Snd (c : Int) (ss : List Stm) (s : Int) (i : Nat) (z : Int) : Prop := ∀ t, t < 7 → bit z t = true → ∃ ys, RW ss ys ∧ lastI ys = (i : Int) ∧ bit (st c ss s ys) t = true
structure SIv (c : Int) (ss : List Stm) (s : Int) (xs : List Int) : Prop where
 len : xs.length = ss.length
 small : ∀ k, Small (xs.getD k 0)
 snd : ∀ i, i < ss.length → Snd c ss s i (xs.getD i 0)
 start : hasA (xs.getD 0 0) s = true
theorem getD_setS {xs : List Int} {j k : Nat} {z : Int} (hj : j < xs.length) : (xs.set j z).getD k 0 = if k = j then z else xs.getD k 0 := by
 by_cases e : j = k
 · subst e
   simp [List.getD, hj]
 · rw [if_neg (fun e' => e e'.symm)]
   simp [List.getD, List.getElem?_set_ne e]
theorem SIv.begin {c : Int} {ss : List Stm} {s : Int} (hp : procOk ss = true) (hs : Small s) : SIv c ss s ((List.replicate ss.length 0).set 0 s) := by
 have h1 := (procOk_parts hp).1
 have hg : ∀ k, ((List.replicate ss.length (0 : Int)).set 0 s).getD k 0 = if k = 0 then s else 0 := fun k => by
  rw [getD_setS (by simp; omega)]
  split
  · rfl
  · exact getD_rep _ _
 refine ⟨by simp, fun k => ?_, fun i hi t ht hb => ?_, ?_⟩
 · rw [hg]; split
   · exact hs
   · exact ⟨by decide, by decide⟩
 · rw [hg] at hb
   by_cases e : i = 0
   · subst e
     rw [if_pos rfl] at hb
     exact ⟨[0], RW0 ss, rfl, hb⟩
   · rw [if_neg e, bit_zero] at hb; cases hb
 · rw [hg, if_pos rfl, hasA_iff hs hs]
   exact fun _ _ h => h
theorem SIv.step {c : Int} {ss : List Stm} {s : Int} {xs : List Int} (h : SIv c ss s xs) (hs0 : Small s) {j : Nat} (hj : j < ss.length) {z : Int} (hz : Small z) (hs : Snd c ss s j z) : SIv c ss s (xs.set j (lor (xs.getD j 0) z)) := by
 have hg := fun k => getD_setS (xs := xs) (j := j) (k := k) (z := lor (xs.getD j 0) z) (by rw [h.len]; exact hj)
 refine ⟨by rw [List.length_set]; exact h.len, fun k => ?_, fun i hi t ht hb => ?_, ?_⟩
 · rw [hg]; split
   · exact lor_small (h.small j) hz
   · exact h.small k
 · rw [hg] at hb
   by_cases e : i = j
   · subst e
     rw [if_pos rfl, bit_lor (h.small i) hz, Bool.or_eq_true] at hb
     rcases hb with hb | hb
     · exact h.snd i hi t ht hb
     · exact hs t ht hb
   · rw [if_neg e] at hb
     exact h.snd i hi t ht hb
 · rw [hg]
   have h0 := (hasA_iff (h.small 0) hs0).1 h.start
   by_cases e : 0 = j
   · rw [if_pos e, hasA_iff (lor_small (h.small j) hz) hs0]
     intro t ht hb
     rw [bit_lor (h.small j) hz, ← e, h0 t ht hb]; rfl
   · rw [if_neg e]; exact h.start
theorem SIv.solved {c : Int} {ss : List Stm} {s : Int} {xs : List Int} (hp : procOk ss = true) (hs : Small s) (h : SIv c ss s xs) (hc : covK c ss xs ss.length = true) : IsSolved c ss s xs := by
 refine ⟨h.len, h.small, fun i t hi ht => ⟨h.snd i hi t ht, ?_⟩⟩
 rintro ⟨ys, hR, hl, hb⟩
 have key := RW_ind hp (P := fun ys => ∀ t, t < 7 → bit (st c ss s ys) t = true → bit (xs.getD (lastI ys).toNat 0) t = true)
  (fun t ht hb => (hasA_iff (h.small 0) hs).1 h.start t ht hb)
  (fun zs y hz hy ih t ht hb => by
   obtain ⟨j, hj, hjl⟩ := RW_in hp hz
   have hfs := flw_smalls (c := c) hp hjl
   rw [st_snoc hz.1, hj, Int.toNat_natCast] at hb
   rw [lastI_snoc]
   rw [hj, Int.toNat_natCast] at hy ih
   have hcv := covK_iff.1 hc j hjl
   have h1 := List.all_eq_true.1 hcv y hy
   obtain ⟨y', rfl, hyl⟩ := nx_in hp hjl y hy
   rw [Int.toNat_natCast] at h1 ⊢
   refine (hasA_iff (h.small y') (img_small hfs _)).1 h1 t ht ?_
   obtain ⟨u, hu, h2, h3⟩ := (bit_img hfs _ t).1 hb
   exact (bit_img hfs _ t).2 ⟨u, hu, ih u hu h2, h3⟩)
  ys.length ys (Nat.le_refl _) hR t ht hb
 rwa [hl, Int.toNat_natCast] at key
end Go.Proofs.YtdkdhjhhbkcciaaGreat
namespace Go.Proofs.YtdkdhjhhbkcciaaGreat
set_option linter.unusedVariables false
theorem st_mono {c : Int} {ss : List Stm} {s s' : Int} (hp : procOk ss = true) (h : ∀ t, t < 7 → bit s t = true → bit s' t = true) {ys : List Int} (hR : RW ss ys) : ∀ t, t < 7 → bit (st c ss s ys) t = true → bit (st c ss s' ys) t = true :=
 RW_ind hp (P := fun ys => ∀ t, t < 7 → bit (st c ss s ys) t = true → bit (st c ss s' ys) t = true) h
  (fun zs y hz hy ih t ht hb => by
   obtain ⟨j, hj, hjl⟩ := RW_in hp hz
   have hfs := flw_smalls (c := c) hp hjl
   rw [st_snoc hz.1, hj, Int.toNat_natCast] at hb ⊢
   obtain ⟨u, hu, h2, h3⟩ := (bit_img hfs _ t).1 hb
   exact (bit_img hfs _ t).2 ⟨u, hu, ih u hu h2, h3⟩)
  ys.length ys (Nat.le_refl _) hR
end Go.Proofs.YtdkdhjhhbkcciaaGreat
namespace Go.Proofs.YtdkdhjhhbkcciaaGreat
open Go.RowKit
set_option linter.unusedVariables false
set_option maxHeartbeats 1000000
theorem programOk_len {ps : List (List Stm)} (h : programOk ps = true) : ps.length ≤ 4 ∧ 1 ≤ ps.length ∧ ∀ p ∈ ps, procOk p = true ∧ p.all (callOk ps.length) = true := by
 unfold programOk at h
 simp only [Bool.and_eq_true, decide_eq_true_eq] at h
 refine ⟨h.1.2, h.1.1, fun p hp => ?_⟩
 have := List.all_eq_true.1 h.2 p hp
 unfold partOk at this
 simpa [Bool.and_eq_true] using this
theorem procOk_len {p : List Stm} (h : procOk p = true) : p.length ≤ 12 := by
 unfold procOk at h
 simp only [Bool.and_eq_true, decide_eq_true_eq] at h
 exact h.1.1.2
end Go.Proofs.YtdkdhjhhbkcciaaGreat
namespace Go.Proofs.YtdkdhjhhbkcciaaGreat
open Go.RowKit
set_option linter.unusedVariables false
set_option maxHeartbeats 1000000
def hasB (ps : List (List Stm)) (i : Int) : Bool := programOk ps && wiB i ps.length
theorem l3In (ps : List (List Stm)) (i : Int) (v : Value) (w : World) (hl : ps.length ≤ maxLen) (hp : ∀ p ∈ ps, p.length ≤ maxLen) (hv : ReadsP w v ps) :
 Calls Tryz.prog 44 #[.agg #[v], .int .i64 i] w fun e w' => e = .returned (.bool (hasB ps i)) ∧ Below w.heap.size w w' := by
 have hb0 : Below w.heap.size w (w.alloc (.cells #[v] 26)) := by go_grown
 have he := specProgramOk ps v _ hl hp (readsP_below hv hb0)
 have H0 := heap_alloc_new w (.cells #[v] 26)
 have s0 : (w.alloc (.cells #[v] 26)).heap.size = w.heap.size + 1 := by simp
 unfold maxLen at hl
 unfold hasB
 cases hok : programOk ps
 · rw [hok] at he
   clear hv
   go_enter Tryz.func44, Tryz.ntmps44
   go_wp2_with (go_at_call 34; refine he.mono ?_; rintro e w2 ⟨rfl, b2⟩)
   go_ret
   exact ⟨rfl, hb0.trans (b2.mono hb0.size)⟩
 · rw [hok] at he
   clear hok
   have hin : ∀ W, Calls Tryz.prog 41 #[.int .i64 i, .int .i64 0, .int .i64 ((ps.length : Int) - 1)] W fun e w' => e = .returned (.bool (wiB i ps.length)) ∧ W = w' := by
    intro W
    have := l1In i 0 ((ps.length : Int) - 1) W
    rw [inB_wi, Int.sub_add_cancel] at this
    exact this
   go_enter Tryz.func44, Tryz.ntmps44
   go_wp2_with fail
   go_at_call 34
   refine he.mono ?_
   rintro e w2 ⟨rfl, b2⟩
   obtain ⟨c2, f2⟩ := one_cell ((b2.block w.heap.size (by omega)).trans H0)
   obtain ⟨ao, cap, rfl, hc⟩ := hv
   clear he
   go_wp2_with (go_at_call 41; refine (hin _).mono ?_; rintro e w3 ⟨rfl, rfl⟩)
   go_ret
   exact ⟨rfl, hb0.trans (b2.mono hb0.size)⟩
def putCall (acc : List Int) (s : Stm) : List Int := if s.k = 8 then ins s.y acc else acc
def callsOf (p : List Stm) : List Int := p.foldl putCall []
theorem ins_length (n : Int) : ∀ xs, (ins n xs).length ≤ xs.length + 1
 | [] => by simp [ins]
 | x :: xs => by
  have := ins_length n xs
  unfold ins
  split
  · simp; omega
  · split <;> simp
theorem callsOf_snoc (p : List Stm) (k : Nat) (h : k < p.length) : callsOf (p.take (k + 1)) = putCall (callsOf (p.take k)) p[k] := by
 rw [callsOf, List.take_succ_eq_append_getElem h, List.foldl_append]
 rfl
theorem callsOf_length (p : List Stm) : (callsOf p).length ≤ p.length := by
 have key : ∀ (p : List Stm) (acc : List Int), (p.foldl putCall acc).length ≤ acc.length + p.length := by
  intro p
  induction p with
  | nil => intro acc; simp
  | cons s p ih =>
   intro acc
   have h1 := ih (putCall acc s)
   have h2 : (putCall acc s).length ≤ acc.length + 1 := by
    unfold putCall
    split
    · exact ins_length _ _
    · omega
   simp only [List.foldl_cons, List.length_cons]
   omega
 simpa [callsOf] using key p []
theorem l3Calls (ps : List (List Stm)) (i : Nat) (v : Value) (w : World) (hi : i < ps.length) (hl : ps.length ≤ maxLen) (hp : ps[i].length ≤ 12) (hv : ReadsP w v ps) :
 Calls Tryz.prog 45 #[.agg #[v], .int .i64 i] w fun e w' =>
  ∃ g cap, e = .returned (.slice (some ⟨g, 0, none⟩) (callsOf ps[i]).length cap) ∧ w'.ownsRow w.heap.size 2 1 (.slice (some ⟨g, 0, none⟩) (callsOf ps[i]).length cap) (callsOf ps[i]).length (ints (callsOf ps[i])) ∧ Below w.heap.size w w' := by
 unfold maxLen at hl
 obtain ⟨ao, cap, rfl, hc⟩ := hv
 obtain ⟨g, off, u, rfl, p0, r0⟩ := hc i ps[i] (by simp [hi])
 have pB := World.block_lt_of_cell? w _ p0
 have hi' : (i : Int) < (ps.length : Int) := by omega
 clear hc
 generalize ps[i] = q at *
 obtain ⟨ua, uc, rfl, hd⟩ := r0
 have hq : (q.length : Int) ≤ 12 := by omega
 obtain ⟨R, hR⟩ : ∃ R, callsOf q = R := ⟨_, rfl⟩
 rw [hR]
 have HR : Hid _ := hR
 clear hR
 go_enter Tryz.func45, Tryz.ntmps45
 go_wp2
 have hb0 : Below w.heap.size w ((w.alloc (.cells #[.slice (some ⟨g, off, none⟩) ps.length cap] 26)).alloc (.cells #[] 2)) := by go_grown
 have m0 := own_mono (made0 (w.alloc (.cells #[.slice (some ⟨g, off, none⟩) ps.length cap] 26))) (base' := w.heap.size) (by simp)
 have z0 : (w.alloc (.cells #[.slice (some ⟨g, off, none⟩) ps.length cap] 26)).heap.size = w.heap.size + 1 := by simp
 rw [z0] at m0
 go_loopw [5, 7] (fun o i wr => ∃ (k g' cap' : Nat), k ≤ q.length ∧ i = .int .i64 k ∧ o = .slice (some ⟨g', 0, none⟩) (callsOf (q.take k)).length cap' ∧
  wr.ownsRow w.heap.size 2 1 (.slice (some ⟨g', 0, none⟩) (callsOf (q.take k)).length cap') (callsOf (q.take k)).length (ints (callsOf (q.take k))) ∧ Below w.heap.size w wr) (fun _ i _ => q.length - (intOf i).toNat)
 case atStart => exact ⟨0, w.heap.size + 1, 0, Nat.zero_le _, rfl, rfl, by simpa [callsOf, ints] using m0, hb0⟩
 case round =>
  obtain ⟨k, g', cap', hk, rfl, rfl, hown, hb⟩ := hrel
  by_cases hlt : k < q.length
  · have hlt' : (k : Int) < (q.length : Int) := by omega
    obtain ⟨g2, off2, rfl, a0, a1, a2⟩ := hd k q[k] (by simp [hlt])
    have aB := World.block_lt_of_cell? w _ a0
    have a0 := (hb.cell aB).trans a0
    have a1 := (hb.cell (p := ⟨g2, off2 + k * 3 + 1, none⟩) aB).trans a1
    have a2 := (hb.cell (p := ⟨g2, off2 + k * 3 + 2, none⟩) aB).trans a2
    have hsn : Hid _ := callsOf_snoc q k hlt
    have hlen := callsOf_length (q.take k)
    have hlen2 : (q.take k).length ≤ k := List.length_take_le _ _
    clear hd
    generalize q[k] = s at *
    obtain ⟨sk, sx, sy⟩ := s
    simp only at a0 a1 a2
    generalize callsOf (q.take k) = xs at *
    by_cases h8 : sk = 8
    · subst h8
      have HP : Hid (callsOf (q.take (k + 1)) = ins sy xs) := hsn.out.trans (by simp [putCall])
      have hput := l1Put xs sy g' cap' w.heap.size wr (by omega) hb.size hown
      clear hsn
      go_wp2_with fail
      go_at_call 65
      refine hput.mono ?_
      rintro e w2 ⟨g3, cap3, rfl, own3, b3⟩
      clear hput
      go_wp2
      go_roundw
      case rel => exact ⟨k + 1, g3, cap3, by omega, by go_num, by rw [HP.out], by rw [HP.out]; exact own3, hb.trans (b3.mono hb.size)⟩
      case measure => simp [intOf]; omega
    · have HP : Hid (callsOf (q.take (k + 1)) = xs) := hsn.out.trans (by simp [putCall, h8])
      have h8' : (sk == 8) = false := by simpa using h8
      clear hsn
      go_wp2
      go_roundw
      case rel => exact ⟨k + 1, g', cap', by omega, by go_num, by rw [HP.out], by rw [HP.out]; exact hown, hb⟩
      case measure => simp [intOf]; omega
  · have hkk : k = q.length := by omega
    subst hkk
    rw [List.take_length, HR.out] at hown
    have HRR : Hid (callsOf (q.take q.length) = R) := by
     show callsOf (q.take q.length) = R
     rw [List.take_length, HR.out]
    go_wp2
    go_ret
    exact ⟨g', cap', by rw [HRR.out]; rfl, hown, hb⟩
end Go.Proofs.YtdkdhjhhbkcciaaGreat
