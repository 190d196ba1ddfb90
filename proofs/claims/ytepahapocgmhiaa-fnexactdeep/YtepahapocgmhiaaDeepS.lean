/-
  Chapter 1: Deep, the specification's side.
-/
import Derived.Test.YtepahapocgmhiaaDeepM
import Derived.Test.YtepahapocgmhiaaValTop
namespace Go.Proofs.Ytepahapocgmhiaa
open Go.RowKit
set_option linter.unusedVariables false
set_option linter.unusedSimpArgs false
set_option maxHeartbeats 8000000
set_option maxRecDepth 20000

theorem l1MaxN (a b : Nat) (w : World) : Calls Try.prog 51 #[.int .i64 (a : Int), .int .i64 (b : Int)] w fun e w' => e = .returned (.int .i64 ((max a b : Nat) : Int)) ∧ w = w' := by
  by_cases h : b < a
  · have hm : max a b = a := by omega
    have hi : (b : Int) < (a : Int) := by omega
    rw [hm]
    clear hm h
    go_enter Try.func51, Try.ntmps51
    go_wp2
    go_ret
    exact ⟨rfl, rfl⟩
  · have hm : max a b = b := by omega
    have hi : ¬ (b : Int) < (a : Int) := by omega
    rw [hm]
    clear hm h
    go_enter Try.func51, Try.ntmps51
    go_wp2
    go_ret
    exact ⟨rfl, rfl⟩

/-- spec.l1Deep of a right value of d levels. -/
def DPS (d : Nat) : Prop := ∀ (x : Val d) (cs : List Value) (deep : Int) (w : World), 0 ≤ deep → deep ≤ 6 → RightV d x deep → RdVL d w w.heap.size cs x →
  Calls Try.prog 26 #[.agg cs.toArray] w fun e w' => ∃ B : Nat, e = .returned (.int .i64 (B : Int)) ∧ B = deepV d x ∧ Below w.heap.size w w'

theorem stepDeepS {d : Nat} (ih : DPS d) : DPS (d + 1) := by
  intro x cs deep w hd0 hd6 hR hr
  obtain ⟨k, n, t, its, ks⟩ := x
  obtain ⟨iv, kv, rfl, ⟨ia, ic, rfl, hic⟩, hil, ⟨ka, kc, rfl, -, hkc⟩, hkl, htl, hkx⟩ := hr
  rw [List.length_map]
  obtain ⟨il, hil9⟩ : ∃ z, its.length = z := ⟨_, rfl⟩
  obtain ⟨kl, hkl9⟩ : ∃ z, ks.length = z := ⟨_, rfl⟩
  rw [hil9] at hil ⊢
  rw [hkl9]
  have HIL : Hid (its.length = il) := hil9
  clear hil9 hkl9 hkc htl hkx hkl
  obtain ⟨W0, hW0⟩ : ∃ W, w.alloc (.cells #[.int .i64 k, .int .i64 n, .string t, .slice ia il ic, .slice ka kl kc] 30) = W := ⟨_, rfl⟩
  have HB0 : Hid (Below w.heap.size w W0) := by show Below w.heap.size w W0; rw [← hW0]; go_grown
  have HX0 : Hid (W0.heap[w.heap.size]? = some (.cells #[.int .i64 k, .int .i64 n, .string t, .slice ia il ic, .slice ka kl kc] 30 (0, 0))) := by
    show W0.heap[w.heap.size]? = _
    rw [← hW0]; exact heap_alloc_new w _
  obtain ⟨bX, hbX⟩ : ∃ z, w.heap.size = z := ⟨_, rfl⟩
  have HBX : Hid (w.heap.size = bX) := hbX
  have HALL : Hid (∀ x ∈ its, RightV d x (deep - 1)) := hR.2.2
  have hdp := hR.1
  have HIC : Hid _ := hic
  unfold maxLen at hil
  clear hic hR
  obtain ⟨c0, c1, c2, c3, c4⟩ := five_in HX0.out
  rw [hbX] at c0 c1 c2 c3 c4
  go_enter Try.func26, Try.ntmps26
  rw [hbX]
  go_wp2_with fail
  clear hW0 hbX c0 c1 c2 c3 c4
  go_loopw [3, 4] (fun s i wr => ∃ j A : Nat, j ≤ il ∧ i = .int .i64 (j : Int) ∧ s = .int .i64 (A : Int) ∧ A = deepL (its.take j) ∧ Below w.heap.size w wr ∧ wr.heap[bX]? = some (.cells #[.int .i64 k, .int .i64 n, .string t, .slice ia il ic, .slice ka kl kc] 30 (0, 0))) (fun _ i _ => il - (intOf i).toNat)
  case atStart => exact ⟨0, 0, Nat.zero_le _, rfl, rfl, by simp [deepL], HB0.out, by rw [← HBX.out]; exact HX0.out⟩
  case round =>
    obtain ⟨j, A, hj, rfl, rfl, hA, hbr, hxr⟩ := hrel
    have HA : Hid (A = deepL (its.take j)) := hA
    obtain ⟨wa, hwa⟩ : ∃ z, z = wr := ⟨_, rfl⟩
    subst hwa
    have HBR : Hid (Below w.heap.size w wa) := hbr
    have HXR : Hid (wa.heap[bX]? = some (.cells #[.int .i64 k, .int .i64 n, .string t, .slice ia il ic, .slice ka kl kc] 30 (0, 0))) := hxr
    obtain ⟨c0, c1, c2, c3, c4⟩ := five_in hxr
    have hAle := deepL_mono j (by omega) HALL.out
    rw [← hA] at hAle
    clear hA hbr hxr HB0 HX0
    by_cases hlt : j < il
    · have hlt' : (j : Int) < (il : Int) := by omega
      have hk0 : (0 : Int) ≤ (j : Int) := by omega
      have hlt2 : j < its.length := by have := HIL.out; omega
      obtain ⟨xj, hxj⟩ : ∃ x, its[j] = x := ⟨_, rfl⟩
      have HTK : Hid (deepL (its.take (j + 1)) = max (deepL (its.take j)) (deepV d xj)) := by
        show deepL (its.take (j + 1)) = _
        rw [deepL_take its j hlt2, hxj]
      have hrx : RightV d xj (deep - 1) := HALL.out xj (by rw [← hxj]; exact List.getElem_mem hlt2)
      obtain ⟨b, off, cs, ha, hbg, hcl, hcell, hrv⟩ := HIC.out j xj (by rw [← hxj]; simp [hlt2])
      clear hxj hlt2
      subst ha
      match cs, hcl with
      | [x0, x1, x2, x3, x4], _ =>
        have keep : ∀ {o : Nat} {v : Value}, w.cell? ⟨b, o, none⟩ = some v → wa.cell? ⟨b, o, none⟩ = some v := fun h => (World.cell?_of_block (HBR.out.block b hbg)).trans h
        have e0 := keep (hcell 0 (by omega))
        have e1 := keep (hcell 1 (by omega))
        have e2 := keep (hcell 2 (by omega))
        have e3 := keep (hcell 3 (by omega))
        have e4 := keep (hcell 4 (by omega))
        rw [Nat.add_zero] at e0
        have hrd : RdVL d wa wa.heap.size [x0, x1, x2, x3, x4] xj := hrv.keep (fun a v ha hv => (World.cell?_of_block (HBR.out.block a.block ha)).trans hv) HBR.out.size
        have hih := ih xj [x0, x1, x2, x3, x4] (deep - 1) wa (by omega) (by omega) hrx hrd
        have hle := deepV_le hrx
        clear hcell hrv hrd keep hrx
        go_wp2_with fail
        go_at_call 26
        refine hih.mono ?_
        rintro e wb ⟨B, rfl, hB, hb1⟩
        have HBB : Hid (B = deepV d xj) := hB
        have HB1 : Hid (Below w.heap.size w wb) := low_step HBR.out hb1
        have HX1 : Hid (wb.heap[bX]? = some (.cells #[.int .i64 k, .int .i64 n, .string t, .slice (some ⟨b, off, none⟩) il ic, .slice ka kl kc] 30 (0, 0))) := box_step HXR.out hb1
        have hmx := l1MaxN A B wb
        clear hih hB hb1 e0 e1 e2 e3 e4 c0 c1 c2 c3 c4 hle
        go_wp2_with fail
        go_at_call 51
        refine hmx.mono ?_
        rintro e w9 ⟨rfl, rfl⟩
        have HNX : Hid (max A B = deepL (its.take (j + 1))) := by show max A B = _; rw [HTK.out, ← HA.out, HBB.out]
        clear hmx
        go_wp2
        go_roundw
        case rel => exact ⟨j + 1, max A B, by omega, by go_num, rfl, HNX.out, HB1.out, HX1.out⟩
        case measure => exact meas_step hlt
    · obtain rfl : j = il := by omega
      have hn9 : ¬ (j : Int) < (j : Int) := by omega
      have hfull : its.take j = its := List.take_of_length_le (by have := HIL.out; omega)
      have hw9 : IntKind.i64.wrap ((A : Int) + 1) = ((A + 1 : Nat) : Int) := by rw [Int.natCast_add]; exact IntWalk.i64_in _ (by omega)
      have HE : Hid (A + 1 = deepV (d + 1) (k, n, t, its, ks)) := by show A + 1 = deepL its + 1; rw [HA.out, hfull]
      clear hfull hAle
      go_wp2
      go_ret
      exact ⟨A + 1, rfl, HE.out, by have h := HBR.out; rw [HBX.out] at h; exact h⟩

theorem specDeepAt : ∀ d, DPS d
  | 0 => fun x cs deep w _ _ hR _ => hR.elim
  | d + 1 => stepDeepS (specDeepAt d)

end Go.Proofs.Ytepahapocgmhiaa
