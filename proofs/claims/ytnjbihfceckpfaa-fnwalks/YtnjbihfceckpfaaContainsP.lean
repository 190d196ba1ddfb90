/-
 slices.Contains over Places.
-/
import Derived.Test.YtnjbihfceckpfaaG00Stmt
import Derived.Test.YtnjbihfceckpfaaG20Lists
import Derived.Deep.RegionHeld3
namespace Go.Proofs.Ytnjbihfceckpfaa
open Go.RowKit
set_option linter.unusedVariables false
set_option linter.unusedSimpArgs false
set_option maxHeartbeats 4000000
set_option maxRecDepth 20000

theorem hasN_succ (xs : List Int) (a b : Int) (k : Nat) : hasN xs a b (k + 1) = (hasN xs a b k || (decide (xs.getD (k * 2) 0 = a) && decide (xs.getD (k * 2 + 1) 0 = b))) := rfl

theorem sliceIndexP (xs : List Int) (n : Nat) (a b : Int) (v : Value) (w : World) (hx : xs.length = 2 * n) (hl : n ≤ 1000) (hv : Reads2 w v n (ints xs)) :
 Calls Try.prog 121 #[v, .agg #[.int .i64 a, .int .i64 b]] w fun e w' => ∃ r : Int, e = .returned (.int .i64 r) ∧ decide (0 ≤ r) = hasN xs a b n ∧ -1 ≤ r ∧ r ≤ 9223372036854775807 ∧ Below w.heap.size w w' := by
 obtain ⟨ao, cap, rfl, hc⟩ := hv
 obtain ⟨B, hB⟩ : ∃ B, hasN xs a b n = B := ⟨_, rfl⟩
 rw [hB]
 have HB : Hid (hasN xs a b n = B) := hB
 clear hB
 go_enter Try.func121, Try.ntmps121
 have b0 : Below w.heap.size w (w.alloc (.cells #[.int .i64 a, .int .i64 b] 56)) := by go_grown
 have HNB := heap_alloc_new w (.cells #[.int .i64 a, .int .i64 b] 56)
 go_wp2_with fail
 go_loopw [8] (fun i wr => ∃ k : Nat, k ≤ n ∧ i = .int .i64 k ∧ Below w.heap.size w wr ∧ wr.heap[w.heap.size]? = some (.cells #[.int .i64 a, .int .i64 b] 56 (0, 0)) ∧ hasN xs a b k = false) (fun i _ => n - (intOf i).toNat)
 case atStart => exact ⟨0, Nat.zero_le _, rfl, b0, HNB, rfl⟩
 case round =>
  obtain ⟨k, hk, rfl, hb, hblk, hno⟩ := hrel
  have HNO : Hid _ := hno
  have HBB : Hid (Below w.heap.size w wr) := hb
  have HBK : Hid (wr.heap[w.heap.size]? = some (.cells #[.int .i64 a, .int .i64 b] 56 (0, 0))) := hblk
  clear hno b0 HNB
  by_cases hlt : k < n
  · have hlt' : (k : Int) < (n : Int) := by omega
    have k1 : k * 2 < xs.length := by omega
    have k2 : k * 2 + 1 < xs.length := by omega
    obtain ⟨g, off, rfl, r1⟩ := hc (k * 2) (.int .i64 (xs.getD (k * 2) 0)) (by simp [ints, List.getD, k1])
    obtain ⟨g9, o9, e9, r2⟩ := hc (k * 2 + 1) (.int .i64 (xs.getD (k * 2 + 1) 0)) (by simp [ints, List.getD, k2])
    cases e9
    rw [← Nat.add_assoc] at r2
    have z1 := World.block_lt_of_cell? w _ r1
    have r1 := (hb.cell (p := ⟨g, off + k * 2, none⟩) z1).trans r1
    have r2 := (hb.cell (p := ⟨g, off + k * 2 + 1, none⟩) z1).trans r2
    have n0 : wr.cell? ⟨w.heap.size, 0, none⟩ = some (.int .i64 a) := by simp [World.cell?, hblk]
    have n1 : wr.cell? ⟨w.heap.size, 1, none⟩ = some (.int .i64 b) := by simp [World.cell?, hblk]
    have H1 : Hid (hasN xs a b (k + 1) = (decide (xs.getD (k * 2) 0 = a) && decide (xs.getD (k * 2 + 1) 0 = b))) := by
     show _ = _
     rw [hasN_succ, HNO.out, Bool.false_or]
    have H2 : Hid (xs.getD (k * 2) 0 = a → xs.getD (k * 2 + 1) 0 = b → hasN xs a b n = true) := fun h1 h2 => hasN_of n hlt h1 h2
    clear hc hb hblk k1 k2
    generalize xs.getD (k * 2) 0 = x at *
    generalize xs.getD (k * 2 + 1) 0 = y at *
    by_cases hx : x = a ∧ y = b
    · have H4 : Hid (B = true) := HB.out.symm.trans (H2.out hx.1 hx.2)
      obtain ⟨hxa, hyb⟩ := hx
      subst x
      subst y
      clear H1 H2
      go_wp2_with fail
      refine wp_region_held_drew (S := fun w' => (w'.cell? ⟨w.heap.size, 0, none⟩ = some (.int .i64 a) ∧ w'.cell? ⟨w.heap.size, 1, none⟩ = some (.int .i64 b)) ∧ w'.cell? ⟨g, off + k * 2, none⟩ = some (.int .i64 a) ∧ w'.cell? ⟨g, off + k * 2 + 1, none⟩ = some (.int .i64 b)) (by kernel_rfl) ⟨⟨n0, n1⟩, r1, r2⟩ (fun hHeld => ?_)
      refine wpAnyH_take (i := 0) (oi := ?oip0) (v := .agg #[.int .i64 a, .int .i64 b]) ?hip0 (by kernel_rfl) (by kernel_rfl) (by kernel_rfl) ?hqp0 ?hyp0 hHeld ?hrp0
      case hip0 =>
       simp only [gA, gB, gC]
       rfl
      case hqp0 => exact fun _ _ _ h => h
      case hyp0 => exact Or.inl ⟨by kernel_rfl, fun w hSw => by obtain ⟨⟨s1, s2⟩, s3, s4⟩ := hSw; go_simp⟩
      try simp only [Act.put, gD, gE, gF]
      refine wpAnyH_take (i := 1) (oi := ?oip1) (v := .slice (some ⟨g, off, none⟩) n cap) ?hip1 (by kernel_rfl) (by kernel_rfl) (by kernel_rfl) ?hqp1 ?hyp1 hHeld ?hrp1
      case hip1 =>
       simp only [gA, gB, gC]
       rfl
      case hqp1 => exact fun _ _ _ h => h
      case hyp1 => exact Or.inl ⟨by kernel_rfl, fun w hSw => by go_simp⟩
      try simp only [Act.put, gD, gE, gF]
      refine wpAnyH_take (i := 2) (oi := ?oip2) (v := .int .i64 (k : Int)) ?hip2 (by kernel_rfl) (by kernel_rfl) (by kernel_rfl) ?hqp2 ?hyp2 hHeld ?hrp2
      case hip2 =>
       simp only [gA, gB, gC]
       rfl
      case hqp2 => exact fun _ _ _ h => h
      case hyp2 => exact Or.inl ⟨by kernel_rfl, fun w hSw => by go_simp⟩
      try simp only [Act.put, gD, gE, gF]
      refine wpAnyH_take (i := 3) (oi := ?oip3) (v := .pointer (some ⟨g, off + k * 2, none⟩)) ?hip3 (by kernel_rfl) (by kernel_rfl) (by kernel_rfl) ?hqp3 ?hyp3 hHeld ?hrp3
      case hip3 =>
       simp only [gA, gB, gC]
       rfl
      case hqp3 => exact fun _ _ _ h => h
      case hyp3 => exact Or.inl ⟨by kernel_rfl, fun w hSw => by go_simp⟩
      try simp only [Act.put, gD, gE, gF]
      refine wpAnyH_take (i := 4) (oi := ?oip4) (v := .agg #[.int .i64 a, .int .i64 b]) ?hip4 (by kernel_rfl) (by kernel_rfl) (by kernel_rfl) ?hqp4 ?hyp4 hHeld ?hrp4
      case hip4 =>
       simp only [gA, gB, gC]
       rfl
      case hqp4 => exact fun _ _ _ h => h
      case hyp4 => exact Or.inl ⟨by kernel_rfl, fun w hSw => by obtain ⟨⟨s1, s2⟩, s3, s4⟩ := hSw; go_simp⟩
      try simp only [Act.put, gD, gE, gF]
      refine wpAnyH_take (i := 5) (oi := ?oip5) (v := .bool true) ?hip5 (by kernel_rfl) (by kernel_rfl) (by kernel_rfl) ?hqp5 ?hyp5 hHeld ?hrp5
      case hip5 =>
       simp only [gA, gB, gC]
       rfl
      case hqp5 => exact fun _ _ _ h => h
      case hyp5 => exact Or.inl ⟨by kernel_rfl, fun w hSw => by go_simp⟩
      try simp only [Act.put, gD, gE, gF]
      refine wpAnyH_done (by kernel_rfl) ?_ _
      go_wp2
      go_ret
      exact ⟨k, rfl, by rw [H4.out]; simp, by omega, by omega, Below.drew HBB.out⟩
    · have H3 : Hid (hasN xs a b (k + 1) = false) := by
       show _ = _
       rw [H1.out]
       by_cases h1 : x = a
       · have h2 : ¬ y = b := fun h2 => hx ⟨h1, h2⟩
         simp [h2]
       · simp [h1]
      have HX : Hid (¬ (x = a ∧ y = b)) := hx
      clear H1 H2 hx
      go_wp2_with fail
      refine wp_region_held_drew (S := fun w' => (w'.cell? ⟨w.heap.size, 0, none⟩ = some (.int .i64 a) ∧ w'.cell? ⟨w.heap.size, 1, none⟩ = some (.int .i64 b)) ∧ w'.cell? ⟨g, off + k * 2, none⟩ = some (.int .i64 x) ∧ w'.cell? ⟨g, off + k * 2 + 1, none⟩ = some (.int .i64 y)) (by kernel_rfl) ⟨⟨n0, n1⟩, r1, r2⟩ (fun hHeld => ?_)
      refine wpAnyH_take (i := 0) (oi := ?oiq0) (v := .agg #[.int .i64 a, .int .i64 b]) ?hiq0 (by kernel_rfl) (by kernel_rfl) (by kernel_rfl) ?hqq0 ?hyq0 hHeld ?hrq0
      case hiq0 =>
       simp only [gA, gB, gC]
       rfl
      case hqq0 => exact fun _ _ _ h => h
      case hyq0 => exact Or.inl ⟨by kernel_rfl, fun w hSw => by obtain ⟨⟨s1, s2⟩, s3, s4⟩ := hSw; go_simp⟩
      try simp only [Act.put, gD, gE, gF]
      refine wpAnyH_take (i := 1) (oi := ?oiq1) (v := .slice (some ⟨g, off, none⟩) n cap) ?hiq1 (by kernel_rfl) (by kernel_rfl) (by kernel_rfl) ?hqq1 ?hyq1 hHeld ?hrq1
      case hiq1 =>
       simp only [gA, gB, gC]
       rfl
      case hqq1 => exact fun _ _ _ h => h
      case hyq1 => exact Or.inl ⟨by kernel_rfl, fun w hSw => by go_simp⟩
      try simp only [Act.put, gD, gE, gF]
      refine wpAnyH_take (i := 2) (oi := ?oiq2) (v := .int .i64 (k : Int)) ?hiq2 (by kernel_rfl) (by kernel_rfl) (by kernel_rfl) ?hqq2 ?hyq2 hHeld ?hrq2
      case hiq2 =>
       simp only [gA, gB, gC]
       rfl
      case hqq2 => exact fun _ _ _ h => h
      case hyq2 => exact Or.inl ⟨by kernel_rfl, fun w hSw => by go_simp⟩
      try simp only [Act.put, gD, gE, gF]
      refine wpAnyH_take (i := 3) (oi := ?oiq3) (v := .pointer (some ⟨g, off + k * 2, none⟩)) ?hiq3 (by kernel_rfl) (by kernel_rfl) (by kernel_rfl) ?hqq3 ?hyq3 hHeld ?hrq3
      case hiq3 =>
       simp only [gA, gB, gC]
       rfl
      case hqq3 => exact fun _ _ _ h => h
      case hyq3 => exact Or.inl ⟨by kernel_rfl, fun w hSw => by go_simp⟩
      try simp only [Act.put, gD, gE, gF]
      refine wpAnyH_take (i := 4) (oi := ?oiq4) (v := .agg #[.int .i64 x, .int .i64 y]) ?hiq4 (by kernel_rfl) (by kernel_rfl) (by kernel_rfl) ?hqq4 ?hyq4 hHeld ?hrq4
      case hiq4 =>
       simp only [gA, gB, gC]
       rfl
      case hqq4 => exact fun _ _ _ h => h
      case hyq4 => exact Or.inl ⟨by kernel_rfl, fun w hSw => by obtain ⟨⟨s1, s2⟩, s3, s4⟩ := hSw; go_simp⟩
      try simp only [Act.put, gD, gE, gF]
      refine wpAnyH_take (i := 5) (oi := ?oiq5) (v := .bool false) ?hiq5 (by kernel_rfl) (by kernel_rfl) (by kernel_rfl) ?hqq5 ?hyq5 hHeld ?hrq5
      case hiq5 =>
       simp only [gA, gB, gC]
       rfl
      case hqq5 => exact fun _ _ _ h => h
      case hyq5 => exact Or.inl ⟨by kernel_rfl, fun w hSw => by go_simp; (by_cases h1 : a = x); (by_cases h2 : b = y); (exact absurd ⟨h1.symm, h2.symm⟩ HX.out); (simp [h2]); (simp [h1])⟩
      try simp only [Act.put, gD, gE, gF]
      refine wpAnyH_done (by kernel_rfl) ?_ _
      go_wp2
      go_roundw
      case rel => exact ⟨k + 1, by omega, by go_num, Below.drew HBB.out, HBK.out, H3.out⟩
      case measure => simp [intOf]; omega
  · have hkk : k = n := by omega
    subst hkk
    go_wp2
    go_ret
    have h := HNO.out
    rw [HB.out] at h
    exact ⟨-1, rfl, by rw [h]; rfl, by omega, by omega, HBB.out⟩

theorem sliceContainsP (xs : List Int) (a b : Int) (v : Value) (w : World) (n : Nat) (hx : xs.length = 2 * n) (hl : n ≤ 1000) (hv : Reads2 w v n (ints xs)) :
 Calls Try.prog 90 #[v, .agg #[.int .i64 a, .int .i64 b]] w fun e w' => e = .returned (.bool (hasPl xs a b)) ∧ Below w.heap.size w w' := by
 have b0 : Below w.heap.size w (w.alloc (.cells #[.int .i64 a, .int .i64 b] 56)) := by go_grown
 have hi := fun W hr => sliceIndexP xs n a b v W hx hl hr
 have hrd := fun W (hb : Below w.heap.size w W) => reads2_below hv hb
 have he : hasPl xs a b = hasN xs a b n := by unfold hasPl; rw [hx, Nat.mul_div_cancel_left n (by omega)]
 rw [he]
 obtain ⟨B, hB⟩ : ∃ B, hasN xs a b n = B := ⟨_, rfl⟩
 rw [hB] at hi ⊢
 obtain ⟨ao, cap, rfl, _⟩ := hv
 clear he hB
 go_enter Try.func90, Try.ntmps90
 go_wp2_with fail
 go_at_call 121
 refine (hi _ (hrd _ b0)).mono ?_
 rintro e w1 ⟨r, rfl, hr, _, _, b1⟩
 have HR : Hid _ := hr
 have BB : Hid (Below w.heap.size w w1) := b0.trans (b1.mono b0.size)
 clear hr hi hrd
 go_wp2_with fail
 go_ret
 exact ⟨by rw [← HR.out]; rfl, BB.out⟩

end Go.Proofs.Ytnjbihfceckpfaa
