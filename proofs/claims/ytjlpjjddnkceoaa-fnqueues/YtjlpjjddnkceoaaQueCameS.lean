/-
  Chapter 17: spec.Came.
-/
import Derived.Test.YtjlpjjddnkceoaaQueCame
namespace Go.Proofs.Ytjlpjjddnkceoaa
open Go.RowKit
set_option linter.unusedVariables false
set_option linter.unusedSimpArgs false
set_option maxHeartbeats 8000000
set_option maxRecDepth 20000

theorem specCame (t s n : Int) (X : List (List Int)) (v : Value) (w : World) (hl : X.length ≤ maxLen) (hx : ∀ x ∈ X, x.length ≤ maxLen) (hv : ReadsSS w v X) :
    Calls Try.prog 17 #[.agg #[.int .i64 t, v], .int .i64 s, .int .i64 n] w fun e w' => ∃ u us, e = .returned (.tuple #[.agg #[.int .i64 (cameA t X s n).1, u], .bool (cameA t X s n).2.2]) ∧ OwnQ w' w.heap.size u us (cameA t X s n).2.1 ∧ ApartSS us ∧ Below w.heap.size w w' := by
  obtain ⟨j0, hj, hy0, hy1, hy2⟩ := info_parts infoInt
  obtain ⟨T9, Y9, B9, hA9⟩ : ∃ a b c, cameA t X s n = (a, b, c) := ⟨_, _, _, rfl⟩
  rw [hA9]
  have HA9 : Hid _ := hA9
  clear hA9
  simp only
  obtain ⟨ao, cap, hvv, hc⟩ := id hv
  subst hvv
  obtain ⟨W0, hW0⟩ : ∃ W0, (w.alloc (.cells #[.int .i64 t, .slice ao X.length cap] 26)).alloc (.cells #[.int .i64 0, .slice none 0 0] 26) = W0 := ⟨_, rfl⟩
  have L0 : Below w.heap.size w W0 := by rw [← hW0]; go_grown
  have hs0 : W0.heap.size = w.heap.size + 1 + 1 := by rw [← hW0]; simp
  have hA0 : W0.heap[w.heap.size]? = some (.cells #[.int .i64 t, .slice ao X.length cap] 26 (0, 0)) := by
    rw [← hW0, old_block (by simp)]; exact heap_alloc_new w _
  have hR0 : W0.heap[w.heap.size + 1]? = some (.cells #[.int .i64 0, .slice none 0 0] 26 (0, 0)) := by
    rw [← hW0]
    have := heap_alloc_new (w.alloc (.cells #[.int .i64 t, .slice ao X.length cap] 26)) (.cells #[.int .i64 0, .slice none 0 0] 26)
    simpa using this
  obtain ⟨c0, c1, _, _⟩ := two_cellsQ hA0
  have hqq := specQueueOk t X (.slice ao X.length cap) W0 hl hx (readsSS_below hv L0)
  have HS0 : Hid _ := hs0
  clear hs0
  go_enter Try.func17, Try.ntmps17
  go_wp2_with fail
  go_at_call 11
  refine hqq.mono ?_
  rintro e w1 ⟨rfl, b1⟩
  have s1 := b1.size
  have HA1 : Hid _ := (b1.block _ (by have := HS0.out; omega)).trans hA0
  have HR1 : Hid _ := (b1.block _ (by have := HS0.out; omega)).trans hR0
  have HL1 : Hid (Below w.heap.size w w1) := L0.trans (b1.mono L0.size)
  have HS1 : Hid (w.heap.size + 1 < w1.heap.size) := by show w.heap.size + 1 < w1.heap.size; have := HS0.out; omega
  clear hqq b1 s1 L0 hA0 hR0 c0 c1 hW0 HS0
  cases hq : queB t X with
  | false =>
    obtain ⟨rfl, rfl, rfl⟩ : 0 = T9 ∧ [] = Y9 ∧ false = B9 := by
      have hca : cameA t X s n = (0, [], false) := by unfold cameA; rw [hq]; rfl
      have h9 := HA9.out
      rw [hca] at h9
      simpa using h9
    clear HA9
    obtain ⟨r0, r1, x0, x1⟩ := two_cellsQ HR1.out
    have R9 := two_setQ HR1.out (.int .i64 0) (.slice none 0 0)
    obtain ⟨y0, y1, _, _⟩ := two_cellsQ R9
    go_wp2
    refine bodyPost_ret (v := .tuple #[.agg #[.int .i64 0, .slice none 0 0], .bool false]) (by simp [results, Try.results17, go_sem, y0, y1]) rfl ?_
    exact ⟨_, [], rfl, ⟨⟨by simp, .inl ⟨rfl, rfl⟩⟩, fun j u xs hj _ => by simp at hj⟩, apartSS_nil, (HL1.out.setCell (by simp) _).setCell (by simp) _⟩
  | true =>
    obtain ⟨ht0, ht7, h8, h5, hnn⟩ := queB_parts hq
    have h8a : X.length ≤ 8 := by omega
    have h8b : 8 ≤ X.length := by omega
    clear h8
    have hcp := l17Copy t X (.slice ao X.length cap) w1 (by omega) (fun x hx' => by have := h5 x hx'; omega) (readsSS_below hv HL1.out)
    obtain ⟨a0, a1, -, -⟩ := two_cellsQ HA1.out
    go_wp2_with fail
    go_at_call 24
    refine hcp.mono ?_
    rintro e w2 ⟨u, us, rfl, ou, ap, b2⟩
    obtain ⟨ua, um, uc, rfl⟩ := own_sliceQ ou.row
    have s2 := b2.size
    obtain ⟨w3, hw3⟩ : ∃ w3, w2.alloc (.cells #[.int .i64 t, .slice ua um uc] 26) = w3 := ⟨_, rfl⟩
    have b3 : Below w2.heap.size w2 w3 := by rw [← hw3]; go_grown
    obtain ⟨C, hC⟩ : ∃ C, w2.heap.size = C := ⟨_, rfl⟩
    have HB : Hid (w3.heap[C]? = some (.cells #[.int .i64 t, .slice ua um uc] 26 (0, 0))) := by
      show w3.heap[C]? = _
      rw [← hw3, ← hC]; exact heap_alloc_new w2 _
    have HQ : Hid (OwnSS w3 w1.heap.size (.slice ua um uc) us X) := ou.below b3
    have HAP : Hid _ := ap
    have HA3 : Hid _ := box_stepQ (box_stepQ HA1.out b2) b3
    have HR3 : Hid _ := box_stepQ (box_stepQ HR1.out b2) b3
    have HL3 : Hid (Below w.heap.size w w3) := low_stepQ (low_stepQ HL1.out b2) b3
    have HSC : Hid (C < w3.heap.size ∧ w1.heap.size ≤ C) := ⟨(Array.getElem?_eq_some_iff.1 HB.out).1, by rw [← hC]; exact s2⟩
    have HS2 : Hid (w.heap.size + 1 < w1.heap.size) := HS1.out
    have HSZ : Hid (w1.heap.size ≤ w3.heap.size) := Nat.le_trans s2 b3.size
    clear hcp ou ap b2 b3 s2 HS1 HA1 HR1 HL1 a0 a1
    obtain ⟨a0, a1, -, -⟩ := two_cellsQ HA3.out
    cases hs1 : inB s 0 7 with
    | false =>
      obtain ⟨rfl, rfl, rfl⟩ : t = T9 ∧ X = Y9 ∧ false = B9 := by
        have hca : cameA t X s n = (t, X, false) := by unfold cameA; rw [hq, hs1]; rfl
        have h9 := HA9.out
        rw [hca] at h9
        simpa using h9
      clear HA9
      obtain ⟨b0, b1, -, -⟩ := two_cellsQ HB.out
      obtain ⟨r0, r1, x0, x1⟩ := two_cellsQ HR3.out
      have R9 := two_setQ HR3.out (.int .i64 t) (.slice ua um uc)
      obtain ⟨y0, y1, _, _⟩ := two_cellsQ R9
      go_wp2_with fail
      go_at_call 30
      refine (l1In _ _ _ _).mono ?_
      rintro e wz ⟨rfl, hzz⟩
      obtain rfl : w3 = wz := hzz
      simp only [hs1]
      go_wp2
      refine bodyPost_ret (v := .tuple #[.agg #[.int .i64 t, .slice ua um uc], .bool false]) (by simp [results, Try.results17, go_sem, y0, y1]) rfl ?_
      exact ⟨_, us, rfl, OwnQ.of_own (((HQ.out.set (by have := HS2.out; omega)).set (by have := HS2.out; omega)).mono (base' := w.heap.size) (by have := HS2.out; omega)), HAP.out, (HL3.out.setCell (by simp) _).setCell (by simp) _⟩
    | true =>
    cases hn1 : nwB n with
    | false =>
      have hn2 : inB n 1 1000000 = false := hn1
      obtain ⟨rfl, rfl, rfl⟩ : t = T9 ∧ X = Y9 ∧ false = B9 := by
        have hca : cameA t X s n = (t, X, false) := by unfold cameA; rw [hq, hs1, hn1]; rfl
        have h9 := HA9.out
        rw [hca] at h9
        simpa using h9
      clear HA9
      obtain ⟨b0, b1, -, -⟩ := two_cellsQ HB.out
      obtain ⟨r0, r1, x0, x1⟩ := two_cellsQ HR3.out
      have R9 := two_setQ HR3.out (.int .i64 t) (.slice ua um uc)
      obtain ⟨y0, y1, _, _⟩ := two_cellsQ R9
      go_wp2_with fail
      go_at_call 30
      refine (l1In _ _ _ _).mono ?_
      rintro e wz ⟨rfl, hzz⟩
      obtain rfl : w3 = wz := hzz
      simp only [hs1]
      go_wp2_with fail
      go_at_call 30
      refine (l1In _ _ _ _).mono ?_
      rintro e wz ⟨rfl, hzz⟩
      obtain rfl : w3 = wz := hzz
      simp only [hn2]
      go_wp2
      refine bodyPost_ret (v := .tuple #[.agg #[.int .i64 t, .slice ua um uc], .bool false]) (by simp [results, Try.results17, go_sem, y0, y1]) rfl ?_
      exact ⟨_, us, rfl, OwnQ.of_own (((HQ.out.set (by have := HS2.out; omega)).set (by have := HS2.out; omega)).mono (base' := w.heap.size) (by have := HS2.out; omega)), HAP.out, (HL3.out.setCell (by simp) _).setCell (by simp) _⟩
    | true =>
    have hn2 : inB n 1 1000000 = true := hn1
    obtain ⟨hs2, hs3⟩ := inB_iffQ.1 hs1
    obtain ⟨j, rfl⟩ : ∃ j : Nat, s = (j : Int) := ⟨s.toNat, by omega⟩
    have hjX : j < X.length := by omega
    have hjX' : (j : Int) < (X.length : Int) := by omega
    obtain ⟨g, off, z0, rfl, p0, rz⟩ := hc j X[j] (by simp [hjX])
    have p1 := (HL3.out.cell (World.block_lt_of_cell? w _ p0)).trans p0
    obtain ⟨za, zc, rfl, _⟩ := id rz
    rw [ints_length] at p1
    have hgd : X.getD j [] = X[j] := by simp [List.getD, hjX]
    by_cases hfull : X[j].length = 5
    · have hf' : ((X[j].length : Int) == 5) = true := by simp; omega
      obtain ⟨rfl, rfl, rfl⟩ : t = T9 ∧ X = Y9 ∧ false = B9 := by
        have hca : cameA t X (j : Int) n = (t, X, false) := by unfold cameA; rw [hq, hs1, hn1, Int.toNat_natCast, hgd, hfull]; rfl
        have h9 := HA9.out
        rw [hca] at h9
        simpa using h9
      clear HA9
      clear hfull hgd rz p0
      generalize X[j].length = xl at *
      obtain ⟨b0, b1, -, -⟩ := two_cellsQ HB.out
      obtain ⟨r0, r1, x0, x1⟩ := two_cellsQ HR3.out
      have R9 := two_setQ HR3.out (.int .i64 t) (.slice ua um uc)
      obtain ⟨y0, y1, _, _⟩ := two_cellsQ R9
      go_wp2_with fail
      go_at_call 30
      refine (l1In _ _ _ _).mono ?_
      rintro e wz ⟨rfl, hzz⟩
      obtain rfl : w3 = wz := hzz
      simp only [hs1]
      go_wp2_with fail
      go_at_call 30
      refine (l1In _ _ _ _).mono ?_
      rintro e wz ⟨rfl, hzz⟩
      obtain rfl : w3 = wz := hzz
      simp only [hn2]
      go_wp2
      refine bodyPost_ret (v := .tuple #[.agg #[.int .i64 t, .slice ua um uc], .bool false]) (by simp [results, Try.results17, go_sem, y0, y1]) rfl ?_
      exact ⟨_, us, rfl, OwnQ.of_own (((HQ.out.set (by have := HS2.out; omega)).set (by have := HS2.out; omega)).mono (base' := w.heap.size) (by have := HS2.out; omega)), HAP.out, (HL3.out.setCell (by simp) _).setCell (by simp) _⟩
    · obtain ⟨ys, hys⟩ : ∃ ys, X[j] = ys := ⟨_, rfl⟩
      have hle := h5 X[j] (List.getElem_mem hjX)
      have hXj : X[j]? = some ys := by rw [← hys]; simp [hjX]
      have HXJ : Hid _ := hXj
      rw [hys] at hfull hgd p1 hle
      have hf' : ((ys.length : Int) == 5) = false := by simp; omega
      obtain ⟨rfl, rfl, rfl⟩ : t = T9 ∧ X.set j (ys ++ [n]) = Y9 ∧ true = B9 := by
        have hca : cameA t X (j : Int) n = (t, X.set j (ys ++ [n]), true) := by unfold cameA; rw [hq, hs1, hn1, Int.toNat_natCast, hgd]; simp [hfull]
        have h9 := HA9.out
        rw [hca] at h9
        simpa using h9
      clear HA9 hXj hys hfull hgd p0 rz
      have hlu := HQ.out.len
      have huj0 : us[j]? = some (us[j]'(by omega)) := by simp [hlu, hjX]
      generalize us[j]'(by omega) = y at huj0
      have huj : Hid _ := huj0
      clear hlu
      have hOj0 := HQ.out.each j y ys huj.out HXJ.out
      obtain ⟨ya, yn, yc, rfl⟩ := own_sliceQ hOj0
      have HOj : Hid (w3.ownsRow w1.heap.size 2 1 (.slice ya yn yc) ys.length (ints ys)) := hOj0
      obtain ⟨R, rc, hRe⟩ : ∃ R rc, (Value.slice ua um uc) = .slice (some ⟨R, 0, none⟩) X.length rc := by
        rcases HQ.out.row.2 with ⟨_, h0⟩ | ⟨g9, c9, cur, e, _⟩
        · omega
        · exact ⟨g9, c9, e⟩
      cases hRe
      have hRlo : w1.heap.size ≤ R := (HQ.out.row.lt R rfl).1
      have hRC : C ≠ R := fun e => row_not_box HQ.out.row HB.out (by simp [Value.ownBlock, e])
      have cj : w3.cell? ⟨R, j, none⟩ = some (.slice ya yn yc) := by rw [HQ.out.row.cellAt j (by omega)]; exact huj.out
      have fj : w3.frozen? ⟨R, j, none⟩ = false := HQ.out.row.frozenAt j
      obtain ⟨b0, b1, -, -⟩ := two_cellsQ HB.out
      clear hOj0 huj0
      go_wp2_with fail
      go_at_call 30
      refine (l1In _ _ _ _).mono ?_
      rintro e wz ⟨rfl, hzz⟩
      obtain rfl : w3 = wz := hzz
      simp only [hs1]
      go_wp2_with fail
      go_at_call 30
      refine (l1In _ _ _ _).mono ?_
      rintro e wz ⟨rfl, hzz⟩
      obtain rfl : w3 = wz := hzz
      simp only [hn2]
      go_wp2_with fail
      refine wp_region_late (S := fun w' => w'.cell? ⟨C, 1, none⟩ = some (.slice (some ⟨R, 0, none⟩) X.length uc) ∧ w'.cell? ⟨R, j, none⟩ = some (.slice ya yn yc)) (late := fun j => j == 12) (by kernel_rfl) ⟨b1, cj⟩ (fun hHeld => ?_)
      refine wpAnyG_take (i := 0) (oi := ?oicm0) (v := .pointer (some ⟨C, 1, none⟩)) ?hicm0 (by kernel_rfl) (by kernel_rfl) (by kernel_rfl) (by kernel_rfl) ?hqcm0 ?hycm0 hHeld ?hrcm0
      case hicm0 =>
        simp only [List.getElem?_toArray, List.getElem?_cons_succ, List.getElem?_cons_zero]
        rfl
      case hqcm0 => exact fun _ _ _ h => h
      case hycm0 => exact Or.inl ⟨by kernel_rfl, fun w hSw => by go_simp⟩
      try simp only [Act.put, List.setIfInBounds_toArray, List.set_cons_zero, List.set_cons_succ]
      refine wpAnyG_take (i := 1) (oi := ?oicm1) (v := .slice (some ⟨R, 0, none⟩) X.length uc) ?hicm1 (by kernel_rfl) (by kernel_rfl) (by kernel_rfl) (by kernel_rfl) ?hqcm1 ?hycm1 hHeld ?hrcm1
      case hicm1 =>
        simp only [List.getElem?_toArray, List.getElem?_cons_succ, List.getElem?_cons_zero]
        rfl
      case hqcm1 => exact fun _ _ _ h => h
      case hycm1 => exact Or.inl ⟨by kernel_rfl, fun w hSw => by obtain ⟨s0, s1⟩ := hSw; go_simp⟩
      try simp only [Act.put, List.setIfInBounds_toArray, List.set_cons_zero, List.set_cons_succ]
      refine wpAnyG_take (i := 2) (oi := ?oicm2) (v := .int .i64 (j : Int)) ?hicm2 (by kernel_rfl) (by kernel_rfl) (by kernel_rfl) (by kernel_rfl) ?hqcm2 ?hycm2 hHeld ?hrcm2
      case hicm2 =>
        simp only [List.getElem?_toArray, List.getElem?_cons_succ, List.getElem?_cons_zero]
        rfl
      case hqcm2 => exact fun _ _ _ h => h
      case hycm2 => exact Or.inl ⟨by kernel_rfl, fun w hSw => by go_simp⟩
      try simp only [Act.put, List.setIfInBounds_toArray, List.set_cons_zero, List.set_cons_succ]
      refine wpAnyG_take (i := 3) (oi := ?oicm3) (v := .pointer (some ⟨C, 1, none⟩)) ?hicm3 (by kernel_rfl) (by kernel_rfl) (by kernel_rfl) (by kernel_rfl) ?hqcm3 ?hycm3 hHeld ?hrcm3
      case hicm3 =>
        simp only [List.getElem?_toArray, List.getElem?_cons_succ, List.getElem?_cons_zero]
        rfl
      case hqcm3 => exact fun _ _ _ h => h
      case hycm3 => exact Or.inl ⟨by kernel_rfl, fun w hSw => by go_simp⟩
      try simp only [Act.put, List.setIfInBounds_toArray, List.set_cons_zero, List.set_cons_succ]
      refine wpAnyG_take (i := 4) (oi := ?oicm4) (v := .slice (some ⟨R, 0, none⟩) X.length uc) ?hicm4 (by kernel_rfl) (by kernel_rfl) (by kernel_rfl) (by kernel_rfl) ?hqcm4 ?hycm4 hHeld ?hrcm4
      case hicm4 =>
        simp only [List.getElem?_toArray, List.getElem?_cons_succ, List.getElem?_cons_zero]
        rfl
      case hqcm4 => exact fun _ _ _ h => h
      case hycm4 => exact Or.inl ⟨by kernel_rfl, fun w hSw => by obtain ⟨s0, s1⟩ := hSw; go_simp⟩
      try simp only [Act.put, List.setIfInBounds_toArray, List.set_cons_zero, List.set_cons_succ]
      refine wpAnyG_take (i := 5) (oi := ?oicm5) (v := .int .i64 (j : Int)) ?hicm5 (by kernel_rfl) (by kernel_rfl) (by kernel_rfl) (by kernel_rfl) ?hqcm5 ?hycm5 hHeld ?hrcm5
      case hicm5 =>
        simp only [List.getElem?_toArray, List.getElem?_cons_succ, List.getElem?_cons_zero]
        rfl
      case hqcm5 => exact fun _ _ _ h => h
      case hycm5 => exact Or.inl ⟨by kernel_rfl, fun w hSw => by go_simp⟩
      try simp only [Act.put, List.setIfInBounds_toArray, List.set_cons_zero, List.set_cons_succ]
      refine wpAnyG_take (i := 6) (oi := ?oicm6) (v := .pointer (some ⟨R, j, none⟩)) ?hicm6 (by kernel_rfl) (by kernel_rfl) (by kernel_rfl) (by kernel_rfl) ?hqcm6 ?hycm6 hHeld ?hrcm6
      case hicm6 =>
        simp only [List.getElem?_toArray, List.getElem?_cons_succ, List.getElem?_cons_zero]
        rfl
      case hqcm6 => exact fun _ _ _ h => h
      case hycm6 => exact Or.inl ⟨by kernel_rfl, fun w hSw => by go_simp⟩
      try simp only [Act.put, List.setIfInBounds_toArray, List.set_cons_zero, List.set_cons_succ]
      refine wpAnyG_take (i := 7) (oi := ?oicm7) (v := .slice ya yn yc) ?hicm7 (by kernel_rfl) (by kernel_rfl) (by kernel_rfl) (by kernel_rfl) ?hqcm7 ?hycm7 hHeld ?hrcm7
      case hicm7 =>
        simp only [List.getElem?_toArray, List.getElem?_cons_succ, List.getElem?_cons_zero]
        rfl
      case hqcm7 => exact fun _ _ _ h => h
      case hycm7 => exact Or.inl ⟨by kernel_rfl, fun w hSw => by obtain ⟨s0, s1⟩ := hSw; go_simp⟩
      try simp only [Act.put, List.setIfInBounds_toArray, List.set_cons_zero, List.set_cons_succ]
      refine wpAnyG_take (i := 8) (oi := ?oicm8) (v := .int .i64 n) ?hicm8 (by kernel_rfl) (by kernel_rfl) (by kernel_rfl) (by kernel_rfl) ?hqcm8 ?hycm8 hHeld ?hrcm8
      case hicm8 =>
        simp only [List.getElem?_toArray, List.getElem?_cons_succ, List.getElem?_cons_zero]
        rfl
      case hqcm8 => exact fun _ _ _ h => h
      case hycm8 => exact Or.inl ⟨by kernel_rfl, fun w hSw => by go_simp⟩
      try simp only [Act.put, List.setIfInBounds_toArray, List.set_cons_zero, List.set_cons_succ]
      refine wpAnyG_ready (rs := [9]) (by kernel_rfl) (by simp) ?_
      refine (AllReadyG.cons (o := ?oocm9) ?hocm9 (fun K hK => ?hkcm9) AllReadyG.nil)
      case hocm9 =>
        simp only [List.getElem?_toArray, List.getElem?_cons_succ, List.getElem?_cons_zero]
        rfl
      case hkcm9 =>
        go_simp
        try go_wp2_with fail
        have Ba : Hid (Below w3.heap.size w3 (w3.drew.alloc (.cells #[.int .i64 n] 2))) := Below.alloc (Below.drew (Below.refl _ _)) (Nat.le_refl _) _
        have La : Hid ((w3.drew.alloc (.cells #[.int .i64 n] 2)).heap[w3.heap.size]? = some (.cells #[.int .i64 n] 2 (0, 0))) := heap_alloc_new w3.drew _
        have Va : Hid ((w3.drew.alloc (.cells #[.int .i64 n] 2)).ownsRow w1.heap.size 2 1 (.slice ya yn yc) ys.length (ints ys)) := own_kept HOj.out Ba.out
        refine hK.out _ _ (Or.inr ⟨(two_cellsQ (box_stepQ HB.out Ba.out)).2.1, (Ba.out.cell (World.block_lt_of_cell? w3 _ cj)).trans cj⟩) (fun hHeld => ?_)
        replace hHeld := hHeld.resolve_left (by decide)
        clear hK K
        try simp only [Act.put, List.setIfInBounds_toArray, List.set_cons_zero, List.set_cons_succ]
        refine wpAnyG_ready (rs := [10]) (by kernel_rfl) (by simp) ?_
        refine (AllReadyG.cons (o := ?oocm10) ?hocm10 (fun K hK => ?hkcm10) AllReadyG.nil)
        case hocm10 =>
          simp only [List.getElem?_toArray, List.getElem?_cons_succ, List.getElem?_cons_zero]
          rfl
        case hkcm10 =>
          refine step_append_anyQ _ rfl (.tmp 40) (.tmp 42) 33 rfl w1.heap.size 2 j0 (.int .i64 0) 1 8 Try.underlying33 hj hy0 hy1 hy2 rfl (by decide) (.slice ya yn yc) ys.length (ints ys) rfl Va.out (some ⟨w3.heap.size, 0, none⟩) 1 1 [.int .i64 n] rfl rfl (fun _ => ⟨_, rfl, lit_cellsQ La.out⟩) (by simp [Value.oneCell']) (by unfold maxLen; omega) (by omega) (Nat.le_trans HSZ.out Ba.out.size) ?_
          intro v7 w7 own7 grow7 fresh7
          obtain ⟨va, vn, vc, rfl⟩ := own_sliceQ own7
          have N7 : ∀ b, b < w3.heap.size → (Value.slice ya yn yc).ownBlock ≠ some b → w7.heap[b]? = w3.heap[b]? := fun b hb hne => (grow7.block b (Nat.lt_of_lt_of_le hb Ba.out.size) (fun e => hne e.symm)).trans (Ba.out.block b hb)
          have K7 : Hid (w7.heap[C]? = some (.cells #[.int .i64 t, .slice (some ⟨R, 0, none⟩) X.length uc] 26 (0, 0))) := (N7 C (Array.getElem?_eq_some_iff.1 HB.out).1 (fun e => row_not_box HOj.out HB.out e)).trans HB.out
          have cR7 : w7.cell? ⟨R, j, none⟩ = some (.slice ya yn yc) := (World.cell?_of_block (N7 R (World.block_lt_of_cell? w3 _ cj) (fun e => row_kind HOj.out HQ.out.row (by decide) e rfl))).trans cj
          have G7 : Hid (∀ b, b < w3.heap.size → (Value.slice ya yn yc).ownBlock ≠ some b → w7.heap[b]? = w3.heap[b]?) := N7
          have D7 : Hid (w7.ownsRow w1.heap.size 2 1 (.slice va vn vc) (ys ++ [n]).length (ints (ys ++ [n]))) := by show w7.ownsRow w1.heap.size 2 1 (.slice va vn vc) (ys ++ [n]).length (ints (ys ++ [n])); simpa [ints] using own7
          have E7 : Hid (∀ k, (Value.slice va vn vc).ownBlock = some k → (Value.slice ya yn yc).ownBlock = some k ∨ w3.heap.size ≤ k) := fun k hk => (fresh7 k hk).imp id (fun h => Nat.le_trans Ba.out.size h)
          have L7 : Hid (Below w1.heap.size w3 w7) := ⟨grow7.os.trans Ba.out.os, grow7.tape.trans Ba.out.tape, grow7.output.trans Ba.out.output, Nat.le_trans Ba.out.size grow7.size, fun b hb => (grow7.block b (Nat.lt_of_lt_of_le hb (Nat.le_trans HSZ.out Ba.out.size)) (fun e => absurd (HOj.out.lt b e.symm).1 (by omega))).trans (Ba.out.block b (Nat.lt_of_lt_of_le hb HSZ.out))⟩
          have f7 : w7.frozen? ⟨R, j, none⟩ = false := (World.frozen?_of_block (N7 R (World.block_lt_of_cell? w3 _ cj) (fun e => row_kind HOj.out HQ.out.row (by decide) e rfl))).trans fj
          clear own7 grow7 fresh7 N7
          refine hK.out _ _ (Or.inr ⟨(two_cellsQ K7.out).2.1, cR7⟩) (fun hHeld => ?_)
          replace hHeld := hHeld.resolve_left (by decide)
          clear hK K
          try simp only [Act.put, List.setIfInBounds_toArray, List.set_cons_zero, List.set_cons_succ]
          refine wpAnyG_take (i := 11) (oi := ?oicm11) (v := .pointer (some ⟨R, j, none⟩)) ?hicm11 (by kernel_rfl) (by kernel_rfl) (by kernel_rfl) (by kernel_rfl) ?hqcm11 ?hycm11 hHeld ?hrcm11
          case hicm11 =>
            simp only [List.getElem?_toArray, List.getElem?_cons_succ, List.getElem?_cons_zero]
            rfl
          case hqcm11 => exact fun _ _ _ h => h
          case hycm11 => exact Or.inl ⟨by kernel_rfl, fun w hSw => by go_simp⟩
          try simp only [Act.put, List.setIfInBounds_toArray, List.set_cons_zero, List.set_cons_succ]
          refine wpAnyG_ready (rs := [12]) (by kernel_rfl) (by simp) ?_
          refine (AllReadyG.cons (o := ?oocm12) ?hocm12 (fun K hK => ?hkcm12) AllReadyG.nil)
          case hocm12 =>
            simp only [List.getElem?_toArray, List.getElem?_cons_succ, List.getElem?_cons_zero]
            rfl
          case hkcm12 =>
            go_simp
            try go_wp2_with fail
            refine hK.out _ _ (Or.inl rfl) (fun _ => ?_)
            clear hK K
            try simp only [Act.put, List.setIfInBounds_toArray, List.set_cons_zero, List.set_cons_succ]
            refine wpAnyG_done (by kernel_rfl) ?_ _
            have O8 := came_put HQ.out HAP.out HOj.out huj.out hjX G7.out D7.out E7.out
            have HB8 : Hid _ := (Below.heap_setCell w7 ⟨R, j, none⟩ (.slice va vn vc) C (by simpa using hRC)).trans K7.out
            have HR8 : Hid ((w7.setCell ⟨R, j, none⟩ (.slice va vn vc)).heap[w.heap.size + 1]? = some (.cells #[.int .i64 0, .slice none 0 0] 26 (0, 0))) := (Below.heap_setCell w7 ⟨R, j, none⟩ (.slice va vn vc) (w.heap.size + 1) (by simp; have := hRlo; have := HS2.out; omega)).trans ((L7.out.block _ HS2.out).trans HR3.out)
            have HL8 : Hid (Below w.heap.size w (w7.setCell ⟨R, j, none⟩ (.slice va vn vc))) := (HL3.out.trans (L7.out.mono (by have := HS2.out; omega))).setCell (by simp; have := hRlo; have := HS2.out; omega) _
            have HO8 : Hid _ := O8
            clear O8 K7 cR7 G7 D7 E7 L7 f7 Ba Va La b0 b1 cj fj
            generalize w7.setCell ⟨R, j, none⟩ (.slice va vn vc) = w8 at *
            obtain ⟨d0, d1, -, -⟩ := two_cellsQ HB8.out
            obtain ⟨r0, r1, x0, x1⟩ := two_cellsQ HR8.out
            have R9 := two_setQ HR8.out (.int .i64 t) (.slice (some ⟨R, 0, none⟩) X.length uc)
            obtain ⟨y0, y1, _, _⟩ := two_cellsQ R9
            go_wp2
            refine bodyPost_ret (v := .tuple #[.agg #[.int .i64 t, .slice (some ⟨R, 0, none⟩) X.length uc], .bool true]) (by simp [results, Try.results17, go_sem, y0, y1]) rfl ?_
            exact ⟨_, _, rfl, OwnQ.of_own (((HO8.out.1.set (by have := HS2.out; omega)).set (by have := HS2.out; omega)).mono (base' := w.heap.size) (by have := HS2.out; omega)), HO8.out.2, (HL8.out.setCell (by simp) _).setCell (by simp) _⟩

end Go.Proofs.Ytjlpjjddnkceoaa
