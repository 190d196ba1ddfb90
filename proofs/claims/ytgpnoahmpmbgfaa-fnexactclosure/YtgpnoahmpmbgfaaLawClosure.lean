/-
  The law FnExactClosure: at every argument Closure answers as the specification, writes into no argument, and its answer owns its memory.
-/
import Derived.Test.YtgpnoahmpmbgfaaCloS14
import Derived.Test.YtgpnoahmpmbgfaaCloJ14
import Derived.Test.YtgpnoahmpmbgfaaLawEdSt
import Derived.Test.YtgpnoahmpmbgfaaOpenProc
namespace Go.Proofs.Ytgpnoahmpmbgfaa
open Go.ChangeShapes Go.WideShapes Go.ChangeAt Go.RowKit
set_option linter.unusedVariables false
set_option linter.unusedSimpArgs false
set_option maxHeartbeats 8000000
set_option maxRecDepth 20000

/-- The box of the Program that came in. -/
structure LP (w : World) (v : Value) (W : World) : Prop where
  p : W.heap[w.heap.size]? = some (.cells #[v] 24 (0, 0))
  below : Below w.heap.size w W
  size : w.heap.size + 1 ≤ W.heap.size

theorem LP.kept {w : World} {v : Value} {W W' : World} {B : Nat} (h : LP w v W) (hb : Below B W W') (hB : w.heap.size + 1 ≤ B) : LP w v W' :=
  ⟨(hb.block _ (by omega)).trans h.p, h.below.trans (hb.mono (by omega)), Nat.le_trans h.size hb.size⟩

theorem LP.marks {w : World} {v : Value} {W W' : World} {base top : Nat} (h : LP w v W) (hm : Marks base top W W') (hB : w.heap.size + 1 ≤ base) : LP w v W' :=
  ⟨(hm.out _ (by have := h.size; omega) (.inl (by omega))).trans h.p, h.below.trans (hm.below (by omega) (by have := h.size; omega)), Nat.le_trans h.size hm.size⟩

theorem cloA_small (ps : List (List Stm)) (i : Int) : (cloA ps i).length ≤ 1048576 ∧ ∀ p ∈ cloA ps i, p.length ≤ 1048576 := by
  unfold cloA
  cases hok : hasB ps i
  · simp
  · have hO := (ord14_of hok).1
    have hok1 : programOk ps = true := by unfold hasB at hok; simp only [Bool.and_eq_true] at hok; exact hok.1
    obtain ⟨h4, _, hpr⟩ := programOk_len hok1
    simp only [if_true]
    refine ⟨by rw [clo14_length]; have := hO.o.len; omega, fun p hp => ?_⟩
    unfold clo14 at hp
    obtain ⟨t, ht, rfl⟩ := List.mem_map.1 hp
    obtain ⟨h0, h1⟩ := hO.o.inn t ht
    obtain ⟨h2, h3⟩ := getD14 h0 h1
    rw [h3, List.length_map]
    have := procOk_len (hpr _ (List.getElem_mem h2)).1
    omega

theorem walkClosure (ps : List (List Stm)) (i : Int) (v : Value) (w : World) (hl : ps.length ≤ maxLen) (hp : ∀ p ∈ ps, p.length ≤ maxLen) (hv : ReadsP w v ps) :
    Calls Try.prog 3 #[.agg #[v], .int .i64 i] w fun r w' => r = .returned (.bool true) ∧ Below w.heap.size w w' := by
  have hsp := fun u W => specClosure ps i u W hl hp
  have him := fun u W => implClosure ps i u W hl hp
  obtain ⟨hq1, hq2⟩ := cloA_small ps i
  obtain ⟨Q, hQ⟩ : ∃ Q, cloA ps i = Q := ⟨_, rfl⟩
  rw [hQ] at hsp him hq1 hq2
  clear hQ
  have hqm1 : Q.length ≤ maxLen := by unfold maxLen; omega
  have hqm2 : ∀ p ∈ Q, p.length ≤ maxLen := fun p hp => by have := hq2 p hp; unfold maxLen; omega
  have htq := tot13_le Q hq2
  obtain ⟨W0, hW0⟩ : ∃ W0, w.alloc (.cells #[v] 24) = W0 := ⟨_, rfl⟩
  have L0 : LP w v W0 := by
    rw [← hW0]
    exact ⟨heap_alloc_new w _, by go_grown, by simp⟩
  have hsz := szProgram ps v W0 hl hp (readsP_below hv L0.below)
  obtain ⟨p0, _⟩ := one_cell L0.p
  have hcm : Hid _ := hW0
  go_enter Try.func3, Try.ntmps3
  go_wp2_with fail
  go_at_call 4
  refine hsz.mono ?_
  rintro r w1 ⟨z, rfl, hz, b1⟩
  clear hsz hW0 hcm
  have L1 := L0.kept b1 L0.size
  by_cases h0 : z < 0
  · have hx : (decide (z < 0)) = true := by simpa using h0
    have HB : Hid _ := L1.below
    clear hz hsp him L1
    go_wp2
    go_ret
    exact ⟨rfl, HB.out⟩
  have hx : (decide (z < 0)) = false := by simpa using h0
  obtain ⟨hl', hp'⟩ := hz (by omega)
  have htp := fun W hW => toProgram ps v W hl' hp' hW
  have HL1 : Hid (LP w v w1) := L1
  clear hz p0 L0 b1 L1
  obtain ⟨p0, -⟩ := one_cell HL1.out.p
  go_wp2_with fail
  go_at_call 6
  refine (htp _ (readsP_below hv HL1.out.below)).mono ?_
  rintro r w2 ⟨u, rfl, ou2, b2⟩
  obtain ⟨ua, um, uc, rfl⟩ := ownP_slice ou2
  have HL2 : Hid (LP w v w2) := HL1.out.kept b2 HL1.out.size
  have RU : Hid _ := readsP_own ou2
  clear p0 ou2 b2
  go_wp2_with fail
  go_at_call 5
  refine (hsp _ _ RU.out).mono ?_
  rintro r w3 ⟨x0, as0, rfl, oa, b3⟩
  obtain ⟨xa, xm, xc, rfl⟩ := own_slice oa.row
  have HL3 : Hid (LP w v w3) := HL2.out.kept b3 HL2.out.size
  have OA3 : Hid (OwnP w3 w2.heap.size w3.heap.size (.slice xa xm xc) Q) := oa.ownP
  clear RU oa b3
  have b4 : Below w3.heap.size w3 (w3.alloc (.cells #[.slice xa xm xc] 28)) := by go_grown
  have HA4 : Hid _ := heap_alloc_new w3 (.cells #[.slice xa xm xc] 28)
  have z4 : (w3.alloc (.cells #[.slice xa xm xc] 28)).heap.size = w3.heap.size + 1 := by simp
  obtain ⟨w4, hw4⟩ : ∃ w4, w3.alloc (.cells #[.slice xa xm xc] 28) = w4 := ⟨_, rfl⟩
  have HW4 : Hid _ := hw4
  rw [hw4] at b4 z4 HA4
  have HL4 : Hid (LP w v w4) := HL3.out.kept b4 HL3.out.size
  obtain ⟨nA, hnA⟩ : ∃ n, w2.heap.size = n := ⟨_, rfl⟩
  obtain ⟨tA, htA⟩ : ∃ n, w3.heap.size = n := ⟨_, rfl⟩
  rw [hnA, htA] at OA3
  have OA4 : Hid (OwnP w4 nA tA (.slice xa xm xc) Q) := ownP_kept OA3.out b4
  obtain ⟨XA, hXA⟩ : ∃ n, w3.heap.size = n := ⟨_, rfl⟩
  rw [hXA] at HA4
  have HXAt : Hid (tA = XA) := htA.symm.trans hXA
  have HZ4 : Hid (w4.heap.size = XA + 1) := by rw [← hXA]; exact z4
  have HXA : Hid (w3.heap.size = XA) := hXA
  have HLXA : Hid (w.heap.size + 1 ≤ XA) := by rw [← hXA]; exact HL3.out.size
  clear b4 z4 OA3 hnA htA HW4 HXA
  obtain ⟨p0, -⟩ := one_cell HL4.out.p
  go_wp2_with fail
  go_at_call 6
  clear hw4 hXA
  refine (htp _ (readsP_below hv HL4.out.below)).mono ?_
  rintro r w5 ⟨u, rfl, ou5, b5⟩
  obtain ⟨pa, pm, pc, rfl⟩ := ownP_slice ou5
  have HL5 : Hid (LP w v w5) := HL4.out.kept b5 HL4.out.size
  have HA5 : Hid (w5.heap[XA]? = some (.cells #[.slice xa xm xc] 28 (0, 0))) := (b5.block _ (Array.getElem?_eq_some_iff.1 HA4.out).1).trans HA4.out
  have OA5 : Hid (OwnP w5 nA tA (.slice xa xm xc) Q) := ownP_kept OA4.out b5
  have OX5 : Hid (OwnP w5 w4.heap.size w5.heap.size (.slice pa pm pc) ps) := ou5
  have HB45 : Hid (w4.heap.size ≤ w5.heap.size) := b5.size
  clear p0 ou5 b5
  have b6 : Below w5.heap.size w5 (w5.alloc (.cells #[.slice pa pm pc] 28)) := by go_grown
  have HX6 : Hid _ := heap_alloc_new w5 (.cells #[.slice pa pm pc] 28)
  have z6 : (w5.alloc (.cells #[.slice pa pm pc] 28)).heap.size = w5.heap.size + 1 := by simp
  obtain ⟨w6, hw6⟩ : ∃ w6, w5.alloc (.cells #[.slice pa pm pc] 28) = w6 := ⟨_, rfl⟩
  have HW6 : Hid _ := hw6
  rw [hw6] at b6 z6 HX6
  have HL6 : Hid (LP w v w6) := HL5.out.kept b6 HL5.out.size
  have HA6 : Hid (w6.heap[XA]? = some (.cells #[.slice xa xm xc] 28 (0, 0))) := (b6.block _ (Array.getElem?_eq_some_iff.1 HA5.out).1).trans HA5.out
  have OA6 : Hid (OwnP w6 nA tA (.slice xa xm xc) Q) := ownP_kept OA5.out b6
  obtain ⟨nX, hnX⟩ : ∃ n, w4.heap.size = n := ⟨_, rfl⟩
  obtain ⟨tX, htX⟩ : ∃ n, w5.heap.size = n := ⟨_, rfl⟩
  rw [hnX, htX] at OX5
  have OX6 : Hid (OwnP w6 nX tX (.slice pa pm pc) ps) := ownP_kept OX5.out b6
  obtain ⟨XX, hXX⟩ : ∃ n, w5.heap.size = n := ⟨_, rfl⟩
  rw [hXX] at HX6
  have hXXt : tX = XX := htX.symm.trans hXX
  have hnXA : nX = XA + 1 := hnX.symm.trans HZ4.out
  have hXAt := HXAt.out
  have hnt : nX ≤ tX := by rw [← hnX, ← htX]; exact HB45.out
  have HZ6 : Hid (w6.heap.size = XX + 1) := by rw [← hXX]; exact z6
  have HXX : Hid (w5.heap.size = XX) := hXX
  have lWA : w.heap.size + 1 ≤ XA := HLXA.out
  clear b6 z6 OX5 hnX htX HB45 HXAt HZ4 HW6 HXX
  obtain ⟨cX, -⟩ := one_cell HX6.out
  have him7 := him _ _ (readsP_own OX6.out)
  go_wp2_with fail
  go_at_call 7
  clear hw6 hXX
  refine him7.mono ?_
  rintro r w7 ⟨g0, gs, rfl, og, b7⟩
  obtain ⟨ga, gm, gc, rfl⟩ := own_slice og.row
  have HL7 : Hid (LP w v w7) := HL6.out.kept b7 HL6.out.size
  have HA7 : Hid (w7.heap[XA]? = some (.cells #[.slice xa xm xc] 28 (0, 0))) := (b7.block _ (Array.getElem?_eq_some_iff.1 HA6.out).1).trans HA6.out
  have OA7 : Hid (OwnP w7 nA tA (.slice xa xm xc) Q) := ownP_kept OA6.out b7
  have HX7 : Hid (w7.heap[XX]? = some (.cells #[.slice pa pm pc] 28 (0, 0))) := (b7.block _ (Array.getElem?_eq_some_iff.1 HX6.out).1).trans HX6.out
  have OX7 : Hid (OwnP w7 nX tX (.slice pa pm pc) ps) := ownP_kept OX6.out b7
  have OG7 : Hid (Own13 w7 w6.heap.size (.slice ga gm gc) gs Q) := og
  have HB67 : Hid (w6.heap.size ≤ w7.heap.size) := b7.size
  clear cX og b7 him7
  have b8 : Below w7.heap.size w7 (w7.alloc (.cells #[.slice ga gm gc] 28)) := by go_grown
  have HG8 : Hid _ := heap_alloc_new w7 (.cells #[.slice ga gm gc] 28)
  obtain ⟨w8, hw8⟩ : ∃ w8, w7.alloc (.cells #[.slice ga gm gc] 28) = w8 := ⟨_, rfl⟩
  have HW8 : Hid _ := hw8
  rw [hw8] at b8 HG8
  have HL8 : Hid (LP w v w8) := HL7.out.kept b8 HL7.out.size
  have HA8 : Hid (w8.heap[XA]? = some (.cells #[.slice xa xm xc] 28 (0, 0))) := (b8.block _ (Array.getElem?_eq_some_iff.1 HA7.out).1).trans HA7.out
  have OA8 : Hid (OwnP w8 nA tA (.slice xa xm xc) Q) := ownP_kept OA7.out b8
  have HX8 : Hid (w8.heap[XX]? = some (.cells #[.slice pa pm pc] 28 (0, 0))) := (b8.block _ (Array.getElem?_eq_some_iff.1 HX7.out).1).trans HX7.out
  have OX8 : Hid (OwnP w8 nX tX (.slice pa pm pc) ps) := ownP_kept OX7.out b8
  obtain ⟨nG, hnG⟩ : ∃ n, w6.heap.size = n := ⟨_, rfl⟩
  rw [hnG] at OG7
  have OG8 : Hid (Own13 w8 nG (.slice ga gm gc) gs Q) := OG7.out.kept b8
  obtain ⟨XG, hXG⟩ : ∃ n, w7.heap.size = n := ⟨_, rfl⟩
  rw [hXG] at HG8
  have hnGX : nG = XX + 1 := hnG.symm.trans HZ6.out
  have hXG2 : nG ≤ XG := by rw [← hnG, ← hXG]; exact HB67.out
  have HXG : Hid (w7.heap.size = XG) := hXG
  clear b8 OG7 hnG HB67 HZ6 HW8 HXG
  obtain ⟨cG, -⟩ := one_cell HG8.out
  obtain ⟨cA, -⟩ := one_cell HA8.out
  go_wp2_with fail
  go_at_call 8
  clear hw8 hXG
  refine (eqProgram Q _ _ w8 hqm1 hqm2 (readsP_own OG8.out.ownP) (readsP_own OA8.out)).mono ?_
  rintro r w11 ⟨rfl, b11⟩
  have HL11 : Hid (LP w v w11) := HL8.out.kept b11 HL8.out.size
  have HA11 : Hid (w11.heap[XA]? = some (.cells #[.slice xa xm xc] 28 (0, 0))) := (b11.block _ (Array.getElem?_eq_some_iff.1 HA8.out).1).trans HA8.out
  have OA11 : Hid (OwnP w11 nA tA (.slice xa xm xc) Q) := ownP_kept OA8.out b11
  have HX11 : Hid (w11.heap[XX]? = some (.cells #[.slice pa pm pc] 28 (0, 0))) := (b11.block _ (Array.getElem?_eq_some_iff.1 HX8.out).1).trans HX8.out
  have OX11 : Hid (OwnP w11 nX tX (.slice pa pm pc) ps) := ownP_kept OX8.out b11
  have HG11 : Hid (w11.heap[XG]? = some (.cells #[.slice ga gm gc] 28 (0, 0))) := (b11.block _ (Array.getElem?_eq_some_iff.1 HG8.out).1).trans HG8.out
  have OG11 : Hid (Own13 w11 nG (.slice ga gm gc) gs Q) := OG8.out.kept b11
  clear cG cA b11
  obtain ⟨p0, -⟩ := one_cell HL11.out.p
  obtain ⟨cX, -⟩ := one_cell HX11.out
  have lP10 : w.heap.size < w11.heap.size := (Array.getElem?_eq_some_iff.1 HL11.out.p).1
  have lX10 : XX < w11.heap.size := (Array.getElem?_eq_some_iff.1 HX11.out).1
  go_wp2_with fail
  refine wp_region_held_drew (S := fun w' => w'.cell? ⟨w.heap.size, 0, none⟩ = some v ∧ w'.cell? ⟨XX, 0, none⟩ = some (.slice pa pm pc)) (by kernel_rfl) ⟨p0, cX⟩ (fun hHeld => ?_)
  refine wpAnyH_take (i := 0) (oi := ?oira0) (v := .agg #[.slice pa pm pc]) ?hira0 (by kernel_rfl) (by kernel_rfl) (by kernel_rfl) ?hqra0 ?hyra0 hHeld ?hrra0
  case hira0 =>
    simp only [List.getElem?_toArray, List.getElem?_cons_succ, List.getElem?_cons_zero]
    rfl
  case hqra0 => exact fun _ _ _ h => h
  case hyra0 => exact Or.inl ⟨by kernel_rfl, fun w hSw => by obtain ⟨s0, s1⟩ := hSw; go_simp⟩
  try simp only [Act.put, List.setIfInBounds_toArray, List.set_cons_zero, List.set_cons_succ]
  refine wpAnyH_take (i := 1) (oi := ?oira1) (v := .agg #[v]) ?hira1 (by kernel_rfl) (by kernel_rfl) (by kernel_rfl) ?hqra1 ?hyra1 hHeld ?hrra1
  case hira1 =>
    simp only [List.getElem?_toArray, List.getElem?_cons_succ, List.getElem?_cons_zero]
    rfl
  case hqra1 => exact fun _ _ _ h => h
  case hyra1 => exact Or.inl ⟨by kernel_rfl, fun w hSw => by obtain ⟨s0, s1⟩ := hSw; go_simp⟩
  try simp only [Act.put, List.setIfInBounds_toArray, List.set_cons_zero, List.set_cons_succ]
  refine wpAnyH_ready (rs := [2]) (by kernel_rfl) (by simp) ?_
  refine (AllReadyH.cons (o := ?oora2) ?hora2 (fun K hK => ?hkra2) AllReadyH.nil)
  case hora2 =>
    simp only [List.getElem?_toArray, List.getElem?_cons_succ, List.getElem?_cons_zero]
    rfl
  case hkra2 =>
    go_simp
    go_at_call 6
    refine (htp _ (readsP_below hv HL11.out.below.drew)).mono ?_
    rintro r w12 ⟨y, rfl, oy, b12⟩
    have B12 : Hid (Below w11.heap.size w11 w12) := Below.trans (Below.drew (Below.refl _ _)) b12
    have OY : Hid _ := oy
    clear oy b12
    try go_wp2_with fail
    refine hK.out _ _ ⟨(B12.out.cell lP10).trans p0, (B12.out.cell lX10).trans cX⟩ (fun hHeld => ?_)
    clear hK K
    try simp only [Act.put, List.setIfInBounds_toArray, List.set_cons_zero, List.set_cons_succ]
    refine wpAnyH_ready (rs := [3]) (by kernel_rfl) (by simp) ?_
    refine (AllReadyH.cons (o := ?oora3) ?hora3 (fun K hK => ?hkra3) AllReadyH.nil)
    case hora3 =>
      simp only [List.getElem?_toArray, List.getElem?_cons_succ, List.getElem?_cons_zero]
      rfl
    case hkra3 =>
      go_simp
      go_at_call 8
      refine (eqProgram ps _ _ w12 hl hp (readsP_own (ownP_kept OX11.out B12.out)) (readsP_own OY.out)).mono ?_
      rintro r w13 ⟨rfl, b13'⟩
      have B13 : Hid (Below w11.heap.size w11 w13) := B12.out.trans (b13'.mono B12.out.size)
      try go_wp2_with fail
      refine hK.out _ _ ⟨(B13.out.cell lP10).trans p0, (B13.out.cell lX10).trans cX⟩ (fun hHeld => ?_)
      clear hK K
      try simp only [Act.put, List.setIfInBounds_toArray, List.set_cons_zero, List.set_cons_succ]
      refine wpAnyH_take (i := 4) (oi := ?oira4) (v := .bool false) ?hira4 (by kernel_rfl) (by kernel_rfl) (by kernel_rfl) ?hqra4 ?hyra4 hHeld ?hrra4
      case hira4 =>
        simp only [List.getElem?_toArray, List.getElem?_cons_succ, List.getElem?_cons_zero]
        rfl
      case hqra4 => exact fun _ _ _ h => h
      case hyra4 => exact Or.inl ⟨by kernel_rfl, fun w hSw => by go_simp⟩
      try simp only [Act.put, List.setIfInBounds_toArray, List.set_cons_zero, List.set_cons_succ]
      refine wpAnyH_done (by kernel_rfl) ?_ _
      have b13 : Below w11.heap.size w11 w13 := B13.out
      have HL13 : Hid (LP w v w13) := HL11.out.kept b13 HL11.out.size
      have HA13 : Hid (w13.heap[XA]? = some (.cells #[.slice xa xm xc] 28 (0, 0))) := (b13.block _ (Array.getElem?_eq_some_iff.1 HA11.out).1).trans HA11.out
      have OA13 : Hid (OwnP w13 nA tA (.slice xa xm xc) Q) := ownP_kept OA11.out b13
      have HX13 : Hid (w13.heap[XX]? = some (.cells #[.slice pa pm pc] 28 (0, 0))) := (b13.block _ (Array.getElem?_eq_some_iff.1 HX11.out).1).trans HX11.out
      have OX13 : Hid (OwnP w13 nX tX (.slice pa pm pc) ps) := ownP_kept OX11.out b13
      have HG13 : Hid (w13.heap[XG]? = some (.cells #[.slice ga gm gc] 28 (0, 0))) := (b13.block _ (Array.getElem?_eq_some_iff.1 HG11.out).1).trans HG11.out
      have OG13 : Hid (Own13 w13 nG (.slice ga gm gc) gs Q) := OG11.out.kept b13
      clear b13 b13' B12 B13 OY p0 cX lP10 lX10
      obtain ⟨cX, -⟩ := one_cell HX13.out
      go_wp2_with fail
      go_at_call 9
      refine (markProgram ps _ nX tX w13 hl' hp' OX13.out).mono ?_
      rintro r w14 ⟨r0, rfl, hr0, m14⟩
      have HL14 : Hid (LP w v w14) := LP.marks HL13.out m14 (by omega)
      have HA14 : Hid (w14.heap[XA]? = some (.cells #[.slice xa xm xc] 28 (0, 0))) := (m14.out _ (Array.getElem?_eq_some_iff.1 HA13.out).1 (.inl (by omega))).trans HA13.out
      have OA14 : Hid (OwnP w14 nA tA (.slice xa xm xc) Q) := ownP_marks OA13.out m14 (.inl (by omega))
      have HG14 : Hid (w14.heap[XG]? = some (.cells #[.slice ga gm gc] 28 (0, 0))) := (m14.out _ (Array.getElem?_eq_some_iff.1 HG13.out).1 (.inr (by omega))).trans HG13.out
      have OG14 : Hid (Own13 w14 nG (.slice ga gm gc) gs Q) := OG13.out.marks m14 (fun k hk _ => .inr (by omega))
      clear cX m14
      obtain ⟨cG, -⟩ := one_cell HG14.out
      obtain ⟨cA, -⟩ := one_cell HA14.out
      have hk0 : (decide (r0 < 0)) = false := by simp; omega
      go_wp2_with fail
      go_at_call 8
      refine (eqProgram Q _ _ w14 hqm1 hqm2 (readsP_own OG14.out.ownP) (readsP_own OA14.out)).mono ?_
      rintro r w15 ⟨rfl, b15⟩
      have HL15 : Hid (LP w v w15) := HL14.out.kept b15 HL14.out.size
      have HA15 : Hid (w15.heap[XA]? = some (.cells #[.slice xa xm xc] 28 (0, 0))) := (b15.block _ (Array.getElem?_eq_some_iff.1 HA14.out).1).trans HA14.out
      have OA15 : Hid (OwnP w15 nA tA (.slice xa xm xc) Q) := ownP_kept OA14.out b15
      have HG15 : Hid (w15.heap[XG]? = some (.cells #[.slice ga gm gc] 28 (0, 0))) := (b15.block _ (Array.getElem?_eq_some_iff.1 HG14.out).1).trans HG14.out
      have OG15 : Hid (Own13 w15 nG (.slice ga gm gc) gs Q) := OG14.out.kept b15
      clear cG cA b15
      obtain ⟨cG, -⟩ := one_cell HG15.out
      go_wp2_with fail
      go_at_call 9
      refine (markProgramX Q _ nG gs w15 hq1 hq2 OG15.out (by have := (Array.getElem?_eq_some_iff.1 HG15.out).1; omega)).mono ?_
      rintro r w16 ⟨rfl, og16, b16, t16⟩
      have HL16 : Hid (LP w v w16) := HL15.out.kept b16 (by omega)
      have HA16 : Hid (w16.heap[XA]? = some (.cells #[.slice xa xm xc] 28 (0, 0))) := (b16.block _ (by omega)).trans HA15.out
      have OA16 : Hid (OwnP w16 nA tA (.slice xa xm xc) Q) := ownP_belowB OA15.out b16 (by omega)
      have HG16 : Hid (w16.heap[XG]? = some (.cells #[.slice ga gm gc] 28 (0, 0))) := t16 _ _ _ _ HG15.out (by decide)
      have OG16 : Hid (Own13 w16 nG (.slice ga gm gc) gs (marks13 1 Q)) := og16
      clear cG og16 b16 t16
      obtain ⟨cG, -⟩ := one_cell HG16.out
      have hk1 : (decide ((1 : Int) + 3 * (tot13 Q : Int) < 0)) = false := by simp; omega
      go_wp2_with fail
      go_at_call 10
      refine (heldProgramX Q _ nG gs w16 hq1 hq2 OG16.out).mono ?_
      rintro r w17 ⟨rfl, b17⟩
      have HL17 : Hid (LP w v w17) := HL16.out.kept b17 HL16.out.size
      have HA17 : Hid (w17.heap[XA]? = some (.cells #[.slice xa xm xc] 28 (0, 0))) := (b17.block _ (Array.getElem?_eq_some_iff.1 HA16.out).1).trans HA16.out
      have OA17 : Hid (OwnP w17 nA tA (.slice xa xm xc) Q) := ownP_kept OA16.out b17
      have HG17 : Hid (w17.heap[XG]? = some (.cells #[.slice ga gm gc] 28 (0, 0))) := (b17.block _ (Array.getElem?_eq_some_iff.1 HG16.out).1).trans HG16.out
      have OG17 : Hid (Own13 w17 nG (.slice ga gm gc) gs (marks13 1 Q)) := OG16.out.kept b17
      clear cG b17
      obtain ⟨p0, -⟩ := one_cell HL17.out.p
      go_wp2_with fail
      go_at_call 6
      refine (htp _ (readsP_below hv HL17.out.below)).mono ?_
      rintro r w18 ⟨u, rfl, ou18, b18⟩
      obtain ⟨qa, qm, qc, rfl⟩ := ownP_slice ou18
      have HL18 : Hid (LP w v w18) := HL17.out.kept b18 HL17.out.size
      have HA18 : Hid (w18.heap[XA]? = some (.cells #[.slice xa xm xc] 28 (0, 0))) := (b18.block _ (Array.getElem?_eq_some_iff.1 HA17.out).1).trans HA17.out
      have OA18 : Hid (OwnP w18 nA tA (.slice xa xm xc) Q) := ownP_kept OA17.out b18
      have HG18 : Hid (w18.heap[XG]? = some (.cells #[.slice ga gm gc] 28 (0, 0))) := (b18.block _ (Array.getElem?_eq_some_iff.1 HG17.out).1).trans HG17.out
      have OG18 : Hid (Own13 w18 nG (.slice ga gm gc) gs (marks13 1 Q)) := OG17.out.kept b18
      have RU : Hid _ := readsP_own ou18
      clear p0 ou18 b18
      have him19 := him _ _ RU.out
      go_wp2_with fail
      go_at_call 7
      refine him19.mono ?_
      rintro r w19 ⟨h0, hs, rfl, oh, b19⟩
      obtain ⟨ha, hm, hc, rfl⟩ := own_slice oh.row
      have HL19 : Hid (LP w v w19) := HL18.out.kept b19 HL18.out.size
      have HA19 : Hid (w19.heap[XA]? = some (.cells #[.slice xa xm xc] 28 (0, 0))) := (b19.block _ (Array.getElem?_eq_some_iff.1 HA18.out).1).trans HA18.out
      have OA19 : Hid (OwnP w19 nA tA (.slice xa xm xc) Q) := ownP_kept OA18.out b19
      have HG19 : Hid (w19.heap[XG]? = some (.cells #[.slice ga gm gc] 28 (0, 0))) := (b19.block _ (Array.getElem?_eq_some_iff.1 HG18.out).1).trans HG18.out
      have OG19 : Hid (Own13 w19 nG (.slice ga gm gc) gs (marks13 1 Q)) := OG18.out.kept b19
      have RH19 : Hid (ReadsP w19 (.slice ha hm hc) Q) := readsP_own oh.ownP
      clear RU oh b19 him19
      have b20 : Below w19.heap.size w19 (w19.alloc (.cells #[.slice ha hm hc] 28)) := by go_grown
      have HH20 : Hid _ := heap_alloc_new w19 (.cells #[.slice ha hm hc] 28)
      obtain ⟨w20, hw20⟩ : ∃ w20, w19.alloc (.cells #[.slice ha hm hc] 28) = w20 := ⟨_, rfl⟩
      have HW20 : Hid _ := hw20
      rw [hw20] at b20 HH20
      have HL20 : Hid (LP w v w20) := HL19.out.kept b20 HL19.out.size
      have HA20 : Hid (w20.heap[XA]? = some (.cells #[.slice xa xm xc] 28 (0, 0))) := (b20.block _ (Array.getElem?_eq_some_iff.1 HA19.out).1).trans HA19.out
      have OA20 : Hid (OwnP w20 nA tA (.slice xa xm xc) Q) := ownP_kept OA19.out b20
      have HG20 : Hid (w20.heap[XG]? = some (.cells #[.slice ga gm gc] 28 (0, 0))) := (b20.block _ (Array.getElem?_eq_some_iff.1 HG19.out).1).trans HG19.out
      have OG20 : Hid (Own13 w20 nG (.slice ga gm gc) gs (marks13 1 Q)) := OG19.out.kept b20
      have RH20 : Hid (ReadsP w20 (.slice ha hm hc) Q) := readsP_below RH19.out b20
      clear b20 HW20
      obtain ⟨cH, -⟩ := one_cell HH20.out
      obtain ⟨cA, -⟩ := one_cell HA20.out
      go_wp2_with fail
      go_at_call 8
      clear hw20
      refine (eqProgram Q _ _ w20 hqm1 hqm2 RH20.out (readsP_own OA20.out)).mono ?_
      rintro r w21 ⟨rfl, b21⟩
      have HL21 : Hid (LP w v w21) := HL20.out.kept b21 HL20.out.size
      have HA21 : Hid (w21.heap[XA]? = some (.cells #[.slice xa xm xc] 28 (0, 0))) := (b21.block _ (Array.getElem?_eq_some_iff.1 HA20.out).1).trans HA20.out
      have OA21 : Hid (OwnP w21 nA tA (.slice xa xm xc) Q) := ownP_kept OA20.out b21
      have HG21 : Hid (w21.heap[XG]? = some (.cells #[.slice ga gm gc] 28 (0, 0))) := (b21.block _ (Array.getElem?_eq_some_iff.1 HG20.out).1).trans HG20.out
      have OG21 : Hid (Own13 w21 nG (.slice ga gm gc) gs (marks13 1 Q)) := OG20.out.kept b21
      clear cH cA b21
      obtain ⟨cG, -⟩ := one_cell HG21.out
      go_wp2_with fail
      go_at_call 10
      refine (heldProgramX Q _ nG gs w21 hq1 hq2 OG21.out).mono ?_
      rintro r w22 ⟨rfl, b22⟩
      have HL22 : Hid (LP w v w22) := HL21.out.kept b22 HL21.out.size
      clear cG b22
      go_wp2
      go_ret
      exact ⟨rfl, HL22.out.below⟩

set_option maxRecDepth 100000 in
theorem liftedFnExactClosure (os : Os) (started : os.Started) (H : Type) (enc : TypeId × Value → H) :
    ReturnsInHanded {} Try.checked os 3 .any (Rows.fnExactClosureSpec.pre6 enc Try.prog Try.f3 Rows.fnExactClosureRow.domain false) (Rows.fnExactClosureSpec.post enc Try.prog Try.f3 false true false false) := by
  refine returnsInHanded_of_change (C := Try.checked) own started (by kernel_rfl) Try.func3
    (ChangeSpec.witness6 (enc := enc) (C := Try.checked) false ⟨#[], #[.agg #[.slice none 0 0], .int .i64 0], []⟩ 8 (by kernel_rfl) (by kernel_rfl) (by kernel_rfl) (by kernel_rfl)) ?_
  intro W base args ds gs before hval0 hW hcnd _
  have hval : ∀ (j : Nat) t v, Try.f3.params[j]? = some t → args[j]? = some v → Value.okWide Try.prog W .any base t v := hval0
  have hW' := hW
  obtain ⟨p, q, hA0, hV, rfl, hfz, hnd⟩ := hW
  have hA : DataW.TrodAll enc Try.prog W 0 (fun _ => true) true Try.f3.params.toList args.toList ds p := hA0
  rw [Try.params3] at hA hval
  obtain ⟨v0, vs0, d0, ds0, p0, q0, hargs, rfl, rfl, h0, r0⟩ := trodAll_cons hA
  obtain ⟨v1, vs1, d1, ds1, p1, q1, rfl, rfl, rfl, h1, r1⟩ := trodAll_cons r0
  obtain ⟨rfl, rfl, rfl⟩ := trodAll_nil r1
  obtain rfl : args = #[v0, v1] := by cases args; simp_all
  obtain ⟨rfl, rfl⟩ := trodVars_none hV
  obtain ⟨v, ps, rfl, hr, hl, hq⟩ := open_program (hval 0 24 v0 rfl rfl) h0
  obtain ⟨i, rfl, _⟩ := open_int Try.underlying2 (hval 1 2 v1 rfl rfl) h1
  refine (walkClosure ps i v W hl hq hr).mono fun e W' ⟨he, hb⟩ => ?_
  subst he
  refine ⟨_, rfl, law_post (tb := 4) laidOut ?_ hW' rfl Try.underlying4 rfl rfl hb⟩
  exact all_readable (P := Try.prog) (by kernel_rfl)

theorem overFnExactClosure : Rows.fnExactClosureRow.holds Try.pinned (OpenSpec.ofChange Rows.fnExactClosureSpec) :=
  OpenClaim.holds_of_wide 3 Try.f3 rfl rfl rfl rfl rfl rfl rfl ⟨rfl, rfl, rfl, rfl, rfl⟩ rfl rfl rfl rfl rfl (by kernel_rfl) Try.func3 (by kernel_rfl)
    (of_decide_eq_true (by kernel_rfl)) (by unfold Func.isWrapper; first | (rw [if_pos (by decide +kernel)]; kernel_rfl) | (rw [if_neg (by decide +kernel)]; exact ⟨rfl, rfl⟩))
    (fun os started H enc _ => liftedFnExactClosure os started H enc)

/-- ████ THE STATEMENT ████ -/
theorem closureHolds : Rows.FnExactClosureSaid :=
  overFnExactClosure
#print axioms closureHolds

end Go.Proofs.Ytgpnoahmpmbgfaa
