/-
  spec.Undone.
-/
import Derived.Test.YtoflfeegllpifaaUnd
import Derived.Test.YtoflfeegllpifaaRegionLast
namespace Go.Proofs.Ytoflfeegllpifaa
open Go.RowKit
set_option linter.unusedVariables false
set_option linter.unusedSimpArgs false
set_option maxHeartbeats 8000000
set_option maxRecDepth 20000

theorem specUndone (ps : List (List Stm)) (e : Edt) (v : Value) (w : World) (hl : ps.length ≤ maxLen) (hp : ∀ p ∈ ps, p.length ≤ maxLen) (hv : ReadsP w v ps) :
    Calls Try.prog 29 #[.agg #[v], edV e] w fun r w' => r = .returned (.tuple #[edV ((undone13 ps e).getD zeroE), .bool (undone13 ps e).isSome]) ∧ Below w.heap.size w w' := by
  have hed := fun u W => specEdited ps e u W hl hp
  obtain ⟨A, hA⟩ : ∃ A, undone13 ps e = A := ⟨_, rfl⟩
  rw [hA]
  unfold undone13 at hA
  have hpl := @edited13_place ps e.k e.pr e.a e.s
  obtain ⟨bb, hbb⟩ : ∃ bb, (edited13 ps e.k e.pr e.a e.s).isSome = bb := ⟨_, rfl⟩
  rw [hbb] at hA hpl hed
  obtain ⟨k, pr, a, ⟨sk, sx, sy⟩⟩ := e
  unfold edV at *
  simp only at hA hpl hed ⊢
  clear hbb
  obtain ⟨ao, vcap, rfl, hcv⟩ := id hv
  obtain ⟨W0, hW0⟩ : ∃ W0, ((w.alloc (.cells #[.slice ao ps.length vcap] 26)).alloc (.cells #[.int .i64 k, .int .i64 pr, .int .i64 a, .int .i64 sk, .int .i64 sx, .int .i64 sy] 47)).alloc (.cells #[.int .i64 0, .int .i64 0, .int .i64 0, .int .i64 0, .int .i64 0, .int .i64 0] 47) = W0 := ⟨_, rfl⟩
  have U0 : UN w ao ps.length vcap k pr a sk sx sy W0 := by
    rw [← hW0]
    refine ⟨?_, ?_, ?_, by go_grown, by simp⟩
    · rw [old_block (by simp; omega), old_block (by simp)]; exact heap_alloc_new w _
    · rw [old_block (by simp)]
      have := heap_alloc_new (w.alloc (.cells #[.slice ao ps.length vcap] 26)) (.cells #[.int .i64 k, .int .i64 pr, .int .i64 a, .int .i64 sk, .int .i64 sx, .int .i64 sy] 47)
      simpa using this
    · have := heap_alloc_new ((w.alloc (.cells #[.slice ao ps.length vcap] 26)).alloc (.cells #[.int .i64 k, .int .i64 pr, .int .i64 a, .int .i64 sk, .int .i64 sx, .int .i64 sy] 47)) (.cells #[.int .i64 0, .int .i64 0, .int .i64 0, .int .i64 0, .int .i64 0, .int .i64 0] 47)
      simpa using this
  obtain ⟨c0, -⟩ := one_cell U0.p
  obtain ⟨⟨q0, q1, q2, q3, q4, q5⟩, -⟩ := six_cells U0.e
  have hed0 := hed (.slice ao ps.length vcap) W0 (readsP_below hv U0.below)
  clear hed
  go_enter Try.func29, Try.ntmps29
  go_wp2_with fail
  go_at_call 27
  refine hed0.mono ?_
  rintro r w1 ⟨u, us, rfl, ou, b1⟩
  obtain ⟨ua, um, uc, hu⟩ := own_slice ou.row
  subst hu
  have U1 := U0.kept b1 U0.size
  have U2 := U1.kept (Below.alloc (Below.refl _ w1) (Nat.le_refl _) (.cells #[.slice ua um uc] 26)) U1.size
  clear c0 q0 q1 q2 q3 q4 q5 hed0 hW0 ou
  obtain ⟨w2, hw2⟩ : ∃ w2, w1.alloc (.cells #[.slice ua um uc] 26) = w2 := ⟨_, rfl⟩
  rw [hw2] at U2
  have HU2 : Hid (UN w ao ps.length vcap k pr a sk sx sy w2) := U2
  have HB1 : Hid _ := b1
  clear b1
  have hend : ∀ (W : World) (y0 y1 y2 y3 y4 y5 : Int), UN w ao ps.length vcap k pr a sk sx sy W → _ := fun W y0 y1 y2 y3 y4 y5 h => And.intro (six_cells (six_set (.int .i64 y0) (.int .i64 y1) (.int .i64 y2) (.int .i64 y3) (.int .i64 y4) (.int .i64 y5) h.r)).1 (below_six h.below (by omega : w.heap.size ≤ w.heap.size + 1 + 1) (.int .i64 y0) (.int .i64 y1) (.int .i64 y2) (.int .i64 y3) (.int .i64 y4) (.int .i64 y5))
  have HEND : Hid _ := hend
  clear hend U0 U1 U2
  cases bb
  · simp only [Bool.false_eq_true, if_false] at hA
    subst hA
    obtain ⟨⟨y0, y1, y2, y3, y4, y5⟩, hbl⟩ := HEND.out _ (0) (0) (0) (0) (0) (0) HU2.out
    obtain ⟨⟨z0, z1, z2, z3, z4, z5⟩, fz⟩ := six_cells (HU2.out).r
    have g0 := fz 0
    have g1 := fz 1
    have g2 := fz 2
    have g3 := fz 3
    have g4 := fz 4
    have g5 := fz 5
    have HBL : Hid _ := hbl
    clear hbl fz
    go_wp2
    refine bodyPost_ret (v := .tuple #[.agg #[.int .i64 0, .int .i64 0, .int .i64 0, .int .i64 0, .int .i64 0, .int .i64 0], .bool false]) (by simp [results, Try.results29, go_sem, y0, y1, y2, y3, y4, y5]) rfl ?_
    exact ⟨by first | rfl | (simp [zeroE]), HBL.out⟩
  obtain ⟨hok, hk, i, j, hi, rfl, rfl, hj⟩ := hpl rfl
  obtain ⟨hl1, hl4, hpo⟩ := progs13 hok
  have hpi := hpo ps[i] (List.getElem_mem hi)
  obtain ⟨hq0, hq1, _⟩ := procs13 hpi
  have hgd : ps.getD i [] = ps[i] := by simp [List.getD, hi]
  have hgs : ps[i].getD j ⟨0, 0, 0⟩ = ps[i][j] := by simp [List.getD, hj]
  simp only [if_true, Int.toNat_natCast, hgd, hgs] at hA
  obtain ⟨g, off, x, rfl, cx, rx⟩ := hcv i ps[i] (by simp)
  obtain ⟨g1, off1, c1, rfl⟩ := reads3_form hq0 rx
  obtain ⟨ao1, cap1, ex, hcs⟩ := id rx
  obtain ⟨g2, off2, e2, t0, t1, t2⟩ := hcs j ps[i][j] (by simp)
  subst e2
  injection ex with ex1 _ ex4
  subst ex4
  injection ex1 with ex1
  injection ex1 with ex1 ex2
  subst ex1 ex2
  have zg := World.block_lt_of_cell? w _ cx
  have zh := World.block_lt_of_cell? w _ t0
  have hbw := HU2.out.below
  have cx := (hbw.cell zg).trans cx
  have t0 := (hbw.cell (p := ⟨g1, off1 + j * 3, none⟩) zh).trans t0
  have t1 := (hbw.cell (p := ⟨g1, off1 + j * 3 + 1, none⟩) zh).trans t1
  have t2 := (hbw.cell (p := ⟨g1, off1 + j * 3 + 2, none⟩) zh).trans t2
  have hiI : (i : Int) < (ps.length : Int) := by omega
  have hjI : (j : Int) < (ps[i].length : Int) := by omega
  have HCS : Hid _ := hcs
  have hm12 := (procs13 hpi).2.1
  obtain ⟨c0, -⟩ := one_cell HU2.out.p
  obtain ⟨⟨q0, q1, q2, q3, q4, q5⟩, -⟩ := six_cells HU2.out.e
  have hmx : (ps[i].length : Int) ≤ 100 := by omega
  have HA : Hid _ := hA
  clear hcv hcs rx hpo hgd hgs hA hpl hpi
  generalize ps[i][j] = st at *
  obtain ⟨tk, tx, ty⟩ := st
  simp only at t0 t1 t2
  generalize hpp : ps[i] = p at *
  clear hpp
  have hwm : IntKind.i64.wrap ((p.length : Int) - 1) = (p.length : Int) - 1 := IntWalk.i64_in _ (by omega)
  clear hbw
  rcases hk with rfl | rfl | rfl | rfl
  · have hA := HA.out
    simp only [if_true] at hA
    subst hA
    obtain ⟨⟨y0, y1, y2, y3, y4, y5⟩, hbl⟩ := HEND.out w2 (1) ((i : Int)) ((j : Int)) (tk) (tx) (ty) HU2.out
    obtain ⟨⟨z0, z1, z2, z3, z4, z5⟩, fz⟩ := six_cells (HU2.out).r
    have g0 := fz 0
    have gg1 := fz 1
    have gg2 := fz 2
    have gg3 := fz 3
    have gg4 := fz 4
    have gg5 := fz 5
    have HBL : Hid _ := hbl.drew
    clear hbl fz
    go_wp2_with fail
    refine wp_region_late (S := fun w' => w'.cell? ⟨w.heap.size, 0, none⟩ = some (.slice (some ⟨g, off, none⟩) ps.length vcap) ∧ w'.cell? ⟨w.heap.size + 1, 1, none⟩ = some (.int .i64 (i : Int)) ∧ w'.cell? ⟨w.heap.size + 1, 2, none⟩ = some (.int .i64 (j : Int)) ∧ w'.cell? ⟨g, off + i, none⟩ = some (.slice (some ⟨g1, off1, none⟩) p.length c1) ∧ w'.cell? ⟨g1, off1 + j * 3, none⟩ = some (.int .i64 tk) ∧ w'.cell? ⟨g1, off1 + j * 3 + 1, none⟩ = some (.int .i64 tx) ∧ w'.cell? ⟨g1, off1 + j * 3 + 2, none⟩ = some (.int .i64 ty)) (late := fun j => j == 16 || j == 17) (by kernel_rfl) ⟨c0, q1, q2, cx, t0, t1, t2⟩ (fun hHeld => ?_)
    refine wpAnyG_take (i := 0) (oi := ?oiu60) (v := .pointer (some ⟨w.heap.size + 1, 1, none⟩)) ?hiu60 (by kernel_rfl) (by kernel_rfl) (by kernel_rfl) (by kernel_rfl) ?hqu60 ?hyu60 hHeld ?hru60
    case hiu60 =>
      simp only [List.getElem?_toArray, List.getElem?_cons_succ, List.getElem?_cons_zero]
      rfl
    case hqu60 => exact fun _ _ _ h => h
    case hyu60 => exact Or.inl ⟨by kernel_rfl, fun w hSw => by go_simp⟩
    try simp only [Act.put, List.setIfInBounds_toArray, List.set_cons_zero, List.set_cons_succ]
    refine wpAnyG_take (i := 1) (oi := ?oiu61) (v := .int .i64 (i : Int)) ?hiu61 (by kernel_rfl) (by kernel_rfl) (by kernel_rfl) (by kernel_rfl) ?hqu61 ?hyu61 hHeld ?hru61
    case hiu61 =>
      simp only [List.getElem?_toArray, List.getElem?_cons_succ, List.getElem?_cons_zero]
      rfl
    case hqu61 => exact fun _ _ _ h => h
    case hyu61 => exact Or.inl ⟨by kernel_rfl, fun w hSw => by obtain ⟨s1, s2, s3, s4, s5, s6, s7⟩ := hSw; go_simp⟩
    try simp only [Act.put, List.setIfInBounds_toArray, List.set_cons_zero, List.set_cons_succ]
    refine wpAnyG_take (i := 2) (oi := ?oiu62) (v := .pointer (some ⟨w.heap.size + 1, 2, none⟩)) ?hiu62 (by kernel_rfl) (by kernel_rfl) (by kernel_rfl) (by kernel_rfl) ?hqu62 ?hyu62 hHeld ?hru62
    case hiu62 =>
      simp only [List.getElem?_toArray, List.getElem?_cons_succ, List.getElem?_cons_zero]
      rfl
    case hqu62 => exact fun _ _ _ h => h
    case hyu62 => exact Or.inl ⟨by kernel_rfl, fun w hSw => by go_simp⟩
    try simp only [Act.put, List.setIfInBounds_toArray, List.set_cons_zero, List.set_cons_succ]
    refine wpAnyG_take (i := 3) (oi := ?oiu63) (v := .int .i64 (j : Int)) ?hiu63 (by kernel_rfl) (by kernel_rfl) (by kernel_rfl) (by kernel_rfl) ?hqu63 ?hyu63 hHeld ?hru63
    case hiu63 =>
      simp only [List.getElem?_toArray, List.getElem?_cons_succ, List.getElem?_cons_zero]
      rfl
    case hqu63 => exact fun _ _ _ h => h
    case hyu63 => exact Or.inl ⟨by kernel_rfl, fun w hSw => by obtain ⟨s1, s2, s3, s4, s5, s6, s7⟩ := hSw; go_simp⟩
    try simp only [Act.put, List.setIfInBounds_toArray, List.set_cons_zero, List.set_cons_succ]
    refine wpAnyG_take (i := 4) (oi := ?oiu64) (v := .pointer (some ⟨w.heap.size, 0, none⟩)) ?hiu64 (by kernel_rfl) (by kernel_rfl) (by kernel_rfl) (by kernel_rfl) ?hqu64 ?hyu64 hHeld ?hru64
    case hiu64 =>
      simp only [List.getElem?_toArray, List.getElem?_cons_succ, List.getElem?_cons_zero]
      rfl
    case hqu64 => exact fun _ _ _ h => h
    case hyu64 => exact Or.inl ⟨by kernel_rfl, fun w hSw => by go_simp⟩
    try simp only [Act.put, List.setIfInBounds_toArray, List.set_cons_zero, List.set_cons_succ]
    refine wpAnyG_take (i := 5) (oi := ?oiu65) (v := .slice (some ⟨g, off, none⟩) ps.length vcap) ?hiu65 (by kernel_rfl) (by kernel_rfl) (by kernel_rfl) (by kernel_rfl) ?hqu65 ?hyu65 hHeld ?hru65
    case hiu65 =>
      simp only [List.getElem?_toArray, List.getElem?_cons_succ, List.getElem?_cons_zero]
      rfl
    case hqu65 => exact fun _ _ _ h => h
    case hyu65 => exact Or.inl ⟨by kernel_rfl, fun w hSw => by obtain ⟨s1, s2, s3, s4, s5, s6, s7⟩ := hSw; go_simp⟩
    try simp only [Act.put, List.setIfInBounds_toArray, List.set_cons_zero, List.set_cons_succ]
    refine wpAnyG_take (i := 6) (oi := ?oiu66) (v := .pointer (some ⟨w.heap.size + 1, 1, none⟩)) ?hiu66 (by kernel_rfl) (by kernel_rfl) (by kernel_rfl) (by kernel_rfl) ?hqu66 ?hyu66 hHeld ?hru66
    case hiu66 =>
      simp only [List.getElem?_toArray, List.getElem?_cons_succ, List.getElem?_cons_zero]
      rfl
    case hqu66 => exact fun _ _ _ h => h
    case hyu66 => exact Or.inl ⟨by kernel_rfl, fun w hSw => by go_simp⟩
    try simp only [Act.put, List.setIfInBounds_toArray, List.set_cons_zero, List.set_cons_succ]
    refine wpAnyG_take (i := 7) (oi := ?oiu67) (v := .int .i64 (i : Int)) ?hiu67 (by kernel_rfl) (by kernel_rfl) (by kernel_rfl) (by kernel_rfl) ?hqu67 ?hyu67 hHeld ?hru67
    case hiu67 =>
      simp only [List.getElem?_toArray, List.getElem?_cons_succ, List.getElem?_cons_zero]
      rfl
    case hqu67 => exact fun _ _ _ h => h
    case hyu67 => exact Or.inl ⟨by kernel_rfl, fun w hSw => by obtain ⟨s1, s2, s3, s4, s5, s6, s7⟩ := hSw; go_simp⟩
    try simp only [Act.put, List.setIfInBounds_toArray, List.set_cons_zero, List.set_cons_succ]
    refine wpAnyG_take (i := 8) (oi := ?oiu68) (v := .pointer (some ⟨g, off + i, none⟩)) ?hiu68 (by kernel_rfl) (by kernel_rfl) (by kernel_rfl) (by kernel_rfl) ?hqu68 ?hyu68 hHeld ?hru68
    case hiu68 =>
      simp only [List.getElem?_toArray, List.getElem?_cons_succ, List.getElem?_cons_zero]
      rfl
    case hqu68 => exact fun _ _ _ h => h
    case hyu68 => exact Or.inl ⟨by kernel_rfl, fun w hSw => by go_simp⟩
    try simp only [Act.put, List.setIfInBounds_toArray, List.set_cons_zero, List.set_cons_succ]
    refine wpAnyG_take (i := 9) (oi := ?oiu69) (v := .pointer (some ⟨g, off + i, none⟩)) ?hiu69 (by kernel_rfl) (by kernel_rfl) (by kernel_rfl) (by kernel_rfl) ?hqu69 ?hyu69 hHeld ?hru69
    case hiu69 =>
      simp only [List.getElem?_toArray, List.getElem?_cons_succ, List.getElem?_cons_zero]
      rfl
    case hqu69 => exact fun _ _ _ h => h
    case hyu69 => exact Or.inl ⟨by kernel_rfl, fun w hSw => by go_simp⟩
    try simp only [Act.put, List.setIfInBounds_toArray, List.set_cons_zero, List.set_cons_succ]
    refine wpAnyG_take (i := 10) (oi := ?oiu610) (v := .slice (some ⟨g1, off1, none⟩) p.length c1) ?hiu610 (by kernel_rfl) (by kernel_rfl) (by kernel_rfl) (by kernel_rfl) ?hqu610 ?hyu610 hHeld ?hru610
    case hiu610 =>
      simp only [List.getElem?_toArray, List.getElem?_cons_succ, List.getElem?_cons_zero]
      rfl
    case hqu610 => exact fun _ _ _ h => h
    case hyu610 => exact Or.inl ⟨by kernel_rfl, fun w hSw => by obtain ⟨s1, s2, s3, s4, s5, s6, s7⟩ := hSw; go_simp⟩
    try simp only [Act.put, List.setIfInBounds_toArray, List.set_cons_zero, List.set_cons_succ]
    refine wpAnyG_take (i := 11) (oi := ?oiu611) (v := .pointer (some ⟨w.heap.size + 1, 2, none⟩)) ?hiu611 (by kernel_rfl) (by kernel_rfl) (by kernel_rfl) (by kernel_rfl) ?hqu611 ?hyu611 hHeld ?hru611
    case hiu611 =>
      simp only [List.getElem?_toArray, List.getElem?_cons_succ, List.getElem?_cons_zero]
      rfl
    case hqu611 => exact fun _ _ _ h => h
    case hyu611 => exact Or.inl ⟨by kernel_rfl, fun w hSw => by go_simp⟩
    try simp only [Act.put, List.setIfInBounds_toArray, List.set_cons_zero, List.set_cons_succ]
    refine wpAnyG_take (i := 12) (oi := ?oiu612) (v := .int .i64 (j : Int)) ?hiu612 (by kernel_rfl) (by kernel_rfl) (by kernel_rfl) (by kernel_rfl) ?hqu612 ?hyu612 hHeld ?hru612
    case hiu612 =>
      simp only [List.getElem?_toArray, List.getElem?_cons_succ, List.getElem?_cons_zero]
      rfl
    case hqu612 => exact fun _ _ _ h => h
    case hyu612 => exact Or.inl ⟨by kernel_rfl, fun w hSw => by obtain ⟨s1, s2, s3, s4, s5, s6, s7⟩ := hSw; go_simp⟩
    try simp only [Act.put, List.setIfInBounds_toArray, List.set_cons_zero, List.set_cons_succ]
    refine wpAnyG_take (i := 13) (oi := ?oiu613) (v := .pointer (some ⟨g1, off1 + j * 3, none⟩)) ?hiu613 (by kernel_rfl) (by kernel_rfl) (by kernel_rfl) (by kernel_rfl) ?hqu613 ?hyu613 hHeld ?hru613
    case hiu613 =>
      simp only [List.getElem?_toArray, List.getElem?_cons_succ, List.getElem?_cons_zero]
      rfl
    case hqu613 => exact fun _ _ _ h => h
    case hyu613 => exact Or.inl ⟨by kernel_rfl, fun w hSw => by go_simp⟩
    try simp only [Act.put, List.setIfInBounds_toArray, List.set_cons_zero, List.set_cons_succ]
    refine wpAnyG_take (i := 14) (oi := ?oiu614) (v := .agg #[.int .i64 tk, .int .i64 tx, .int .i64 ty]) ?hiu614 (by kernel_rfl) (by kernel_rfl) (by kernel_rfl) (by kernel_rfl) ?hqu614 ?hyu614 hHeld ?hru614
    case hiu614 =>
      simp only [List.getElem?_toArray, List.getElem?_cons_succ, List.getElem?_cons_zero]
      rfl
    case hqu614 => exact fun _ _ _ h => h
    case hyu614 => exact Or.inl ⟨by kernel_rfl, fun w hSw => by obtain ⟨s1, s2, s3, s4, s5, s6, s7⟩ := hSw; go_simp⟩
    try simp only [Act.put, List.setIfInBounds_toArray, List.set_cons_zero, List.set_cons_succ]
    refine wpAnyG_take (i := 15) (oi := ?oiu615) (v := .agg #[.int .i64 1, .int .i64 (i : Int), .int .i64 (j : Int), .int .i64 tk, .int .i64 tx, .int .i64 ty]) ?hiu615 (by kernel_rfl) (by kernel_rfl) (by kernel_rfl) (by kernel_rfl) ?hqu615 ?hyu615 hHeld ?hru615
    case hiu615 =>
      simp only [List.getElem?_toArray, List.getElem?_cons_succ, List.getElem?_cons_zero]
      rfl
    case hqu615 => exact fun _ _ _ h => h
    case hyu615 => exact Or.inl ⟨by kernel_rfl, fun w hSw => by go_simp⟩
    try simp only [Act.put, List.setIfInBounds_toArray, List.set_cons_zero, List.set_cons_succ]
    refine wpAnyG_ready (rs := [16]) (by kernel_rfl) (by simp) ?_
    refine (AllReadyG.cons (o := ?oou616) ?hou616 (fun K hK => ?hku616) AllReadyG.nil)
    case hou616 =>
      simp only [List.getElem?_toArray, List.getElem?_cons_succ, List.getElem?_cons_zero]
      rfl
    case hku616 =>
      go_simp
      try go_wp2_with fail
      refine hK.out _ _ (Or.inl rfl) (fun _ => ?_)
      clear hK K
      try simp only [Act.put, List.setIfInBounds_toArray, List.set_cons_zero, List.set_cons_succ]
      refine wpAnyG_ready (rs := [17]) (by kernel_rfl) (by simp) ?_
      refine (AllReadyG.cons (o := ?oou617) ?hou617 (fun K hK => ?hku617) AllReadyG.nil)
      case hou617 =>
        simp only [List.getElem?_toArray, List.getElem?_cons_succ, List.getElem?_cons_zero]
        rfl
      case hku617 =>
        go_simp
        try go_wp2_with fail
        refine hK.out _ _ (Or.inl rfl) (fun _ => ?_)
        clear hK K
        try simp only [Act.put, List.setIfInBounds_toArray, List.set_cons_zero, List.set_cons_succ]
        refine wpAnyG_done (by kernel_rfl) ?_ _
        go_wp2
        refine bodyPost_ret (v := .tuple #[.agg #[.int .i64 1, .int .i64 (i : Int), .int .i64 (j : Int), .int .i64 tk, .int .i64 tx, .int .i64 ty], .bool true]) (by simp [results, Try.results29, go_sem, y0, y1, y2, y3, y4, y5]) rfl ?_
        exact ⟨by first | rfl | (simp [zeroE]), HBL.out⟩
  · have hA := HA.out
    simp only [Int.reduceEq, if_false, if_true] at hA
    subst hA
    obtain ⟨⟨y0, y1, y2, y3, y4, y5⟩, hbl⟩ := HEND.out w2 (3) ((i : Int)) ((j : Int)) (0) (0) (0) HU2.out
    obtain ⟨⟨z0, z1, z2, z3, z4, z5⟩, fz⟩ := six_cells (HU2.out).r
    have g0 := fz 0
    have g1 := fz 1
    have g2 := fz 2
    have g3 := fz 3
    have g4 := fz 4
    have g5 := fz 5
    have HBL : Hid _ := hbl
    clear hbl fz
    go_wp2
    refine bodyPost_ret (v := .tuple #[.agg #[.int .i64 3, .int .i64 (i : Int), .int .i64 (j : Int), .int .i64 0, .int .i64 0, .int .i64 0], .bool true]) (by simp [results, Try.results29, go_sem, y0, y1, y2, y3, y4, y5]) rfl ?_
    exact ⟨by first | rfl | (simp [zeroE]), HBL.out⟩
  · have hA := HA.out
    simp only [Int.reduceEq, if_false, if_true] at hA
    by_cases hlast : (j : Int) = (p.length : Int) - 1
    · have hf : (decide ((j : Int) < (p.length : Int) - 1) && !jumpTo p j) = false := by
        have : ¬ (j : Int) < (p.length : Int) - 1 := by omega
        simp [this]
      rw [hf] at hA
      simp only [Bool.false_eq_true, if_false] at hA
      subst hA
      have hl2 : ((j : Int) == (p.length : Int) - 1) = true := by simpa using hlast
      have HLA : Hid _ := hlast
      clear hlast
      obtain ⟨⟨y0, y1, y2, y3, y4, y5⟩, hbl⟩ := HEND.out w2 (0) (0) (0) (0) (0) (0) HU2.out
      obtain ⟨⟨z0, z1, z2, z3, z4, z5⟩, fz⟩ := six_cells (HU2.out).r
      have g0 := fz 0
      have g1 := fz 1
      have g2 := fz 2
      have g3 := fz 3
      have g4 := fz 4
      have g5 := fz 5
      have HBL : Hid _ := hbl
      clear hbl fz
      go_wp2
      refine bodyPost_ret (v := .tuple #[.agg #[.int .i64 0, .int .i64 0, .int .i64 0, .int .i64 0, .int .i64 0, .int .i64 0], .bool false]) (by simp [results, Try.results29, go_sem, y0, y1, y2, y3, y4, y5]) rfl ?_
      exact ⟨by first | rfl | (simp [zeroE]), HBL.out⟩
    have hl2 : ((j : Int) == (p.length : Int) - 1) = false := by simpa using hlast
    have hl3 : (decide ((j : Int) < (p.length : Int) - 1)) = true := by simp; omega
    rw [hl3, Bool.true_and] at hA
    have HAA : Hid _ := hA
    have HLA : Hid _ := hlast
    clear hlast hA HA hl3
    go_wp2_with fail
    go_loopw [9] (fun q wr => ∃ t : Nat, t ≤ p.length ∧ q = .int .i64 t ∧ Below w2.heap.size w2 wr ∧ jumpTo (p.take t) (j : Int) = false) (fun q _ => p.length - (intOf q).toNat)
    case atStart => exact ⟨0, Nat.zero_le _, rfl, Below.refl _ _, rfl⟩
    case round =>
      obtain ⟨t, ht, rfl, bl, hno⟩ := hrel
      have HUR : Hid (UN w (some ⟨g, off, none⟩) ps.length vcap 3 i j sk sx sy wr) := HU2.out.kept bl HU2.out.size
      have zg2 : g < w2.heap.size := by have := HU2.out.size; omega
      have zh2 : g1 < w2.heap.size := by have := HU2.out.size; omega
      have cx := (bl.cell (p := ⟨g, off + i, none⟩) zg2).trans cx
      have t0 := (bl.cell (p := ⟨g1, off1 + j * 3, none⟩) zh2).trans t0
      have t1 := (bl.cell (p := ⟨g1, off1 + j * 3 + 1, none⟩) zh2).trans t1
      have t2 := (bl.cell (p := ⟨g1, off1 + j * 3 + 2, none⟩) zh2).trans t2
      have HBL2 : Hid (Below w2.heap.size w2 wr) := bl
      have HNO : Hid _ := hno
      clear c0 q0 q1 q2 q3 q4 q5 hno
      obtain ⟨c0, -⟩ := one_cell HUR.out.p
      obtain ⟨⟨q0, q1, q2, q3, q4, q5⟩, -⟩ := six_cells HUR.out.e
      by_cases hlt : t < p.length
      · have hltI : (t : Int) < (p.length : Int) := by omega
        obtain ⟨ga, oa, ea, xo0, xo1, xo2⟩ := HCS.out t p[t] (by simp)
        injection ea with ea
        injection ea with ea1 ea2
        subst ea1 ea2
        have bw := HUR.out.below
        have x0 := (bw.cell (p := ⟨g1, off1 + t * 3, none⟩) zh).trans xo0
        have x2 := (bw.cell (p := ⟨g1, off1 + t * 3 + 2, none⟩) zh).trans xo2
        clear xo0 xo1 xo2
        have H1 : Hid (jumpTo (p.take (t + 1)) (j : Int) = (decide (p[t].k = 7) && decide (p[t].y = (j : Int)))) := by
          show _ = _
          have h9 := HNO.out
          unfold jumpTo at h9 ⊢
          rw [List.take_succ_eq_append_getElem hlt, List.any_append, h9]
          simp
        have H2 : Hid ((decide (p[t].k = 7) && decide (p[t].y = (j : Int))) = true → jumpTo p (j : Int) = true) := fun h => List.any_eq_true.2 ⟨p[t], List.getElem_mem hlt, h⟩
        generalize p[t] = sv at *
        obtain ⟨vk, vx, vy⟩ := sv
        simp only at x0 x2
        clear bw
        by_cases h7 : vk = 7
        · subst h7
          by_cases hyj : vy = (j : Int)
          · subst hyj
            have HJ : Hid (jumpTo p (j : Int) = true) := H2.out (by simp)
            have hA := HAA.out
            rw [HJ.out] at hA
            simp only [Bool.not_true, Bool.false_eq_true, if_false] at hA
            subst hA
            have bd : Below w2.heap.size w2 wr.drew := HBL2.out.drew
            have HUD : Hid (UN w (some ⟨g, off, none⟩) ps.length vcap 3 i j sk sx sy wr.drew) := HU2.out.kept bd HU2.out.size
            clear bd HAA H1 H2
            go_wp2_with fail
            refine wp_region_held_drew (S := fun w' => w'.cell? ⟨w.heap.size + 1, 2, none⟩ = some (.int .i64 (j : Int)) ∧ w'.cell? ⟨g1, off1 + t * 3, none⟩ = some (.int .i64 7) ∧ w'.cell? ⟨g1, off1 + t * 3 + 2, none⟩ = some (.int .i64 (j : Int))) (by kernel_rfl) ⟨q2, x0, x2⟩ (fun hHeld => ?_)
            refine wpAnyH_take (i := 0) (oi := ?oiva0) (v := .slice (some ⟨g1, off1, none⟩) p.length c1) ?hiva0 (by kernel_rfl) (by kernel_rfl) (by kernel_rfl) ?hqva0 ?hyva0 hHeld ?hrva0
            case hiva0 =>
              simp only [List.getElem?_toArray, List.getElem?_cons_succ, List.getElem?_cons_zero]
              rfl
            case hqva0 => exact fun _ _ _ h => h
            case hyva0 => exact Or.inl ⟨by kernel_rfl, fun w hSw => by go_simp⟩
            try simp only [Act.put, List.setIfInBounds_toArray, List.set_cons_zero, List.set_cons_succ]
            refine wpAnyH_take (i := 1) (oi := ?oiva1) (v := .int .i64 (t : Int)) ?hiva1 (by kernel_rfl) (by kernel_rfl) (by kernel_rfl) ?hqva1 ?hyva1 hHeld ?hrva1
            case hiva1 =>
              simp only [List.getElem?_toArray, List.getElem?_cons_succ, List.getElem?_cons_zero]
              rfl
            case hqva1 => exact fun _ _ _ h => h
            case hyva1 => exact Or.inl ⟨by kernel_rfl, fun w hSw => by go_simp⟩
            try simp only [Act.put, List.setIfInBounds_toArray, List.set_cons_zero, List.set_cons_succ]
            refine wpAnyH_take (i := 2) (oi := ?oiva2) (v := .pointer (some ⟨g1, off1 + t * 3, none⟩)) ?hiva2 (by kernel_rfl) (by kernel_rfl) (by kernel_rfl) ?hqva2 ?hyva2 hHeld ?hrva2
            case hiva2 =>
              simp only [List.getElem?_toArray, List.getElem?_cons_succ, List.getElem?_cons_zero]
              rfl
            case hqva2 => exact fun _ _ _ h => h
            case hyva2 => exact Or.inl ⟨by kernel_rfl, fun w hSw => by go_simp⟩
            try simp only [Act.put, List.setIfInBounds_toArray, List.set_cons_zero, List.set_cons_succ]
            refine wpAnyH_take (i := 3) (oi := ?oiva3) (v := .pointer (some ⟨g1, off1 + t * 3, none⟩)) ?hiva3 (by kernel_rfl) (by kernel_rfl) (by kernel_rfl) ?hqva3 ?hyva3 hHeld ?hrva3
            case hiva3 =>
              simp only [List.getElem?_toArray, List.getElem?_cons_succ, List.getElem?_cons_zero]
              rfl
            case hqva3 => exact fun _ _ _ h => h
            case hyva3 => exact Or.inl ⟨by kernel_rfl, fun w hSw => by go_simp⟩
            try simp only [Act.put, List.setIfInBounds_toArray, List.set_cons_zero, List.set_cons_succ]
            refine wpAnyH_take (i := 4) (oi := ?oiva4) (v := .int .i64 7) ?hiva4 (by kernel_rfl) (by kernel_rfl) (by kernel_rfl) ?hqva4 ?hyva4 hHeld ?hrva4
            case hiva4 =>
              simp only [List.getElem?_toArray, List.getElem?_cons_succ, List.getElem?_cons_zero]
              rfl
            case hqva4 => exact fun _ _ _ h => h
            case hyva4 => exact Or.inl ⟨by kernel_rfl, fun w hSw => by obtain ⟨s1, s2, s3⟩ := hSw; go_simp⟩
            try simp only [Act.put, List.setIfInBounds_toArray, List.set_cons_zero, List.set_cons_succ]
            refine wpAnyH_take (i := 5) (oi := ?oiva5) (v := .bool true) ?hiva5 (by kernel_rfl) (by kernel_rfl) (by kernel_rfl) ?hqva5 ?hyva5 hHeld ?hrva5
            case hiva5 =>
              simp only [List.getElem?_toArray, List.getElem?_cons_succ, List.getElem?_cons_zero]
              rfl
            case hqva5 => exact fun _ _ _ h => h
            case hyva5 => exact Or.inl ⟨by kernel_rfl, fun w hSw => by go_simp⟩
            try simp only [Act.put, List.setIfInBounds_toArray, List.set_cons_zero, List.set_cons_succ]
            refine wpAnyH_take (i := 6) (oi := ?oiva6) (v := .bool true) ?hiva6 (by kernel_rfl) (by kernel_rfl) (by kernel_rfl) ?hqva6 ?hyva6 hHeld ?hrva6
            case hiva6 =>
              simp only [List.getElem?_toArray, List.getElem?_cons_succ, List.getElem?_cons_zero]
              rfl
            case hqva6 => exact fun _ _ _ h => h
            case hyva6 => exact Or.inl ⟨by kernel_rfl, fun w hSw => by go_simp⟩
            try simp only [Act.put, List.setIfInBounds_toArray, List.set_cons_zero, List.set_cons_succ]
            refine wpAnyH_take (i := 7) (oi := ?oiva7) (v := .slice (some ⟨g1, off1, none⟩) p.length c1) ?hiva7 (by kernel_rfl) (by kernel_rfl) (by kernel_rfl) ?hqva7 ?hyva7 hHeld ?hrva7
            case hiva7 =>
              simp only [List.getElem?_toArray, List.getElem?_cons_succ, List.getElem?_cons_zero]
              rfl
            case hqva7 => exact fun _ _ _ h => h
            case hyva7 => exact Or.inl ⟨by kernel_rfl, fun w hSw => by go_simp⟩
            try simp only [Act.put, List.setIfInBounds_toArray, List.set_cons_zero, List.set_cons_succ]
            refine wpAnyH_take (i := 8) (oi := ?oiva8) (v := .int .i64 (t : Int)) ?hiva8 (by kernel_rfl) (by kernel_rfl) (by kernel_rfl) ?hqva8 ?hyva8 hHeld ?hrva8
            case hiva8 =>
              simp only [List.getElem?_toArray, List.getElem?_cons_succ, List.getElem?_cons_zero]
              rfl
            case hqva8 => exact fun _ _ _ h => h
            case hyva8 => exact Or.inl ⟨by kernel_rfl, fun w hSw => by go_simp⟩
            try simp only [Act.put, List.setIfInBounds_toArray, List.set_cons_zero, List.set_cons_succ]
            refine wpAnyH_take (i := 9) (oi := ?oiva9) (v := .pointer (some ⟨g1, off1 + t * 3, none⟩)) ?hiva9 (by kernel_rfl) (by kernel_rfl) (by kernel_rfl) ?hqva9 ?hyva9 hHeld ?hrva9
            case hiva9 =>
              simp only [List.getElem?_toArray, List.getElem?_cons_succ, List.getElem?_cons_zero]
              rfl
            case hqva9 => exact fun _ _ _ h => h
            case hyva9 => exact Or.inl ⟨by kernel_rfl, fun w hSw => by go_simp⟩
            try simp only [Act.put, List.setIfInBounds_toArray, List.set_cons_zero, List.set_cons_succ]
            refine wpAnyH_take (i := 10) (oi := ?oiva10) (v := .pointer (some ⟨g1, off1 + t * 3 + 2, none⟩)) ?hiva10 (by kernel_rfl) (by kernel_rfl) (by kernel_rfl) ?hqva10 ?hyva10 hHeld ?hrva10
            case hiva10 =>
              simp only [List.getElem?_toArray, List.getElem?_cons_succ, List.getElem?_cons_zero]
              rfl
            case hqva10 => exact fun _ _ _ h => h
            case hyva10 => exact Or.inl ⟨by kernel_rfl, fun w hSw => by go_simp⟩
            try simp only [Act.put, List.setIfInBounds_toArray, List.set_cons_zero, List.set_cons_succ]
            refine wpAnyH_take (i := 11) (oi := ?oiva11) (v := .int .i64 (j : Int)) ?hiva11 (by kernel_rfl) (by kernel_rfl) (by kernel_rfl) ?hqva11 ?hyva11 hHeld ?hrva11
            case hiva11 =>
              simp only [List.getElem?_toArray, List.getElem?_cons_succ, List.getElem?_cons_zero]
              rfl
            case hqva11 => exact fun _ _ _ h => h
            case hyva11 => exact Or.inl ⟨by kernel_rfl, fun w hSw => by obtain ⟨s1, s2, s3⟩ := hSw; go_simp⟩
            try simp only [Act.put, List.setIfInBounds_toArray, List.set_cons_zero, List.set_cons_succ]
            refine wpAnyH_take (i := 12) (oi := ?oiva12) (v := .pointer (some ⟨w.heap.size + 1, 2, none⟩)) ?hiva12 (by kernel_rfl) (by kernel_rfl) (by kernel_rfl) ?hqva12 ?hyva12 hHeld ?hrva12
            case hiva12 =>
              simp only [List.getElem?_toArray, List.getElem?_cons_succ, List.getElem?_cons_zero]
              rfl
            case hqva12 => exact fun _ _ _ h => h
            case hyva12 => exact Or.inl ⟨by kernel_rfl, fun w hSw => by go_simp⟩
            try simp only [Act.put, List.setIfInBounds_toArray, List.set_cons_zero, List.set_cons_succ]
            refine wpAnyH_take (i := 13) (oi := ?oiva13) (v := .int .i64 (j : Int)) ?hiva13 (by kernel_rfl) (by kernel_rfl) (by kernel_rfl) ?hqva13 ?hyva13 hHeld ?hrva13
            case hiva13 =>
              simp only [List.getElem?_toArray, List.getElem?_cons_succ, List.getElem?_cons_zero]
              rfl
            case hqva13 => exact fun _ _ _ h => h
            case hyva13 => exact Or.inl ⟨by kernel_rfl, fun w hSw => by obtain ⟨s1, s2, s3⟩ := hSw; go_simp⟩
            try simp only [Act.put, List.setIfInBounds_toArray, List.set_cons_zero, List.set_cons_succ]
            refine wpAnyH_take (i := 14) (oi := ?oiva14) (v := .bool true) ?hiva14 (by kernel_rfl) (by kernel_rfl) (by kernel_rfl) ?hqva14 ?hyva14 hHeld ?hrva14
            case hiva14 =>
              simp only [List.getElem?_toArray, List.getElem?_cons_succ, List.getElem?_cons_zero]
              rfl
            case hqva14 => exact fun _ _ _ h => h
            case hyva14 => exact Or.inl ⟨by kernel_rfl, fun w hSw => by go_simp⟩
            try simp only [Act.put, List.setIfInBounds_toArray, List.set_cons_zero, List.set_cons_succ]
            refine wpAnyH_take (i := 15) (oi := ?oiva15) (v := .bool true) ?hiva15 (by kernel_rfl) (by kernel_rfl) (by kernel_rfl) ?hqva15 ?hyva15 hHeld ?hrva15
            case hiva15 =>
              simp only [List.getElem?_toArray, List.getElem?_cons_succ, List.getElem?_cons_zero]
              rfl
            case hqva15 => exact fun _ _ _ h => h
            case hyva15 => exact Or.inl ⟨by kernel_rfl, fun w hSw => by go_simp⟩
            try simp only [Act.put, List.setIfInBounds_toArray, List.set_cons_zero, List.set_cons_succ]
            refine wpAnyH_done (by kernel_rfl) ?_ _
            generalize wr.drew = w5 at *
            obtain ⟨⟨y0, y1, y2, y3, y4, y5⟩, hbl⟩ := HEND.out w5 (0) (0) (0) (0) (0) (0) HUD.out
            obtain ⟨⟨z0, z1, z2, z3, z4, z5⟩, fz⟩ := six_cells (HUD.out).r
            have g0 := fz 0
            have g1 := fz 1
            have g2 := fz 2
            have g3 := fz 3
            have g4 := fz 4
            have g5 := fz 5
            have HBL : Hid _ := hbl
            clear hbl fz
            go_wp2
            refine bodyPost_ret (v := .tuple #[.agg #[.int .i64 0, .int .i64 0, .int .i64 0, .int .i64 0, .int .i64 0, .int .i64 0], .bool false]) (by simp [results, Try.results29, go_sem, y0, y1, y2, y3, y4, y5]) rfl ?_
            exact ⟨by first | rfl | (simp [zeroE]), HBL.out⟩
          · have hyb : (vy == (j : Int)) = false := by simpa using hyj
            have HNX : Hid (jumpTo (p.take (t + 1)) (j : Int) = false) := H1.out.trans (by simp [hyj])
            clear H1 H2
            go_wp2_with fail
            refine wp_region_held_drew (S := fun w' => w'.cell? ⟨w.heap.size + 1, 2, none⟩ = some (.int .i64 (j : Int)) ∧ w'.cell? ⟨g1, off1 + t * 3, none⟩ = some (.int .i64 7) ∧ w'.cell? ⟨g1, off1 + t * 3 + 2, none⟩ = some (.int .i64 vy)) (by kernel_rfl) ⟨q2, x0, x2⟩ (fun hHeld => ?_)
            refine wpAnyH_take (i := 0) (oi := ?oivb0) (v := .slice (some ⟨g1, off1, none⟩) p.length c1) ?hivb0 (by kernel_rfl) (by kernel_rfl) (by kernel_rfl) ?hqvb0 ?hyvb0 hHeld ?hrvb0
            case hivb0 =>
              simp only [List.getElem?_toArray, List.getElem?_cons_succ, List.getElem?_cons_zero]
              rfl
            case hqvb0 => exact fun _ _ _ h => h
            case hyvb0 => exact Or.inl ⟨by kernel_rfl, fun w hSw => by go_simp⟩
            try simp only [Act.put, List.setIfInBounds_toArray, List.set_cons_zero, List.set_cons_succ]
            refine wpAnyH_take (i := 1) (oi := ?oivb1) (v := .int .i64 (t : Int)) ?hivb1 (by kernel_rfl) (by kernel_rfl) (by kernel_rfl) ?hqvb1 ?hyvb1 hHeld ?hrvb1
            case hivb1 =>
              simp only [List.getElem?_toArray, List.getElem?_cons_succ, List.getElem?_cons_zero]
              rfl
            case hqvb1 => exact fun _ _ _ h => h
            case hyvb1 => exact Or.inl ⟨by kernel_rfl, fun w hSw => by go_simp⟩
            try simp only [Act.put, List.setIfInBounds_toArray, List.set_cons_zero, List.set_cons_succ]
            refine wpAnyH_take (i := 2) (oi := ?oivb2) (v := .pointer (some ⟨g1, off1 + t * 3, none⟩)) ?hivb2 (by kernel_rfl) (by kernel_rfl) (by kernel_rfl) ?hqvb2 ?hyvb2 hHeld ?hrvb2
            case hivb2 =>
              simp only [List.getElem?_toArray, List.getElem?_cons_succ, List.getElem?_cons_zero]
              rfl
            case hqvb2 => exact fun _ _ _ h => h
            case hyvb2 => exact Or.inl ⟨by kernel_rfl, fun w hSw => by go_simp⟩
            try simp only [Act.put, List.setIfInBounds_toArray, List.set_cons_zero, List.set_cons_succ]
            refine wpAnyH_take (i := 3) (oi := ?oivb3) (v := .pointer (some ⟨g1, off1 + t * 3, none⟩)) ?hivb3 (by kernel_rfl) (by kernel_rfl) (by kernel_rfl) ?hqvb3 ?hyvb3 hHeld ?hrvb3
            case hivb3 =>
              simp only [List.getElem?_toArray, List.getElem?_cons_succ, List.getElem?_cons_zero]
              rfl
            case hqvb3 => exact fun _ _ _ h => h
            case hyvb3 => exact Or.inl ⟨by kernel_rfl, fun w hSw => by go_simp⟩
            try simp only [Act.put, List.setIfInBounds_toArray, List.set_cons_zero, List.set_cons_succ]
            refine wpAnyH_take (i := 4) (oi := ?oivb4) (v := .int .i64 7) ?hivb4 (by kernel_rfl) (by kernel_rfl) (by kernel_rfl) ?hqvb4 ?hyvb4 hHeld ?hrvb4
            case hivb4 =>
              simp only [List.getElem?_toArray, List.getElem?_cons_succ, List.getElem?_cons_zero]
              rfl
            case hqvb4 => exact fun _ _ _ h => h
            case hyvb4 => exact Or.inl ⟨by kernel_rfl, fun w hSw => by obtain ⟨s1, s2, s3⟩ := hSw; go_simp⟩
            try simp only [Act.put, List.setIfInBounds_toArray, List.set_cons_zero, List.set_cons_succ]
            refine wpAnyH_take (i := 5) (oi := ?oivb5) (v := .bool true) ?hivb5 (by kernel_rfl) (by kernel_rfl) (by kernel_rfl) ?hqvb5 ?hyvb5 hHeld ?hrvb5
            case hivb5 =>
              simp only [List.getElem?_toArray, List.getElem?_cons_succ, List.getElem?_cons_zero]
              rfl
            case hqvb5 => exact fun _ _ _ h => h
            case hyvb5 => exact Or.inl ⟨by kernel_rfl, fun w hSw => by go_simp⟩
            try simp only [Act.put, List.setIfInBounds_toArray, List.set_cons_zero, List.set_cons_succ]
            refine wpAnyH_take (i := 6) (oi := ?oivb6) (v := .bool true) ?hivb6 (by kernel_rfl) (by kernel_rfl) (by kernel_rfl) ?hqvb6 ?hyvb6 hHeld ?hrvb6
            case hivb6 =>
              simp only [List.getElem?_toArray, List.getElem?_cons_succ, List.getElem?_cons_zero]
              rfl
            case hqvb6 => exact fun _ _ _ h => h
            case hyvb6 => exact Or.inl ⟨by kernel_rfl, fun w hSw => by go_simp⟩
            try simp only [Act.put, List.setIfInBounds_toArray, List.set_cons_zero, List.set_cons_succ]
            refine wpAnyH_take (i := 7) (oi := ?oivb7) (v := .slice (some ⟨g1, off1, none⟩) p.length c1) ?hivb7 (by kernel_rfl) (by kernel_rfl) (by kernel_rfl) ?hqvb7 ?hyvb7 hHeld ?hrvb7
            case hivb7 =>
              simp only [List.getElem?_toArray, List.getElem?_cons_succ, List.getElem?_cons_zero]
              rfl
            case hqvb7 => exact fun _ _ _ h => h
            case hyvb7 => exact Or.inl ⟨by kernel_rfl, fun w hSw => by go_simp⟩
            try simp only [Act.put, List.setIfInBounds_toArray, List.set_cons_zero, List.set_cons_succ]
            refine wpAnyH_take (i := 8) (oi := ?oivb8) (v := .int .i64 (t : Int)) ?hivb8 (by kernel_rfl) (by kernel_rfl) (by kernel_rfl) ?hqvb8 ?hyvb8 hHeld ?hrvb8
            case hivb8 =>
              simp only [List.getElem?_toArray, List.getElem?_cons_succ, List.getElem?_cons_zero]
              rfl
            case hqvb8 => exact fun _ _ _ h => h
            case hyvb8 => exact Or.inl ⟨by kernel_rfl, fun w hSw => by go_simp⟩
            try simp only [Act.put, List.setIfInBounds_toArray, List.set_cons_zero, List.set_cons_succ]
            refine wpAnyH_take (i := 9) (oi := ?oivb9) (v := .pointer (some ⟨g1, off1 + t * 3, none⟩)) ?hivb9 (by kernel_rfl) (by kernel_rfl) (by kernel_rfl) ?hqvb9 ?hyvb9 hHeld ?hrvb9
            case hivb9 =>
              simp only [List.getElem?_toArray, List.getElem?_cons_succ, List.getElem?_cons_zero]
              rfl
            case hqvb9 => exact fun _ _ _ h => h
            case hyvb9 => exact Or.inl ⟨by kernel_rfl, fun w hSw => by go_simp⟩
            try simp only [Act.put, List.setIfInBounds_toArray, List.set_cons_zero, List.set_cons_succ]
            refine wpAnyH_take (i := 10) (oi := ?oivb10) (v := .pointer (some ⟨g1, off1 + t * 3 + 2, none⟩)) ?hivb10 (by kernel_rfl) (by kernel_rfl) (by kernel_rfl) ?hqvb10 ?hyvb10 hHeld ?hrvb10
            case hivb10 =>
              simp only [List.getElem?_toArray, List.getElem?_cons_succ, List.getElem?_cons_zero]
              rfl
            case hqvb10 => exact fun _ _ _ h => h
            case hyvb10 => exact Or.inl ⟨by kernel_rfl, fun w hSw => by go_simp⟩
            try simp only [Act.put, List.setIfInBounds_toArray, List.set_cons_zero, List.set_cons_succ]
            refine wpAnyH_take (i := 11) (oi := ?oivb11) (v := .int .i64 vy) ?hivb11 (by kernel_rfl) (by kernel_rfl) (by kernel_rfl) ?hqvb11 ?hyvb11 hHeld ?hrvb11
            case hivb11 =>
              simp only [List.getElem?_toArray, List.getElem?_cons_succ, List.getElem?_cons_zero]
              rfl
            case hqvb11 => exact fun _ _ _ h => h
            case hyvb11 => exact Or.inl ⟨by kernel_rfl, fun w hSw => by obtain ⟨s1, s2, s3⟩ := hSw; go_simp⟩
            try simp only [Act.put, List.setIfInBounds_toArray, List.set_cons_zero, List.set_cons_succ]
            refine wpAnyH_take (i := 12) (oi := ?oivb12) (v := .pointer (some ⟨w.heap.size + 1, 2, none⟩)) ?hivb12 (by kernel_rfl) (by kernel_rfl) (by kernel_rfl) ?hqvb12 ?hyvb12 hHeld ?hrvb12
            case hivb12 =>
              simp only [List.getElem?_toArray, List.getElem?_cons_succ, List.getElem?_cons_zero]
              rfl
            case hqvb12 => exact fun _ _ _ h => h
            case hyvb12 => exact Or.inl ⟨by kernel_rfl, fun w hSw => by go_simp⟩
            try simp only [Act.put, List.setIfInBounds_toArray, List.set_cons_zero, List.set_cons_succ]
            refine wpAnyH_take (i := 13) (oi := ?oivb13) (v := .int .i64 (j : Int)) ?hivb13 (by kernel_rfl) (by kernel_rfl) (by kernel_rfl) ?hqvb13 ?hyvb13 hHeld ?hrvb13
            case hivb13 =>
              simp only [List.getElem?_toArray, List.getElem?_cons_succ, List.getElem?_cons_zero]
              rfl
            case hqvb13 => exact fun _ _ _ h => h
            case hyvb13 => exact Or.inl ⟨by kernel_rfl, fun w hSw => by obtain ⟨s1, s2, s3⟩ := hSw; go_simp⟩
            try simp only [Act.put, List.setIfInBounds_toArray, List.set_cons_zero, List.set_cons_succ]
            refine wpAnyH_take (i := 14) (oi := ?oivb14) (v := .bool false) ?hivb14 (by kernel_rfl) (by kernel_rfl) (by kernel_rfl) ?hqvb14 ?hyvb14 hHeld ?hrvb14
            case hivb14 =>
              simp only [List.getElem?_toArray, List.getElem?_cons_succ, List.getElem?_cons_zero]
              rfl
            case hqvb14 => exact fun _ _ _ h => h
            case hyvb14 => exact Or.inl ⟨by kernel_rfl, fun w hSw => by go_simp⟩
            try simp only [Act.put, List.setIfInBounds_toArray, List.set_cons_zero, List.set_cons_succ]
            refine wpAnyH_take (i := 15) (oi := ?oivb15) (v := .bool false) ?hivb15 (by kernel_rfl) (by kernel_rfl) (by kernel_rfl) ?hqvb15 ?hyvb15 hHeld ?hrvb15
            case hivb15 =>
              simp only [List.getElem?_toArray, List.getElem?_cons_succ, List.getElem?_cons_zero]
              rfl
            case hqvb15 => exact fun _ _ _ h => h
            case hyvb15 => exact Or.inl ⟨by kernel_rfl, fun w hSw => by go_simp⟩
            try simp only [Act.put, List.setIfInBounds_toArray, List.set_cons_zero, List.set_cons_succ]
            refine wpAnyH_done (by kernel_rfl) ?_ _
            have HBN : Hid (Below w2.heap.size w2 wr.drew) := HBL2.out.drew
            generalize wr.drew = w5 at *
            go_wp2
            go_roundw
            case rel => exact ⟨t + 1, by omega, by go_num, HBN.out, HNX.out⟩
            case measure => simp [intOf]; omega
        · have h7b : (vk == 7) = false := by simpa using h7
          have HNX : Hid (jumpTo (p.take (t + 1)) (j : Int) = false) := H1.out.trans (by simp [h7])
          clear H1 H2
          go_wp2_with fail
          refine wp_region_held_drew (S := fun w' => w'.cell? ⟨w.heap.size + 1, 2, none⟩ = some (.int .i64 (j : Int)) ∧ w'.cell? ⟨g1, off1 + t * 3, none⟩ = some (.int .i64 vk) ∧ w'.cell? ⟨g1, off1 + t * 3 + 2, none⟩ = some (.int .i64 vy)) (by kernel_rfl) ⟨q2, x0, x2⟩ (fun hHeld => ?_)
          refine wpAnyH_take (i := 0) (oi := ?oivc0) (v := .slice (some ⟨g1, off1, none⟩) p.length c1) ?hivc0 (by kernel_rfl) (by kernel_rfl) (by kernel_rfl) ?hqvc0 ?hyvc0 hHeld ?hrvc0
          case hivc0 =>
            simp only [List.getElem?_toArray, List.getElem?_cons_succ, List.getElem?_cons_zero]
            rfl
          case hqvc0 => exact fun _ _ _ h => h
          case hyvc0 => exact Or.inl ⟨by kernel_rfl, fun w hSw => by go_simp⟩
          try simp only [Act.put, List.setIfInBounds_toArray, List.set_cons_zero, List.set_cons_succ]
          refine wpAnyH_take (i := 1) (oi := ?oivc1) (v := .int .i64 (t : Int)) ?hivc1 (by kernel_rfl) (by kernel_rfl) (by kernel_rfl) ?hqvc1 ?hyvc1 hHeld ?hrvc1
          case hivc1 =>
            simp only [List.getElem?_toArray, List.getElem?_cons_succ, List.getElem?_cons_zero]
            rfl
          case hqvc1 => exact fun _ _ _ h => h
          case hyvc1 => exact Or.inl ⟨by kernel_rfl, fun w hSw => by go_simp⟩
          try simp only [Act.put, List.setIfInBounds_toArray, List.set_cons_zero, List.set_cons_succ]
          refine wpAnyH_take (i := 2) (oi := ?oivc2) (v := .pointer (some ⟨g1, off1 + t * 3, none⟩)) ?hivc2 (by kernel_rfl) (by kernel_rfl) (by kernel_rfl) ?hqvc2 ?hyvc2 hHeld ?hrvc2
          case hivc2 =>
            simp only [List.getElem?_toArray, List.getElem?_cons_succ, List.getElem?_cons_zero]
            rfl
          case hqvc2 => exact fun _ _ _ h => h
          case hyvc2 => exact Or.inl ⟨by kernel_rfl, fun w hSw => by go_simp⟩
          try simp only [Act.put, List.setIfInBounds_toArray, List.set_cons_zero, List.set_cons_succ]
          refine wpAnyH_take (i := 3) (oi := ?oivc3) (v := .pointer (some ⟨g1, off1 + t * 3, none⟩)) ?hivc3 (by kernel_rfl) (by kernel_rfl) (by kernel_rfl) ?hqvc3 ?hyvc3 hHeld ?hrvc3
          case hivc3 =>
            simp only [List.getElem?_toArray, List.getElem?_cons_succ, List.getElem?_cons_zero]
            rfl
          case hqvc3 => exact fun _ _ _ h => h
          case hyvc3 => exact Or.inl ⟨by kernel_rfl, fun w hSw => by go_simp⟩
          try simp only [Act.put, List.setIfInBounds_toArray, List.set_cons_zero, List.set_cons_succ]
          refine wpAnyH_take (i := 4) (oi := ?oivc4) (v := .int .i64 vk) ?hivc4 (by kernel_rfl) (by kernel_rfl) (by kernel_rfl) ?hqvc4 ?hyvc4 hHeld ?hrvc4
          case hivc4 =>
            simp only [List.getElem?_toArray, List.getElem?_cons_succ, List.getElem?_cons_zero]
            rfl
          case hqvc4 => exact fun _ _ _ h => h
          case hyvc4 => exact Or.inl ⟨by kernel_rfl, fun w hSw => by obtain ⟨s1, s2, s3⟩ := hSw; go_simp⟩
          try simp only [Act.put, List.setIfInBounds_toArray, List.set_cons_zero, List.set_cons_succ]
          refine wpAnyH_take (i := 5) (oi := ?oivc5) (v := .bool false) ?hivc5 (by kernel_rfl) (by kernel_rfl) (by kernel_rfl) ?hqvc5 ?hyvc5 hHeld ?hrvc5
          case hivc5 =>
            simp only [List.getElem?_toArray, List.getElem?_cons_succ, List.getElem?_cons_zero]
            rfl
          case hqvc5 => exact fun _ _ _ h => h
          case hyvc5 => exact Or.inl ⟨by kernel_rfl, fun w hSw => by go_simp⟩
          try simp only [Act.put, List.setIfInBounds_toArray, List.set_cons_zero, List.set_cons_succ]
          refine wpAnyH_take (i := 6) (oi := ?oivc6) (v := .bool false) ?hivc6 (by kernel_rfl) (by kernel_rfl) (by kernel_rfl) ?hqvc6 ?hyvc6 hHeld ?hrvc6
          case hivc6 =>
            simp only [List.getElem?_toArray, List.getElem?_cons_succ, List.getElem?_cons_zero]
            rfl
          case hqvc6 => exact fun _ _ _ h => h
          case hyvc6 => exact Or.inl ⟨by kernel_rfl, fun w hSw => by go_simp⟩
          try simp only [Act.put, List.setIfInBounds_toArray, List.set_cons_zero, List.set_cons_succ]
          refine wpAnyH_take (i := 7) (oi := ?oivc7) (v := undef) ?hivc7 (by kernel_rfl) (by kernel_rfl) (by kernel_rfl) ?hqvc7 ?hyvc7 hHeld ?hrvc7
          case hivc7 =>
            simp only [List.getElem?_toArray, List.getElem?_cons_succ, List.getElem?_cons_zero]
            rfl
          case hqvc7 => exact fun _ _ _ h => h
          case hyvc7 => exact Or.inr ⟨by kernel_rfl, rfl⟩
          try simp only [Act.put, List.setIfInBounds_toArray, List.set_cons_zero, List.set_cons_succ]
          refine wpAnyH_take (i := 8) (oi := ?oivc8) (v := undef) ?hivc8 (by kernel_rfl) (by kernel_rfl) (by kernel_rfl) ?hqvc8 ?hyvc8 hHeld ?hrvc8
          case hivc8 =>
            simp only [List.getElem?_toArray, List.getElem?_cons_succ, List.getElem?_cons_zero]
            rfl
          case hqvc8 => exact fun _ _ _ h => h
          case hyvc8 => exact Or.inr ⟨by kernel_rfl, rfl⟩
          try simp only [Act.put, List.setIfInBounds_toArray, List.set_cons_zero, List.set_cons_succ]
          refine wpAnyH_take (i := 9) (oi := ?oivc9) (v := undef) ?hivc9 (by kernel_rfl) (by kernel_rfl) (by kernel_rfl) ?hqvc9 ?hyvc9 hHeld ?hrvc9
          case hivc9 =>
            simp only [List.getElem?_toArray, List.getElem?_cons_succ, List.getElem?_cons_zero]
            rfl
          case hqvc9 => exact fun _ _ _ h => h
          case hyvc9 => exact Or.inr ⟨by kernel_rfl, rfl⟩
          try simp only [Act.put, List.setIfInBounds_toArray, List.set_cons_zero, List.set_cons_succ]
          refine wpAnyH_take (i := 10) (oi := ?oivc10) (v := undef) ?hivc10 (by kernel_rfl) (by kernel_rfl) (by kernel_rfl) ?hqvc10 ?hyvc10 hHeld ?hrvc10
          case hivc10 =>
            simp only [List.getElem?_toArray, List.getElem?_cons_succ, List.getElem?_cons_zero]
            rfl
          case hqvc10 => exact fun _ _ _ h => h
          case hyvc10 => exact Or.inr ⟨by kernel_rfl, rfl⟩
          try simp only [Act.put, List.setIfInBounds_toArray, List.set_cons_zero, List.set_cons_succ]
          refine wpAnyH_take (i := 11) (oi := ?oivc11) (v := undef) ?hivc11 (by kernel_rfl) (by kernel_rfl) (by kernel_rfl) ?hqvc11 ?hyvc11 hHeld ?hrvc11
          case hivc11 =>
            simp only [List.getElem?_toArray, List.getElem?_cons_succ, List.getElem?_cons_zero]
            rfl
          case hqvc11 => exact fun _ _ _ h => h
          case hyvc11 => exact Or.inr ⟨by kernel_rfl, rfl⟩
          try simp only [Act.put, List.setIfInBounds_toArray, List.set_cons_zero, List.set_cons_succ]
          refine wpAnyH_take (i := 12) (oi := ?oivc12) (v := undef) ?hivc12 (by kernel_rfl) (by kernel_rfl) (by kernel_rfl) ?hqvc12 ?hyvc12 hHeld ?hrvc12
          case hivc12 =>
            simp only [List.getElem?_toArray, List.getElem?_cons_succ, List.getElem?_cons_zero]
            rfl
          case hqvc12 => exact fun _ _ _ h => h
          case hyvc12 => exact Or.inr ⟨by kernel_rfl, rfl⟩
          try simp only [Act.put, List.setIfInBounds_toArray, List.set_cons_zero, List.set_cons_succ]
          refine wpAnyH_take (i := 13) (oi := ?oivc13) (v := undef) ?hivc13 (by kernel_rfl) (by kernel_rfl) (by kernel_rfl) ?hqvc13 ?hyvc13 hHeld ?hrvc13
          case hivc13 =>
            simp only [List.getElem?_toArray, List.getElem?_cons_succ, List.getElem?_cons_zero]
            rfl
          case hqvc13 => exact fun _ _ _ h => h
          case hyvc13 => exact Or.inr ⟨by kernel_rfl, rfl⟩
          try simp only [Act.put, List.setIfInBounds_toArray, List.set_cons_zero, List.set_cons_succ]
          refine wpAnyH_take (i := 14) (oi := ?oivc14) (v := undef) ?hivc14 (by kernel_rfl) (by kernel_rfl) (by kernel_rfl) ?hqvc14 ?hyvc14 hHeld ?hrvc14
          case hivc14 =>
            simp only [List.getElem?_toArray, List.getElem?_cons_succ, List.getElem?_cons_zero]
            rfl
          case hqvc14 => exact fun _ _ _ h => h
          case hyvc14 => exact Or.inr ⟨by kernel_rfl, rfl⟩
          try simp only [Act.put, List.setIfInBounds_toArray, List.set_cons_zero, List.set_cons_succ]
          refine wpAnyH_take (i := 15) (oi := ?oivc15) (v := .bool false) ?hivc15 (by kernel_rfl) (by kernel_rfl) (by kernel_rfl) ?hqvc15 ?hyvc15 hHeld ?hrvc15
          case hivc15 =>
            simp only [List.getElem?_toArray, List.getElem?_cons_succ, List.getElem?_cons_zero]
            rfl
          case hqvc15 => exact fun _ _ _ h => h
          case hyvc15 => exact Or.inl ⟨by kernel_rfl, fun w hSw => by go_simp⟩
          try simp only [Act.put, List.setIfInBounds_toArray, List.set_cons_zero, List.set_cons_succ]
          refine wpAnyH_done (by kernel_rfl) ?_ _
          have HBN : Hid (Below w2.heap.size w2 wr.drew) := HBL2.out.drew
          generalize wr.drew = w5 at *
          go_wp2
          go_roundw
          case rel => exact ⟨t + 1, by omega, by go_num, HBN.out, HNX.out⟩
          case measure => simp [intOf]; omega
      · have htm : t = p.length := by omega
        have HJ : Hid (jumpTo p (j : Int) = false) := by
          have h9 := HNO.out
          rw [htm, List.take_length] at h9
          exact h9
        have hA := HAA.out
        rw [HJ.out] at hA
        simp only [Bool.not_false, if_true] at hA
        subst hA
        clear HAA
        obtain ⟨⟨y0, y1, y2, y3, y4, y5⟩, hbl⟩ := HEND.out wr (2) ((i : Int)) ((j : Int)) (tk) (tx) (ty) HUR.out
        obtain ⟨⟨z0, z1, z2, z3, z4, z5⟩, fz⟩ := six_cells (HUR.out).r
        have g0 := fz 0
        have gg1 := fz 1
        have gg2 := fz 2
        have gg3 := fz 3
        have gg4 := fz 4
        have gg5 := fz 5
        have HBL : Hid _ := hbl.drew
        clear hbl fz
        go_wp2_with fail
        refine wp_region_late (S := fun w' => w'.cell? ⟨w.heap.size, 0, none⟩ = some (.slice (some ⟨g, off, none⟩) ps.length vcap) ∧ w'.cell? ⟨w.heap.size + 1, 1, none⟩ = some (.int .i64 (i : Int)) ∧ w'.cell? ⟨w.heap.size + 1, 2, none⟩ = some (.int .i64 (j : Int)) ∧ w'.cell? ⟨g, off + i, none⟩ = some (.slice (some ⟨g1, off1, none⟩) p.length c1) ∧ w'.cell? ⟨g1, off1 + j * 3, none⟩ = some (.int .i64 tk) ∧ w'.cell? ⟨g1, off1 + j * 3 + 1, none⟩ = some (.int .i64 tx) ∧ w'.cell? ⟨g1, off1 + j * 3 + 2, none⟩ = some (.int .i64 ty)) (late := fun j => j == 10 || j == 11) (by kernel_rfl) ⟨c0, q1, q2, cx, t0, t1, t2⟩ (fun hHeld => ?_)
        refine wpAnyG_take (i := 0) (oi := ?oiu180) (v := .pointer (some ⟨w.heap.size + 1, 1, none⟩)) ?hiu180 (by kernel_rfl) (by kernel_rfl) (by kernel_rfl) (by kernel_rfl) ?hqu180 ?hyu180 hHeld ?hru180
        case hiu180 =>
          simp only [List.getElem?_toArray, List.getElem?_cons_succ, List.getElem?_cons_zero]
          rfl
        case hqu180 => exact fun _ _ _ h => h
        case hyu180 => exact Or.inl ⟨by kernel_rfl, fun w hSw => by go_simp⟩
        try simp only [Act.put, List.setIfInBounds_toArray, List.set_cons_zero, List.set_cons_succ]
        refine wpAnyG_take (i := 1) (oi := ?oiu181) (v := .int .i64 (i : Int)) ?hiu181 (by kernel_rfl) (by kernel_rfl) (by kernel_rfl) (by kernel_rfl) ?hqu181 ?hyu181 hHeld ?hru181
        case hiu181 =>
          simp only [List.getElem?_toArray, List.getElem?_cons_succ, List.getElem?_cons_zero]
          rfl
        case hqu181 => exact fun _ _ _ h => h
        case hyu181 => exact Or.inl ⟨by kernel_rfl, fun w hSw => by obtain ⟨s1, s2, s3, s4, s5, s6, s7⟩ := hSw; go_simp⟩
        try simp only [Act.put, List.setIfInBounds_toArray, List.set_cons_zero, List.set_cons_succ]
        refine wpAnyG_take (i := 2) (oi := ?oiu182) (v := .pointer (some ⟨w.heap.size + 1, 2, none⟩)) ?hiu182 (by kernel_rfl) (by kernel_rfl) (by kernel_rfl) (by kernel_rfl) ?hqu182 ?hyu182 hHeld ?hru182
        case hiu182 =>
          simp only [List.getElem?_toArray, List.getElem?_cons_succ, List.getElem?_cons_zero]
          rfl
        case hqu182 => exact fun _ _ _ h => h
        case hyu182 => exact Or.inl ⟨by kernel_rfl, fun w hSw => by go_simp⟩
        try simp only [Act.put, List.setIfInBounds_toArray, List.set_cons_zero, List.set_cons_succ]
        refine wpAnyG_take (i := 3) (oi := ?oiu183) (v := .int .i64 (j : Int)) ?hiu183 (by kernel_rfl) (by kernel_rfl) (by kernel_rfl) (by kernel_rfl) ?hqu183 ?hyu183 hHeld ?hru183
        case hiu183 =>
          simp only [List.getElem?_toArray, List.getElem?_cons_succ, List.getElem?_cons_zero]
          rfl
        case hqu183 => exact fun _ _ _ h => h
        case hyu183 => exact Or.inl ⟨by kernel_rfl, fun w hSw => by obtain ⟨s1, s2, s3, s4, s5, s6, s7⟩ := hSw; go_simp⟩
        try simp only [Act.put, List.setIfInBounds_toArray, List.set_cons_zero, List.set_cons_succ]
        refine wpAnyG_take (i := 4) (oi := ?oiu184) (v := .slice (some ⟨g1, off1, none⟩) p.length c1) ?hiu184 (by kernel_rfl) (by kernel_rfl) (by kernel_rfl) (by kernel_rfl) ?hqu184 ?hyu184 hHeld ?hru184
        case hiu184 =>
          simp only [List.getElem?_toArray, List.getElem?_cons_succ, List.getElem?_cons_zero]
          rfl
        case hqu184 => exact fun _ _ _ h => h
        case hyu184 => exact Or.inl ⟨by kernel_rfl, fun w hSw => by go_simp⟩
        try simp only [Act.put, List.setIfInBounds_toArray, List.set_cons_zero, List.set_cons_succ]
        refine wpAnyG_take (i := 5) (oi := ?oiu185) (v := .pointer (some ⟨w.heap.size + 1, 2, none⟩)) ?hiu185 (by kernel_rfl) (by kernel_rfl) (by kernel_rfl) (by kernel_rfl) ?hqu185 ?hyu185 hHeld ?hru185
        case hiu185 =>
          simp only [List.getElem?_toArray, List.getElem?_cons_succ, List.getElem?_cons_zero]
          rfl
        case hqu185 => exact fun _ _ _ h => h
        case hyu185 => exact Or.inl ⟨by kernel_rfl, fun w hSw => by go_simp⟩
        try simp only [Act.put, List.setIfInBounds_toArray, List.set_cons_zero, List.set_cons_succ]
        refine wpAnyG_take (i := 6) (oi := ?oiu186) (v := .int .i64 (j : Int)) ?hiu186 (by kernel_rfl) (by kernel_rfl) (by kernel_rfl) (by kernel_rfl) ?hqu186 ?hyu186 hHeld ?hru186
        case hiu186 =>
          simp only [List.getElem?_toArray, List.getElem?_cons_succ, List.getElem?_cons_zero]
          rfl
        case hqu186 => exact fun _ _ _ h => h
        case hyu186 => exact Or.inl ⟨by kernel_rfl, fun w hSw => by obtain ⟨s1, s2, s3, s4, s5, s6, s7⟩ := hSw; go_simp⟩
        try simp only [Act.put, List.setIfInBounds_toArray, List.set_cons_zero, List.set_cons_succ]
        refine wpAnyG_take (i := 7) (oi := ?oiu187) (v := .pointer (some ⟨g1, off1 + j * 3, none⟩)) ?hiu187 (by kernel_rfl) (by kernel_rfl) (by kernel_rfl) (by kernel_rfl) ?hqu187 ?hyu187 hHeld ?hru187
        case hiu187 =>
          simp only [List.getElem?_toArray, List.getElem?_cons_succ, List.getElem?_cons_zero]
          rfl
        case hqu187 => exact fun _ _ _ h => h
        case hyu187 => exact Or.inl ⟨by kernel_rfl, fun w hSw => by go_simp⟩
        try simp only [Act.put, List.setIfInBounds_toArray, List.set_cons_zero, List.set_cons_succ]
        refine wpAnyG_take (i := 8) (oi := ?oiu188) (v := .agg #[.int .i64 tk, .int .i64 tx, .int .i64 ty]) ?hiu188 (by kernel_rfl) (by kernel_rfl) (by kernel_rfl) (by kernel_rfl) ?hqu188 ?hyu188 hHeld ?hru188
        case hiu188 =>
          simp only [List.getElem?_toArray, List.getElem?_cons_succ, List.getElem?_cons_zero]
          rfl
        case hqu188 => exact fun _ _ _ h => h
        case hyu188 => exact Or.inl ⟨by kernel_rfl, fun w hSw => by obtain ⟨s1, s2, s3, s4, s5, s6, s7⟩ := hSw; go_simp⟩
        try simp only [Act.put, List.setIfInBounds_toArray, List.set_cons_zero, List.set_cons_succ]
        refine wpAnyG_take (i := 9) (oi := ?oiu189) (v := .agg #[.int .i64 2, .int .i64 (i : Int), .int .i64 (j : Int), .int .i64 tk, .int .i64 tx, .int .i64 ty]) ?hiu189 (by kernel_rfl) (by kernel_rfl) (by kernel_rfl) (by kernel_rfl) ?hqu189 ?hyu189 hHeld ?hru189
        case hiu189 =>
          simp only [List.getElem?_toArray, List.getElem?_cons_succ, List.getElem?_cons_zero]
          rfl
        case hqu189 => exact fun _ _ _ h => h
        case hyu189 => exact Or.inl ⟨by kernel_rfl, fun w hSw => by go_simp⟩
        try simp only [Act.put, List.setIfInBounds_toArray, List.set_cons_zero, List.set_cons_succ]
        refine wpAnyG_ready (rs := [10]) (by kernel_rfl) (by simp) ?_
        refine (AllReadyG.cons (o := ?oou1810) ?hou1810 (fun K hK => ?hku1810) AllReadyG.nil)
        case hou1810 =>
          simp only [List.getElem?_toArray, List.getElem?_cons_succ, List.getElem?_cons_zero]
          rfl
        case hku1810 =>
          go_simp
          try go_wp2_with fail
          refine hK.out _ _ (Or.inl rfl) (fun _ => ?_)
          clear hK K
          try simp only [Act.put, List.setIfInBounds_toArray, List.set_cons_zero, List.set_cons_succ]
          refine wpAnyG_ready (rs := [11]) (by kernel_rfl) (by simp) ?_
          refine (AllReadyG.cons (o := ?oou1811) ?hou1811 (fun K hK => ?hku1811) AllReadyG.nil)
          case hou1811 =>
            simp only [List.getElem?_toArray, List.getElem?_cons_succ, List.getElem?_cons_zero]
            rfl
          case hku1811 =>
            go_simp
            try go_wp2_with fail
            refine hK.out _ _ (Or.inl rfl) (fun _ => ?_)
            clear hK K
            try simp only [Act.put, List.setIfInBounds_toArray, List.set_cons_zero, List.set_cons_succ]
            refine wpAnyG_done (by kernel_rfl) ?_ _
            go_wp2
            refine bodyPost_ret (v := .tuple #[.agg #[.int .i64 2, .int .i64 (i : Int), .int .i64 (j : Int), .int .i64 tk, .int .i64 tx, .int .i64 ty], .bool true]) (by simp [results, Try.results29, go_sem, y0, y1, y2, y3, y4, y5]) rfl ?_
            exact ⟨by first | rfl | (simp [zeroE]), HBL.out⟩
  · have hA := HA.out
    simp only [Int.reduceEq, if_false] at hA
    subst hA
    obtain ⟨⟨y0, y1, y2, y3, y4, y5⟩, hbl⟩ := HEND.out w2 (0) (0) (0) (0) (0) (0) HU2.out
    obtain ⟨⟨z0, z1, z2, z3, z4, z5⟩, fz⟩ := six_cells (HU2.out).r
    have g0 := fz 0
    have g1 := fz 1
    have g2 := fz 2
    have g3 := fz 3
    have g4 := fz 4
    have g5 := fz 5
    have HBL : Hid _ := hbl
    clear hbl fz
    go_wp2
    refine bodyPost_ret (v := .tuple #[.agg #[.int .i64 0, .int .i64 0, .int .i64 0, .int .i64 0, .int .i64 0, .int .i64 0], .bool false]) (by simp [results, Try.results29, go_sem, y0, y1, y2, y3, y4, y5]) rfl ?_
    exact ⟨by first | rfl | (simp [zeroE]), HBL.out⟩

end Go.Proofs.Ytoflfeegllpifaa
