/-
  impl.Undone, spec.Undone.
-/
import Derived.Test.YtoflfeegllpifaaUndM
namespace Go.Proofs.Ytoflfeegllpifaa
open Go.RowKit
set_option linter.unusedVariables false
set_option linter.unusedSimpArgs false
set_option maxHeartbeats 8000000
set_option maxRecDepth 20000

/-- What Undone answers; none: false. -/
def undone13 (ps : List (List Stm)) (e : Edt) : Option Edt :=
  if (edited13 ps e.k e.pr e.a e.s).isSome then
    (if e.k = 1 then some ⟨1, e.pr, e.a, (ps.getD e.pr.toNat []).getD e.a.toNat ⟨0, 0, 0⟩⟩
     else if e.k = 2 then some ⟨3, e.pr, e.a, ⟨0, 0, 0⟩⟩
     else if e.k = 3 then (if decide (e.a < ((ps.getD e.pr.toNat []).length : Int) - 1) && !jumpTo (ps.getD e.pr.toNat []) e.a then some ⟨2, e.pr, e.a, (ps.getD e.pr.toNat []).getD e.a.toNat ⟨0, 0, 0⟩⟩ else none)
     else none)
  else none

def zeroE : Edt := ⟨0, 0, 0, ⟨0, 0, 0⟩⟩

theorem edited13_place {ps : List (List Stm)} {k pr a : Int} {s : Stm} (h : (edited13 ps k pr a s).isSome = true) : programOk ps = true ∧ (k = 1 ∨ k = 2 ∨ k = 3 ∨ k = 4) ∧ ∃ (i j : Nat) (hi : i < ps.length), pr = i ∧ a = j ∧ j < ps[i].length := by
  unfold edited13 at h
  by_cases h1 : programOk ps = true
  · rw [if_pos h1] at h
    refine ⟨h1, ?_⟩
    obtain ⟨hl1, hl4, hpo⟩ := progs13 h1
    cases hm : made13 ps k pr a s with
    | none => rw [hm] at h; cases h
    | some qs =>
      unfold made13 at hm
      by_cases h4 : k = 4
      · rw [if_pos h4] at hm
        split at hm
        · rename_i hz
          obtain ⟨rfl, rfl, _⟩ := hz
          exact ⟨.inr (.inr (.inr h4)), 0, 0, by omega, rfl, rfl, (procs13 (hpo ps[0] (List.getElem_mem (by omega)))).1⟩
        · cases hm
      · rw [if_neg h4] at hm
        by_cases hp : (wiB pr ps.length && wiB a (ps.getD pr.toNat []).length) = true
        · rw [if_pos hp] at hm
          simp only [Bool.and_eq_true] at hp
          obtain ⟨y0, y1⟩ := wiB_true hp.1
          obtain ⟨y2, y3⟩ := wiB_true hp.2
          have hi : pr.toNat < ps.length := by omega
          have hgd : ps.getD pr.toNat [] = ps[pr.toNat] := by simp [List.getD, hi]
          rw [hgd] at y3
          refine ⟨?_, pr.toNat, a.toNat, hi, by omega, by omega, by omega⟩
          by_cases e1 : k = 1
          · exact .inl e1
          · by_cases e2 : k = 2
            · exact .inr (.inl e2)
            · by_cases e3 : k = 3
              · exact .inr (.inr (.inl e3))
              · simp [e1, e2, e3] at hm
        · rw [if_neg hp] at hm
          cases hm
  · rw [if_neg h1] at h
    cases h

theorem six_set {w : World} {b : Nat} {T : TypeId} {x0 x1 x2 x3 x4 x5 : Value} (y0 y1 y2 y3 y4 y5 : Value) (h : w.heap[b]? = some (.cells #[x0, x1, x2, x3, x4, x5] T (0, 0))) :
    ((((((w.setCell ⟨b, 0, none⟩ y0).setCell ⟨b, 1, none⟩ y1).setCell ⟨b, 2, none⟩ y2).setCell ⟨b, 3, none⟩ y3).setCell ⟨b, 4, none⟩ y4).setCell ⟨b, 5, none⟩ y5).heap[b]? = some (.cells #[y0, y1, y2, y3, y4, y5] T (0, 0)) := by
  have h0 := heap_setCell_same w b 0 _ _ y0 h
  have h1 := heap_setCell_same _ b 1 _ _ y1 h0
  have h2 := heap_setCell_same _ b 2 _ _ y2 h1
  have h3 := heap_setCell_same _ b 3 _ _ y3 h2
  have h4 := heap_setCell_same _ b 4 _ _ y4 h3
  have h5 := heap_setCell_same _ b 5 _ _ y5 h4
  rw [h5]
  simp

theorem below_six {B b : Nat} {w0 w : World} (h : Below B w0 w) (hB : B ≤ b) (y0 y1 y2 y3 y4 y5 : Value) : Below B w0 ((((((w.setCell ⟨b, 0, none⟩ y0).setCell ⟨b, 1, none⟩ y1).setCell ⟨b, 2, none⟩ y2).setCell ⟨b, 3, none⟩ y3).setCell ⟨b, 4, none⟩ y4).setCell ⟨b, 5, none⟩ y5) :=
  (((((h.setCell hB _).setCell hB _).setCell hB _).setCell hB _).setCell hB _).setCell hB _

/-- What Undone has in hand. -/
structure UN (w : World) (ao : Option Addr) (n vcap : Nat) (k pr a sk sx sy : Int) (W : World) : Prop where
  p : W.heap[w.heap.size]? = some (.cells #[.slice ao n vcap] 26 (0, 0))
  e : W.heap[w.heap.size + 1]? = some (.cells #[.int .i64 k, .int .i64 pr, .int .i64 a, .int .i64 sk, .int .i64 sx, .int .i64 sy] 47 (0, 0))
  r : W.heap[w.heap.size + 1 + 1]? = some (.cells #[.int .i64 0, .int .i64 0, .int .i64 0, .int .i64 0, .int .i64 0, .int .i64 0] 47 (0, 0))
  below : Below w.heap.size w W
  size : w.heap.size + 3 ≤ W.heap.size

theorem UN.kept {w : World} {ao : Option Addr} {n vcap : Nat} {k pr a sk sx sy : Int} {W W' : World} {B : Nat} (h : UN w ao n vcap k pr a sk sx sy W) (hb : Below B W W') (hB : w.heap.size + 3 ≤ B) : UN w ao n vcap k pr a sk sx sy W' :=
  ⟨(hb.block _ (by omega)).trans h.p, (hb.block _ (by omega)).trans h.e, (hb.block _ (by omega)).trans h.r, h.below.trans (hb.mono (by omega)), Nat.le_trans h.size hb.size⟩

theorem implUndone (ps : List (List Stm)) (e : Edt) (v : Value) (w : World) (hl : ps.length ≤ maxLen) (hp : ∀ p ∈ ps, p.length ≤ maxLen) (hv : ReadsP w v ps) :
    Calls Try.prog 26 #[.agg #[v], edV e] w fun r w' => r = .returned (.tuple #[edV ((undone13 ps e).getD zeroE), .bool (undone13 ps e).isSome]) ∧ Below w.heap.size w w' := by
  have hed := fun u W => implEdited ps e u W hl hp
  obtain ⟨A, hA⟩ : ∃ A, undone13 ps e = A := ⟨_, rfl⟩
  rw [hA]
  unfold undone13 at hA
  have hpl := @edited13_place ps e.k e.pr e.a e.s
  obtain ⟨bb, hbb⟩ : ∃ bb, (edited13 ps e.k e.pr e.a e.s).isSome = bb := ⟨_, rfl⟩
  rw [hbb] at hA hpl hed
  obtain ⟨k, pr, a, ⟨sk, sx, sy⟩⟩ := e
  unfold edV at *
  simp only at hA hpl hed ⊢
  clear hbb
  obtain ⟨ao, vcap, rfl, hcv⟩ := id hv
  obtain ⟨W0, hW0⟩ : ∃ W0, ((w.alloc (.cells #[.slice ao ps.length vcap] 26)).alloc (.cells #[.int .i64 k, .int .i64 pr, .int .i64 a, .int .i64 sk, .int .i64 sx, .int .i64 sy] 47)).alloc (.cells #[.int .i64 0, .int .i64 0, .int .i64 0, .int .i64 0, .int .i64 0, .int .i64 0] 47) = W0 := ⟨_, rfl⟩
  have U0 : UN w ao ps.length vcap k pr a sk sx sy W0 := by
    rw [← hW0]
    refine ⟨?_, ?_, ?_, by go_grown, by simp⟩
    · rw [old_block (by simp; omega), old_block (by simp)]; exact heap_alloc_new w _
    · rw [old_block (by simp)]
      have := heap_alloc_new (w.alloc (.cells #[.slice ao ps.length vcap] 26)) (.cells #[.int .i64 k, .int .i64 pr, .int .i64 a, .int .i64 sk, .int .i64 sx, .int .i64 sy] 47)
      simpa using this
    · have := heap_alloc_new ((w.alloc (.cells #[.slice ao ps.length vcap] 26)).alloc (.cells #[.int .i64 k, .int .i64 pr, .int .i64 a, .int .i64 sk, .int .i64 sx, .int .i64 sy] 47)) (.cells #[.int .i64 0, .int .i64 0, .int .i64 0, .int .i64 0, .int .i64 0, .int .i64 0] 47)
      simpa using this
  obtain ⟨c0, -⟩ := one_cell U0.p
  obtain ⟨⟨q0, q1, q2, q3, q4, q5⟩, -⟩ := six_cells U0.e
  have hed0 := hed (.slice ao ps.length vcap) W0 (readsP_below hv U0.below)
  clear hed
  go_enter Try.func26, Try.ntmps26
  go_wp2_with fail
  go_at_call 25
  refine hed0.mono ?_
  rintro r w1 ⟨u, us, rfl, ou, b1⟩
  obtain ⟨ua, um, uc, hu⟩ := own_slice ou.row
  subst hu
  have U1 := U0.kept b1 U0.size
  have U2 := U1.kept (Below.alloc (Below.refl _ w1) (Nat.le_refl _) (.cells #[.slice ua um uc] 26)) U1.size
  clear c0 q0 q1 q2 q3 q4 q5 hed0 hW0 ou
  obtain ⟨w2, hw2⟩ : ∃ w2, w1.alloc (.cells #[.slice ua um uc] 26) = w2 := ⟨_, rfl⟩
  rw [hw2] at U2
  have HU2 : Hid (UN w ao ps.length vcap k pr a sk sx sy w2) := U2
  have HB1 : Hid _ := b1
  clear b1
  have hend : ∀ (W : World) (y0 y1 y2 y3 y4 y5 : Int), UN w ao ps.length vcap k pr a sk sx sy W → _ := fun W y0 y1 y2 y3 y4 y5 h => And.intro (six_cells (six_set (.int .i64 y0) (.int .i64 y1) (.int .i64 y2) (.int .i64 y3) (.int .i64 y4) (.int .i64 y5) h.r)).1 (below_six h.below (by omega : w.heap.size ≤ w.heap.size + 1 + 1) (.int .i64 y0) (.int .i64 y1) (.int .i64 y2) (.int .i64 y3) (.int .i64 y4) (.int .i64 y5))
  have HEND : Hid _ := hend
  clear hend U0 U1 U2
  cases bb
  · simp only [Bool.false_eq_true, if_false] at hA
    subst hA
    obtain ⟨⟨y0, y1, y2, y3, y4, y5⟩, hbl⟩ := HEND.out _ (0) (0) (0) (0) (0) (0) HU2.out
    obtain ⟨⟨z0, z1, z2, z3, z4, z5⟩, fz⟩ := six_cells (HU2.out).r
    have g0 := fz 0
    have g1 := fz 1
    have g2 := fz 2
    have g3 := fz 3
    have g4 := fz 4
    have g5 := fz 5
    have HBL : Hid _ := hbl
    clear hbl fz
    go_wp2
    refine bodyPost_ret (v := .tuple #[.agg #[.int .i64 0, .int .i64 0, .int .i64 0, .int .i64 0, .int .i64 0, .int .i64 0], .bool false]) (by simp [results, Try.results26, go_sem, y0, y1, y2, y3, y4, y5]) rfl ?_
    exact ⟨by first | rfl | (simp [zeroE]), HBL.out⟩
  obtain ⟨hok, hk, i, j, hi, rfl, rfl, hj⟩ := hpl rfl
  obtain ⟨hl1, hl4, hpo⟩ := progs13 hok
  have hpi := hpo ps[i] (List.getElem_mem hi)
  obtain ⟨hq0, hq1, _⟩ := procs13 hpi
  have hgd : ps.getD i [] = ps[i] := by simp [List.getD, hi]
  have hgs : ps[i].getD j ⟨0, 0, 0⟩ = ps[i][j] := by simp [List.getD, hj]
  simp only [if_true, Int.toNat_natCast, hgd, hgs] at hA
  obtain ⟨g, off, x, rfl, cx, rx⟩ := hcv i ps[i] (by simp)
  obtain ⟨g1, off1, c1, rfl⟩ := reads3_form hq0 rx
  obtain ⟨ao1, cap1, ex, hcs⟩ := id rx
  obtain ⟨g2, off2, e2, t0, t1, t2⟩ := hcs j ps[i][j] (by simp)
  subst e2
  injection ex with ex1 _ ex4
  subst ex4
  injection ex1 with ex1
  injection ex1 with ex1 ex2
  subst ex1 ex2
  have zg := World.block_lt_of_cell? w _ cx
  have zh := World.block_lt_of_cell? w _ t0
  have hbw := HU2.out.below
  have cx := (hbw.cell zg).trans cx
  have t0 := (hbw.cell (p := ⟨g1, off1 + j * 3, none⟩) zh).trans t0
  have t1 := (hbw.cell (p := ⟨g1, off1 + j * 3 + 1, none⟩) zh).trans t1
  have t2 := (hbw.cell (p := ⟨g1, off1 + j * 3 + 2, none⟩) zh).trans t2
  have hiI : (i : Int) < (ps.length : Int) := by omega
  have hjI : (j : Int) < (ps[i].length : Int) := by omega
  have HCB : Hid _ := fun W hW => comesBack ps[i] (j : Int) (.slice (some ⟨g1, off1, none⟩) ps[i].length c1) W hpi (reads3_below rx hW)
  obtain ⟨c0, -⟩ := one_cell HU2.out.p
  obtain ⟨⟨q0, q1, q2, q3, q4, q5⟩, -⟩ := six_cells HU2.out.e
  have hmx : (ps[i].length : Int) ≤ 100 := by omega
  have HA : Hid _ := hA
  clear hcv hcs rx hpo hgd hgs hA hpl hpi
  generalize ps[i][j] = st at *
  obtain ⟨tk, tx, ty⟩ := st
  simp only at t0 t1 t2
  have HJT : Hid (∃ jt : Bool, (decide ((j : Int) < (ps[i].length : Int) - 1) && !jumpTo ps[i] j) = jt) := ⟨_, rfl⟩
  obtain ⟨jt, hjt⟩ := HJT.out
  rw [hjt] at HA HCB
  clear HJT hjt
  generalize ps[i].length = m at *
  have U3 := HU2.out.kept (Below.alloc (Below.refl _ w2) (Nat.le_refl _) (.cells #[.int .i64 tk, .int .i64 tx, .int .i64 ty] 37)) HU2.out.size
  have S3 := heap_alloc_new w2 (.cells #[.int .i64 tk, .int .i64 tx, .int .i64 ty] 37)
  have Z3 : w2.heap.size < (w2.alloc (.cells #[.int .i64 tk, .int .i64 tx, .int .i64 ty] 37)).heap.size := by simp
  obtain ⟨w3, hw3⟩ : ∃ w3, w2.alloc (.cells #[.int .i64 tk, .int .i64 tx, .int .i64 ty] 37) = w3 := ⟨_, rfl⟩
  rw [hw3] at U3 S3 Z3
  have HU3 : Hid (UN w (some ⟨g, off, none⟩) ps.length vcap k i j sk sx sy w3) := U3
  have HS3 : Hid (w3.heap[w2.heap.size]? = some (.cells #[.int .i64 tk, .int .i64 tx, .int .i64 ty] 37 (0, 0))) := S3
  have v0 : w3.cell? ⟨w2.heap.size, 0, none⟩ = some (.int .i64 tk) := by simp [World.cell?, S3]
  have v1 : w3.cell? ⟨w2.heap.size, 1, none⟩ = some (.int .i64 tx) := by simp [World.cell?, S3]
  have v2 : w3.cell? ⟨w2.heap.size, 2, none⟩ = some (.int .i64 ty) := by simp [World.cell?, S3]
  obtain ⟨⟨o0, o1, o2, o3, o4, o5⟩, -⟩ := six_cells U3.e
  clear U3 hbw S3
  rcases hk with rfl | rfl | rfl | rfl
  · have hA := HA.out
    simp only [if_true] at hA
    subst hA
    obtain ⟨⟨y0, y1, y2, y3, y4, y5⟩, hbl⟩ := HEND.out _ (1) ((i : Int)) ((j : Int)) (tk) (tx) (ty) HU3.out
    obtain ⟨⟨z0, z1, z2, z3, z4, z5⟩, fz⟩ := six_cells (HU3.out).r
    have g0 := fz 0
    have g1 := fz 1
    have g2 := fz 2
    have g3 := fz 3
    have g4 := fz 4
    have g5 := fz 5
    have HBL : Hid _ := hbl
    clear hbl fz
    go_wp2
    refine bodyPost_ret (v := .tuple #[.agg #[.int .i64 1, .int .i64 (i : Int), .int .i64 (j : Int), .int .i64 tk, .int .i64 tx, .int .i64 ty], .bool true]) (by simp [results, Try.results26, go_sem, y0, y1, y2, y3, y4, y5]) rfl ?_
    exact ⟨by first | rfl | (simp [zeroE]), HBL.out⟩
  · have hA := HA.out
    simp only [Int.reduceEq, if_false, if_true] at hA
    subst hA
    obtain ⟨⟨y0, y1, y2, y3, y4, y5⟩, hbl⟩ := HEND.out _ (3) ((i : Int)) ((j : Int)) (0) (0) (0) HU3.out
    obtain ⟨⟨z0, z1, z2, z3, z4, z5⟩, fz⟩ := six_cells (HU3.out).r
    have g0 := fz 0
    have g1 := fz 1
    have g2 := fz 2
    have g3 := fz 3
    have g4 := fz 4
    have g5 := fz 5
    have HBL : Hid _ := hbl
    clear hbl fz
    go_wp2
    refine bodyPost_ret (v := .tuple #[.agg #[.int .i64 3, .int .i64 (i : Int), .int .i64 (j : Int), .int .i64 0, .int .i64 0, .int .i64 0], .bool true]) (by simp [results, Try.results26, go_sem, y0, y1, y2, y3, y4, y5]) rfl ?_
    exact ⟨by first | rfl | (simp [zeroE]), HBL.out⟩
  · have hA := HA.out
    simp only [Int.reduceEq, if_false, if_true] at hA
    go_wp2_with fail
    go_at_call 47
    refine (HCB.out _ HU3.out.below).mono ?_
    rintro r w4 ⟨rfl, b4⟩
    have HU4 : Hid (UN w (some ⟨g, off, none⟩) ps.length vcap 3 i j sk sx sy w4) := HU3.out.kept b4 HU3.out.size
    have HS4 := (b4.block _ Z3).trans HS3.out
    clear v0 v1 v2 o0 o1 o2 o3 o4 o5
    have v0 : w4.cell? ⟨w2.heap.size, 0, none⟩ = some (.int .i64 tk) := by simp [World.cell?, HS4]
    have v1 : w4.cell? ⟨w2.heap.size, 1, none⟩ = some (.int .i64 tx) := by simp [World.cell?, HS4]
    have v2 : w4.cell? ⟨w2.heap.size, 2, none⟩ = some (.int .i64 ty) := by simp [World.cell?, HS4]
    clear c0 q0 q1 q2 q3 q4 q5 HS4 b4
    obtain ⟨⟨q0, q1, q2, q3, q4, q5⟩, -⟩ := six_cells HU4.out.e
    cases jt
    · simp only [Bool.false_eq_true, if_false] at hA
      subst hA
      obtain ⟨⟨y0, y1, y2, y3, y4, y5⟩, hbl⟩ := HEND.out w4 (0) (0) (0) (0) (0) (0) HU4.out
      obtain ⟨⟨z0, z1, z2, z3, z4, z5⟩, fz⟩ := six_cells (HU4.out).r
      have g0 := fz 0
      have g1 := fz 1
      have g2 := fz 2
      have g3 := fz 3
      have g4 := fz 4
      have g5 := fz 5
      have HBL : Hid _ := hbl
      clear hbl fz
      go_wp2
      refine bodyPost_ret (v := .tuple #[.agg #[.int .i64 0, .int .i64 0, .int .i64 0, .int .i64 0, .int .i64 0, .int .i64 0], .bool false]) (by simp [results, Try.results26, go_sem, y0, y1, y2, y3, y4, y5]) rfl ?_
      exact ⟨by first | rfl | (simp [zeroE]), HBL.out⟩
    · simp only [if_true] at hA
      subst hA
      obtain ⟨⟨y0, y1, y2, y3, y4, y5⟩, hbl⟩ := HEND.out w4 (2) ((i : Int)) ((j : Int)) (tk) (tx) (ty) HU4.out
      obtain ⟨⟨z0, z1, z2, z3, z4, z5⟩, fz⟩ := six_cells (HU4.out).r
      have g0 := fz 0
      have g1 := fz 1
      have g2 := fz 2
      have g3 := fz 3
      have g4 := fz 4
      have g5 := fz 5
      have HBL : Hid _ := hbl
      clear hbl fz
      go_wp2
      refine bodyPost_ret (v := .tuple #[.agg #[.int .i64 2, .int .i64 (i : Int), .int .i64 (j : Int), .int .i64 tk, .int .i64 tx, .int .i64 ty], .bool true]) (by simp [results, Try.results26, go_sem, y0, y1, y2, y3, y4, y5]) rfl ?_
      exact ⟨by first | rfl | (simp [zeroE]), HBL.out⟩
  · have hA := HA.out
    simp only [Int.reduceEq, if_false] at hA
    subst hA
    obtain ⟨⟨y0, y1, y2, y3, y4, y5⟩, hbl⟩ := HEND.out _ (0) (0) (0) (0) (0) (0) HU3.out
    obtain ⟨⟨z0, z1, z2, z3, z4, z5⟩, fz⟩ := six_cells (HU3.out).r
    have g0 := fz 0
    have g1 := fz 1
    have g2 := fz 2
    have g3 := fz 3
    have g4 := fz 4
    have g5 := fz 5
    have HBL : Hid _ := hbl
    clear hbl fz
    go_wp2
    refine bodyPost_ret (v := .tuple #[.agg #[.int .i64 0, .int .i64 0, .int .i64 0, .int .i64 0, .int .i64 0, .int .i64 0], .bool false]) (by simp [results, Try.results26, go_sem, y0, y1, y2, y3, y4, y5]) rfl ?_
    exact ⟨by first | rfl | (simp [zeroE]), HBL.out⟩

end Go.Proofs.Ytoflfeegllpifaa
