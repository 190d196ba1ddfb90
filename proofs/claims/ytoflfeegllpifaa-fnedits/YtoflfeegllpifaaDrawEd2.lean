/-
  spec.DrawEdited.
-/
import Derived.Test.YtoflfeegllpifaaDrawEd
namespace Go.Proofs.Ytoflfeegllpifaa
open Go.RowKit
set_option linter.unusedVariables false
set_option linter.unusedSimpArgs false
set_option maxHeartbeats 4000000
set_option maxRecDepth 20000

theorem drawEdited (bs : List Int) (v : Value) (w : World) (hl : bs.length ≤ 1048576) (hv : Reads w v (bs.map (Value.int .u8))) :
    Calls Try.prog 24 #[v] w fun r w' => ∃ (u : Value) (L : List Nat) (e : Edt), r = .returned (.tuple #[.agg #[u], edV e]) ∧ L.length ≤ 5 ∧ (∀ n ∈ L, n ≤ 14) ∧ PrOk w' w.heap.size u L ∧ Below w.heap.size w w' := by
  have hb0 : Below w.heap.size w ((w.alloc (.cells #[.slice none 0 0] 26)).alloc (.cells #[.int .i64 0, .int .i64 0, .int .i64 0, .int .i64 0, .int .i64 0, .int .i64 0] 47)) := by go_grown
  have RA : ((w.alloc (.cells #[.slice none 0 0] 26)).alloc (.cells #[.int .i64 0, .int .i64 0, .int .i64 0, .int .i64 0, .int .i64 0, .int .i64 0] 47)).heap[w.heap.size]? = some (.cells #[.slice none 0 0] 26 (0, 0)) := (old_block (by simp)).trans (heap_alloc_new w _)
  have RE : ((w.alloc (.cells #[.slice none 0 0] 26)).alloc (.cells #[.int .i64 0, .int .i64 0, .int .i64 0, .int .i64 0, .int .i64 0, .int .i64 0] 47)).heap[w.heap.size + 1]? = some (cellsE zeroE) := by
    have h9 := heap_alloc_new (w.alloc (.cells #[.slice none 0 0] 26)) (.cells #[.int .i64 0, .int .i64 0, .int .i64 0, .int .i64 0, .int .i64 0, .int .i64 0] 47)
    have hz : (w.alloc (.cells #[.slice none 0 0] 26)).heap.size = w.heap.size + 1 := by simp
    rw [hz] at h9
    exact h9
  have zA : ((w.alloc (.cells #[.slice none 0 0] 26)).alloc (.cells #[.int .i64 0, .int .i64 0, .int .i64 0, .int .i64 0, .int .i64 0, .int .i64 0] 47)).heap.size = w.heap.size + 2 := by simp
  go_enter Try.func24, Try.ntmps24
  go_wp2_with fail
  go_at_call 30
  refine (l1New bs v _ hl (reads_below hv hb0)).mono ?_
  rintro r w1 ⟨g, rfl, hg, hc1, b1⟩
  rw [zA] at hg
  have R1 := (b1.block _ (by omega)).trans RA
  have E1 := (b1.block _ (by omega)).trans RE
  have L1 : Below w.heap.size w w1 := hb0.trans (b1.mono hb0.size)
  have g1 := curLt hc1
  clear RA RE zA hb0
  go_wp2_with fail
  go_at_call 31
  refine (l3DrawAny g bs w1 hl hc1).mono ?_
  rintro r w2 ⟨u, L, rfl, h5, h14, pr2, hc2, hg2⟩
  have hun : ∃ ua uc, u = .slice ua L.length uc := by
    obtain ⟨ua, uc, e, _⟩ := pr2
    exact ⟨ua, uc, e⟩
  obtain ⟨ua, uc, hu⟩ := hun
  obtain ⟨un, hun⟩ : ∃ un, L.length = un := ⟨_, rfl⟩
  rw [hun] at hu
  subst hu
  have hun5 : un ≤ 100 := by omega
  have s2 := hg2.size
  have R2 := (hg2.block w.heap.size (by omega) (by simp; omega)).trans R1
  have E2 := (hg2.block (w.heap.size + 1) (by omega) (by simp; omega)).trans E1
  have L2 : Below w.heap.size w w2 := L1.grown hg2 L1.size (fun k e => by simp at e; omega)
  have g2 := curLt hc2
  have HR3 : Hid ((w2.alloc (.cells #[.slice ua un uc] 26)).heap[w.heap.size]? = _) := (old_block (by omega)).trans R2
  have HE3 : Hid ((w2.alloc (.cells #[.slice ua un uc] 26)).heap[w.heap.size + 1]? = _) := (old_block (by omega)).trans E2
  have HP3 : Hid (PrOk (w2.alloc (.cells #[.slice ua un uc] 26)) w1.heap.size (.slice ua un uc) L) := pr2.grown (World.grownBy_alloc w2 _ (some g)) (fun k hk => by cases hk; omega)
  have HC3 : Hid (Cur (w2.alloc (.cells #[.slice ua un uc] 26)) g bs) := curAlloc hc2 _
  have HL3 : Hid (Below w.heap.size w (w2.alloc (.cells #[.slice ua un uc] 26))) := L2.alloc L2.size _
  have B3 := heap_alloc_new w2 (.cells #[.slice ua un uc] 26)
  obtain ⟨cP, -⟩ := oneCell B3
  have zP : w2.heap.size < (w2.alloc (.cells #[.slice ua un uc] 26)).heap.size := by simp
  have HWL : Hid (g < w1.heap.size ∧ w.heap.size + 2 ≤ g ∧ w1.heap.size ≤ w2.heap.size) := ⟨g1, hg, s2⟩
  clear R1 R2 E1 E2 L1 L2 hc1 hc2 hg2 pr2 b1 B3
  go_wp2_with fail
  generalize hw3 : w2.alloc (.cells #[.slice ua un uc] 26) = w3 at *
  clear hw3
  refine wp_region_held_drew (S := fun w' => w'.cell? ⟨w2.heap.size, 0, none⟩ = some (.slice ua un uc)) (by kernel_rfl) cP (fun hHeld => ?_)
  refine wpAnyH_take (i := 0) (oi := ?oidd0) (v := .agg #[.slice ua un uc]) ?hidd0 (by kernel_rfl) (by kernel_rfl) (by kernel_rfl) ?hqdd0 ?hydd0 hHeld ?hrdd0
  case hidd0 =>
    simp only [List.getElem?_toArray, List.getElem?_cons_succ, List.getElem?_cons_zero]
    rfl
  case hqdd0 => exact fun _ _ _ h => h
  case hydd0 => exact Or.inl ⟨by kernel_rfl, fun w hSw => by go_simp⟩
  try simp only [Act.put, List.setIfInBounds_toArray, List.set_cons_zero, List.set_cons_succ]
  refine wpAnyH_take (i := 1) (oi := ?oidd1) (v := .pointer (some ⟨g, 0, none⟩)) ?hidd1 (by kernel_rfl) (by kernel_rfl) (by kernel_rfl) ?hqdd1 ?hydd1 hHeld ?hrdd1
  case hidd1 =>
    simp only [List.getElem?_toArray, List.getElem?_cons_succ, List.getElem?_cons_zero]
    rfl
  case hqdd1 => exact fun _ _ _ h => h
  case hydd1 => exact Or.inl ⟨by kernel_rfl, fun w hSw => by go_simp⟩
  try simp only [Act.put, List.setIfInBounds_toArray, List.set_cons_zero, List.set_cons_succ]
  refine wpAnyH_take (i := 2) (oi := ?oidd2) (v := .agg #[.slice ua un uc]) ?hidd2 (by kernel_rfl) (by kernel_rfl) (by kernel_rfl) ?hqdd2 ?hydd2 hHeld ?hrdd2
  case hidd2 =>
    simp only [List.getElem?_toArray, List.getElem?_cons_succ, List.getElem?_cons_zero]
    rfl
  case hqdd2 => exact fun _ _ _ h => h
  case hydd2 => exact Or.inl ⟨by kernel_rfl, fun w hSw => by go_simp⟩
  try simp only [Act.put, List.setIfInBounds_toArray, List.set_cons_zero, List.set_cons_succ]
  refine wpAnyH_ready (rs := [3]) (by kernel_rfl) (by simp) ?_
  refine (AllReadyH.cons (o := ?oodd3) ?hodd3 (fun K hK => ?hkdd3) AllReadyH.nil)
  case hodd3 =>
    simp only [List.getElem?_toArray, List.getElem?_cons_succ, List.getElem?_cons_zero]
    rfl
  case hkdd3 =>
    go_simp
    go_at_call 44
    refine (l13Draw g bs ua un uc _ hun5 hl (cur_below HC3.out (Below.drew (Below.refl _ _)))).mono ?_
    rintro r w4 ⟨e, rfl, hc4, hg4⟩
    obtain ⟨k, pr, a, ⟨sk, sx, sy⟩⟩ := e
    unfold edV
    simp only
    obtain ⟨g1, hg, s2⟩ := HWL.out
    have R4 := (hg4.block w.heap.size (by have := (Array.getElem?_eq_some_iff.1 HR3.out).1; exact this) (by simp; omega)).trans HR3.out
    have E4 := (hg4.block (w.heap.size + 1) (by have := (Array.getElem?_eq_some_iff.1 HE3.out).1; exact this) (by simp; omega)).trans HE3.out
    have c4 := hg4.cell cP (by simp; omega)
    have P4 : Hid (PrOk w4 w1.heap.size (.slice ua un uc) L) := (HP3.out.grown (w' := w3.drew) (row := none) ⟨rfl, rfl, rfl, Nat.le_refl _, fun _ _ _ => rfl⟩ (fun k hk => by cases hk)).grown hg4 (fun k hk => by cases hk; omega)
    have L4 : Hid (Below w.heap.size w w4) := (HL3.out.drew).grown hg4 HL3.out.size (fun k e => by simp at e; omega)
    have E5 : (w4.setCell ⟨w.heap.size, 0, none⟩ (.slice ua un uc)).heap[w.heap.size + 1]? = some (cellsE zeroE) := (Below.heap_setCell _ _ _ _ (by simp)).trans E4
    obtain ⟨cR, fR⟩ := oneCell R4
    obtain ⟨⟨y0, y1, y2, y3, y4, y5⟩, fy⟩ := six_cells E5
    have fy0 := fy 0
    have fy1 := fy 1
    have fy2 := fy 2
    have fy3 := fy 3
    have fy4 := fy 4
    have fy5 := fy 5
    clear fy
    try go_wp2_with fail
    refine hK.out _ _ c4 (fun hHeld => ?_)
    clear hK K
    try simp only [Act.put, List.setIfInBounds_toArray, List.set_cons_zero, List.set_cons_succ]
    refine wpAnyH_ready (rs := [4]) (by kernel_rfl) (by simp) ?_
    refine (AllReadyH.cons (o := ?oodd4) ?hodd4 (fun K hK => ?hkdd4) AllReadyH.nil)
    case hodd4 =>
      simp only [List.getElem?_toArray, List.getElem?_cons_succ, List.getElem?_cons_zero]
      rfl
    case hkdd4 =>
      go_simp
      try go_wp2_with fail
      refine hK.out _ _ ((grown_setCell7 _ _ _ _).cell c4 (by simp; omega)) (fun hHeld => ?_)
      clear hK K
      try simp only [Act.put, List.setIfInBounds_toArray, List.set_cons_zero, List.set_cons_succ]
      refine wpAnyH_ready (rs := [5]) (by kernel_rfl) (by simp) ?_
      refine (AllReadyH.cons (o := ?oodd5) ?hodd5 (fun K hK => ?hkdd5) AllReadyH.nil)
      case hodd5 =>
        simp only [List.getElem?_toArray, List.getElem?_cons_succ, List.getElem?_cons_zero]
        rfl
      case hkdd5 =>
        go_simp
        try go_wp2_with fail
        refine hK.out _ _ ((grown_setCell7 _ _ _ _).cell ((grown_setCell7 _ _ _ _).cell ((grown_setCell7 _ _ _ _).cell ((grown_setCell7 _ _ _ _).cell ((grown_setCell7 _ _ _ _).cell ((grown_setCell7 _ _ _ _).cell ((grown_setCell7 _ _ _ _).cell c4 (by simp; omega)) (by simp; omega)) (by simp; omega)) (by simp; omega)) (by simp; omega)) (by simp; omega)) (by simp; omega)) (fun hHeld => ?_)
        clear hK K
        try simp only [Act.put, List.setIfInBounds_toArray, List.set_cons_zero, List.set_cons_succ]
        refine wpAnyH_done (by kernel_rfl) ?_ _
        have R5 : (((((((w4.setCell ⟨w.heap.size, 0, none⟩ (.slice ua un uc)).setCell ⟨w.heap.size + 1, 0, none⟩ (.int .i64 k)).setCell ⟨w.heap.size + 1, 1, none⟩ (.int .i64 pr)).setCell ⟨w.heap.size + 1, 2, none⟩ (.int .i64 a)).setCell ⟨w.heap.size + 1, 3, none⟩ (.int .i64 sk)).setCell ⟨w.heap.size + 1, 4, none⟩ (.int .i64 sx)).setCell ⟨w.heap.size + 1, 5, none⟩ (.int .i64 sy)).heap[w.heap.size]? = some (.cells #[.slice ua un uc] 26 (0, 0)) := by
          have h9 := one_set R4 (.slice ua un uc)
          iterate 6 rw [Below.heap_setCell _ _ _ _ (by simp)]
          exact h9
        have E6 := six_set (.int .i64 k) (.int .i64 pr) (.int .i64 a) (.int .i64 sk) (.int .i64 sx) (.int .i64 sy) E5
        have HLF : Hid (Below w.heap.size w (((((((w4.setCell ⟨w.heap.size, 0, none⟩ (.slice ua un uc)).setCell ⟨w.heap.size + 1, 0, none⟩ (.int .i64 k)).setCell ⟨w.heap.size + 1, 1, none⟩ (.int .i64 pr)).setCell ⟨w.heap.size + 1, 2, none⟩ (.int .i64 a)).setCell ⟨w.heap.size + 1, 3, none⟩ (.int .i64 sk)).setCell ⟨w.heap.size + 1, 4, none⟩ (.int .i64 sx)).setCell ⟨w.heap.size + 1, 5, none⟩ (.int .i64 sy))) := below_six (L4.out.setCell (Nat.le_refl _) _) (by omega) _ _ _ _ _ _
        have HPF : Hid (PrOk (((((((w4.setCell ⟨w.heap.size, 0, none⟩ (.slice ua un uc)).setCell ⟨w.heap.size + 1, 0, none⟩ (.int .i64 k)).setCell ⟨w.heap.size + 1, 1, none⟩ (.int .i64 pr)).setCell ⟨w.heap.size + 1, 2, none⟩ (.int .i64 a)).setCell ⟨w.heap.size + 1, 3, none⟩ (.int .i64 sk)).setCell ⟨w.heap.size + 1, 4, none⟩ (.int .i64 sx)).setCell ⟨w.heap.size + 1, 5, none⟩ (.int .i64 sy)) w.heap.size (.slice ua un uc) L) := by
          refine PrOk.mono ?_ (by omega : w.heap.size ≤ w1.heap.size)
          exact ((((((P4.out.grown (grown_setCell7 _ _ _ _) (fun k hk => by cases hk; omega)).grown (grown_setCell7 _ _ _ _) (fun k hk => by cases hk; omega)).grown (grown_setCell7 _ _ _ _) (fun k hk => by cases hk; omega)).grown (grown_setCell7 _ _ _ _) (fun k hk => by cases hk; omega)).grown (grown_setCell7 _ _ _ _) (fun k hk => by cases hk; omega)).grown (grown_setCell7 _ _ _ _) (fun k hk => by cases hk; omega)).grown (grown_setCell7 _ _ _ _) (fun k hk => by cases hk; omega)
        obtain ⟨rc, -⟩ := oneCell R5
        obtain ⟨⟨x0, x1, x2, x3, x4, x5⟩, -⟩ := six_cells E6
        clear R5 E6
        generalize ((((((w4.setCell ⟨w.heap.size, 0, none⟩ (.slice ua un uc)).setCell ⟨w.heap.size + 1, 0, none⟩ (.int .i64 k)).setCell ⟨w.heap.size + 1, 1, none⟩ (.int .i64 pr)).setCell ⟨w.heap.size + 1, 2, none⟩ (.int .i64 a)).setCell ⟨w.heap.size + 1, 3, none⟩ (.int .i64 sk)).setCell ⟨w.heap.size + 1, 4, none⟩ (.int .i64 sx)).setCell ⟨w.heap.size + 1, 5, none⟩ (.int .i64 sy) = wf at *
        go_wp2
        refine bodyPost_ret (v := .tuple #[.agg #[.slice ua un uc], .agg #[.int .i64 k, .int .i64 pr, .int .i64 a, .int .i64 sk, .int .i64 sx, .int .i64 sy]]) (by simp [results, Try.results24, go_sem, rc, x0, x1, x2, x3, x4, x5]) rfl ?_
        exact ⟨_, L, ⟨k, pr, a, ⟨sk, sx, sy⟩⟩, rfl, h5, h14, HPF.out, HLF.out⟩

end Go.Proofs.Ytoflfeegllpifaa
