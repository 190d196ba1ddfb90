/-
  laws.likeProgram: two Programs that are alike.
-/
import Derived.Test.YtldagpfeaabcdaaGreatDoorG12EditsMath
namespace Go.Proofs.YtldagpfeaabcdaaGreatDoor
open Go.RowKit
set_option linter.unusedVariables false
set_option linter.unusedSimpArgs false
set_option maxHeartbeats 8000000
set_option maxRecDepth 20000

theorem likeProgram (ps : List (List Stm)) (v u : Value) (w : World) (hl : ps.length ≤ 100) (hp : ∀ p ∈ ps, p.length ≤ 100) (hv : ReadsP w v ps) (hu : ReadsP w u ps) :
    Calls Tryz.prog 11 #[.agg #[v], .agg #[u]] w fun e w' => e = .returned (.bool true) ∧ Below w.heap.size w w' := by
  obtain ⟨ao, vc, rfl, hc⟩ := hv
  obtain ⟨bo, uc, rfl, hd⟩ := hu
  obtain ⟨W0, hW0⟩ : ∃ W0, (w.alloc (.cells #[.slice ao ps.length vc] 26)).alloc (.cells #[.slice bo ps.length uc] 26) = W0 := ⟨_, rfl⟩
  have b0 : Below w.heap.size w W0 := by rw [← hW0]; go_grown
  have s0 : W0.heap.size = w.heap.size + 2 := by rw [← hW0]; simp
  have H0 : W0.heap[w.heap.size]? = some (.cells #[.slice ao ps.length vc] 26 (0, 0)) := by rw [← hW0, old_block (by simp)]; exact heap_alloc_new w _
  have H1 : W0.heap[w.heap.size + 1]? = some (.cells #[.slice bo ps.length uc] 26 (0, 0)) := by
    rw [← hW0]
    have := heap_alloc_new (w.alloc (.cells #[.slice ao ps.length vc] 26)) (.cells #[.slice bo ps.length uc] 26)
    simpa using this
  obtain ⟨a0, -⟩ := one_cell H0
  obtain ⟨b1, -⟩ := one_cell H1
  go_enter Tryz.func11, Tryz.ntmps11
  go_wp2_with fail
  have HS0 : Hid (W0.heap.size = w.heap.size + 2) := s0
  clear hW0 s0
  go_loopw [5] (fun q wr => ∃ i : Nat, i ≤ ps.length ∧ q = .int .i64 i ∧ Below W0.heap.size W0 wr) (fun q _ => ps.length - (intOf q).toNat)
  case atStart => exact ⟨0, Nat.zero_le _, rfl, Below.refl _ _⟩
  case round =>
    obtain ⟨i, hi, rfl, bl⟩ := hrel
    have HBL : Hid (Below W0.heap.size W0 wr) := bl
    have lA : w.heap.size < W0.heap.size := by have := HS0.out; omega
    have lB : w.heap.size + 1 < W0.heap.size := by have := HS0.out; omega
    have a0 := (bl.cell (p := ⟨w.heap.size, 0, none⟩) lA).trans a0
    have b1 := (bl.cell (p := ⟨w.heap.size + 1, 0, none⟩) lB).trans b1
    have bw : Below w.heap.size w wr := b0.trans (bl.mono b0.size)
    by_cases hlt : i < ps.length
    · have hltI : (i : Int) < (ps.length : Int) := by omega
      obtain ⟨g, off, x, rfl, cx, rx⟩ := hc i ps[i] (by simp)
      obtain ⟨g', off', y, rfl, cy, ry⟩ := hd i ps[i] (by simp)
      have pl := hp ps[i] (List.getElem_mem hlt)
      have cx := (bw.cell (World.block_lt_of_cell? w _ cx)).trans cx
      have cy := (bw.cell (World.block_lt_of_cell? w _ cy)).trans cy
      obtain ⟨xo, xc, rfl, hx⟩ := rx
      obtain ⟨yo, yc, rfl, hy⟩ := ry
      generalize ps[i] = p at *
      clear hc hd
      go_wp2_with fail
      refine wp_region_held_drew (S := fun w' => w'.cell? ⟨w.heap.size, 0, none⟩ = some (.slice (some ⟨g, off, none⟩) ps.length vc) ∧ w'.cell? ⟨w.heap.size + 1, 0, none⟩ = some (.slice (some ⟨g', off', none⟩) ps.length uc) ∧ w'.cell? ⟨g, off + i, none⟩ = some (.slice xo p.length xc) ∧ w'.cell? ⟨g', off' + i, none⟩ = some (.slice yo p.length yc)) (by kernel_rfl) ⟨a0, b1, cx, cy⟩ (fun hHeld => ?_)
      refine wpAnyH_take (i := 0) (oi := ?oila0) (v := .pointer (some ⟨w.heap.size, 0, none⟩)) ?hila0 (by kernel_rfl) (by kernel_rfl) (by kernel_rfl) ?hqla0 ?hyla0 hHeld ?hrla0
      case hila0 =>
        simp only [List.getElem?_toArray, List.getElem?_cons_succ, List.getElem?_cons_zero]
        rfl
      case hqla0 => exact fun _ _ _ h => h
      case hyla0 => exact Or.inl ⟨by kernel_rfl, fun w hSw => by go_simp⟩
      try simp only [Act.put, List.setIfInBounds_toArray, List.set_cons_zero, List.set_cons_succ]
      refine wpAnyH_take (i := 1) (oi := ?oila1) (v := .slice (some ⟨g, off, none⟩) ps.length vc) ?hila1 (by kernel_rfl) (by kernel_rfl) (by kernel_rfl) ?hqla1 ?hyla1 hHeld ?hrla1
      case hila1 =>
        simp only [List.getElem?_toArray, List.getElem?_cons_succ, List.getElem?_cons_zero]
        rfl
      case hqla1 => exact fun _ _ _ h => h
      case hyla1 => exact Or.inl ⟨by kernel_rfl, fun w hSw => by obtain ⟨s1, s2, s3, s4⟩ := hSw; go_simp⟩
      try simp only [Act.put, List.setIfInBounds_toArray, List.set_cons_zero, List.set_cons_succ]
      refine wpAnyH_take (i := 2) (oi := ?oila2) (v := .int .i64 (i : Int)) ?hila2 (by kernel_rfl) (by kernel_rfl) (by kernel_rfl) ?hqla2 ?hyla2 hHeld ?hrla2
      case hila2 =>
        simp only [List.getElem?_toArray, List.getElem?_cons_succ, List.getElem?_cons_zero]
        rfl
      case hqla2 => exact fun _ _ _ h => h
      case hyla2 => exact Or.inl ⟨by kernel_rfl, fun w hSw => by go_simp⟩
      try simp only [Act.put, List.setIfInBounds_toArray, List.set_cons_zero, List.set_cons_succ]
      refine wpAnyH_take (i := 3) (oi := ?oila3) (v := .pointer (some ⟨g, off + i, none⟩)) ?hila3 (by kernel_rfl) (by kernel_rfl) (by kernel_rfl) ?hqla3 ?hyla3 hHeld ?hrla3
      case hila3 =>
        simp only [List.getElem?_toArray, List.getElem?_cons_succ, List.getElem?_cons_zero]
        rfl
      case hqla3 => exact fun _ _ _ h => h
      case hyla3 => exact Or.inl ⟨by kernel_rfl, fun w hSw => by go_simp⟩
      try simp only [Act.put, List.setIfInBounds_toArray, List.set_cons_zero, List.set_cons_succ]
      refine wpAnyH_take (i := 4) (oi := ?oila4) (v := .pointer (some ⟨g, off + i, none⟩)) ?hila4 (by kernel_rfl) (by kernel_rfl) (by kernel_rfl) ?hqla4 ?hyla4 hHeld ?hrla4
      case hila4 =>
        simp only [List.getElem?_toArray, List.getElem?_cons_succ, List.getElem?_cons_zero]
        rfl
      case hqla4 => exact fun _ _ _ h => h
      case hyla4 => exact Or.inl ⟨by kernel_rfl, fun w hSw => by go_simp⟩
      try simp only [Act.put, List.setIfInBounds_toArray, List.set_cons_zero, List.set_cons_succ]
      refine wpAnyH_take (i := 5) (oi := ?oila5) (v := .slice xo p.length xc) ?hila5 (by kernel_rfl) (by kernel_rfl) (by kernel_rfl) ?hqla5 ?hyla5 hHeld ?hrla5
      case hila5 =>
        simp only [List.getElem?_toArray, List.getElem?_cons_succ, List.getElem?_cons_zero]
        rfl
      case hqla5 => exact fun _ _ _ h => h
      case hyla5 => exact Or.inl ⟨by kernel_rfl, fun w hSw => by obtain ⟨s1, s2, s3, s4⟩ := hSw; go_simp⟩
      try simp only [Act.put, List.setIfInBounds_toArray, List.set_cons_zero, List.set_cons_succ]
      refine wpAnyH_take (i := 6) (oi := ?oila6) (v := .int .i64 (p.length : Int)) ?hila6 (by kernel_rfl) (by kernel_rfl) (by kernel_rfl) ?hqla6 ?hyla6 hHeld ?hrla6
      case hila6 =>
        simp only [List.getElem?_toArray, List.getElem?_cons_succ, List.getElem?_cons_zero]
        rfl
      case hqla6 => exact fun _ _ _ h => h
      case hyla6 => exact Or.inl ⟨by kernel_rfl, fun w hSw => by go_simp⟩
      try simp only [Act.put, List.setIfInBounds_toArray, List.set_cons_zero, List.set_cons_succ]
      refine wpAnyH_take (i := 7) (oi := ?oila7) (v := .pointer (some ⟨w.heap.size + 1, 0, none⟩)) ?hila7 (by kernel_rfl) (by kernel_rfl) (by kernel_rfl) ?hqla7 ?hyla7 hHeld ?hrla7
      case hila7 =>
        simp only [List.getElem?_toArray, List.getElem?_cons_succ, List.getElem?_cons_zero]
        rfl
      case hqla7 => exact fun _ _ _ h => h
      case hyla7 => exact Or.inl ⟨by kernel_rfl, fun w hSw => by go_simp⟩
      try simp only [Act.put, List.setIfInBounds_toArray, List.set_cons_zero, List.set_cons_succ]
      refine wpAnyH_take (i := 8) (oi := ?oila8) (v := (.slice (some ⟨g', off', none⟩) ps.length uc)) ?hila8 (by kernel_rfl) (by kernel_rfl) (by kernel_rfl) ?hqla8 ?hyla8 hHeld ?hrla8
      case hila8 =>
        simp only [List.getElem?_toArray, List.getElem?_cons_succ, List.getElem?_cons_zero]
        rfl
      case hqla8 => exact fun _ _ _ h => h
      case hyla8 => exact Or.inl ⟨by kernel_rfl, fun w hSw => by obtain ⟨s1, s2, s3, s4⟩ := hSw; go_simp⟩
      try simp only [Act.put, List.setIfInBounds_toArray, List.set_cons_zero, List.set_cons_succ]
      refine wpAnyH_take (i := 9) (oi := ?oila9) (v := .int .i64 (i : Int)) ?hila9 (by kernel_rfl) (by kernel_rfl) (by kernel_rfl) ?hqla9 ?hyla9 hHeld ?hrla9
      case hila9 =>
        simp only [List.getElem?_toArray, List.getElem?_cons_succ, List.getElem?_cons_zero]
        rfl
      case hqla9 => exact fun _ _ _ h => h
      case hyla9 => exact Or.inl ⟨by kernel_rfl, fun w hSw => by go_simp⟩
      try simp only [Act.put, List.setIfInBounds_toArray, List.set_cons_zero, List.set_cons_succ]
      refine wpAnyH_take (i := 10) (oi := ?oila10) (v := .pointer (some ⟨g', off' + i, none⟩)) ?hila10 (by kernel_rfl) (by kernel_rfl) (by kernel_rfl) ?hqla10 ?hyla10 hHeld ?hrla10
      case hila10 =>
        simp only [List.getElem?_toArray, List.getElem?_cons_succ, List.getElem?_cons_zero]
        rfl
      case hqla10 => exact fun _ _ _ h => h
      case hyla10 => exact Or.inl ⟨by kernel_rfl, fun w hSw => by go_simp⟩
      try simp only [Act.put, List.setIfInBounds_toArray, List.set_cons_zero, List.set_cons_succ]
      refine wpAnyH_take (i := 11) (oi := ?oila11) (v := .pointer (some ⟨g', off' + i, none⟩)) ?hila11 (by kernel_rfl) (by kernel_rfl) (by kernel_rfl) ?hqla11 ?hyla11 hHeld ?hrla11
      case hila11 =>
        simp only [List.getElem?_toArray, List.getElem?_cons_succ, List.getElem?_cons_zero]
        rfl
      case hqla11 => exact fun _ _ _ h => h
      case hyla11 => exact Or.inl ⟨by kernel_rfl, fun w hSw => by go_simp⟩
      try simp only [Act.put, List.setIfInBounds_toArray, List.set_cons_zero, List.set_cons_succ]
      refine wpAnyH_take (i := 12) (oi := ?oila12) (v := .slice yo p.length yc) ?hila12 (by kernel_rfl) (by kernel_rfl) (by kernel_rfl) ?hqla12 ?hyla12 hHeld ?hrla12
      case hila12 =>
        simp only [List.getElem?_toArray, List.getElem?_cons_succ, List.getElem?_cons_zero]
        rfl
      case hqla12 => exact fun _ _ _ h => h
      case hyla12 => exact Or.inl ⟨by kernel_rfl, fun w hSw => by obtain ⟨s1, s2, s3, s4⟩ := hSw; go_simp⟩
      try simp only [Act.put, List.setIfInBounds_toArray, List.set_cons_zero, List.set_cons_succ]
      refine wpAnyH_take (i := 13) (oi := ?oila13) (v := .int .i64 (p.length : Int)) ?hila13 (by kernel_rfl) (by kernel_rfl) (by kernel_rfl) ?hqla13 ?hyla13 hHeld ?hrla13
      case hila13 =>
        simp only [List.getElem?_toArray, List.getElem?_cons_succ, List.getElem?_cons_zero]
        rfl
      case hqla13 => exact fun _ _ _ h => h
      case hyla13 => exact Or.inl ⟨by kernel_rfl, fun w hSw => by go_simp⟩
      try simp only [Act.put, List.setIfInBounds_toArray, List.set_cons_zero, List.set_cons_succ]
      refine wpAnyH_take (i := 14) (oi := ?oila14) (v := .bool false) ?hila14 (by kernel_rfl) (by kernel_rfl) (by kernel_rfl) ?hqla14 ?hyla14 hHeld ?hrla14
      case hila14 =>
        simp only [List.getElem?_toArray, List.getElem?_cons_succ, List.getElem?_cons_zero]
        rfl
      case hqla14 => exact fun _ _ _ h => h
      case hyla14 => exact Or.inl ⟨by kernel_rfl, fun w hSw => by go_simp⟩
      try simp only [Act.put, List.setIfInBounds_toArray, List.set_cons_zero, List.set_cons_succ]
      refine wpAnyH_done (by kernel_rfl) ?_ _
      have bl2 : Below wr.heap.size wr wr.drew := Below.drew (Below.refl _ _)
      have HB2 : Hid (Below W0.heap.size W0 wr.drew) := HBL.out.drew
      have a1 : wr.drew.cell? ⟨w.heap.size, 0, none⟩ = some (.slice (some ⟨g, off, none⟩) ps.length vc) := a0
      have c1 : wr.drew.cell? ⟨w.heap.size + 1, 0, none⟩ = some (.slice (some ⟨g', off', none⟩) ps.length uc) := b1
      have d1 : wr.drew.cell? ⟨g, off + i, none⟩ = some (.slice xo p.length xc) := cx
      have f1 : wr.drew.cell? ⟨g', off' + i, none⟩ = some (.slice yo p.length yc) := cy
      clear a0 b1 cx cy bl2
      generalize wr.drew = w3 at *
      go_wp2_with fail
      go_loopw [6] (fun q wr => ∃ k : Nat, k ≤ p.length ∧ q = .int .i64 k ∧ Below w3.heap.size w3 wr) (fun q _ => p.length - (intOf q).toNat)
      case atStart => exact ⟨0, Nat.zero_le _, rfl, Below.refl _ _⟩
      case round =>
        obtain ⟨k, hk, rfl, bk⟩ := hrel
        have HBK : Hid (Below w3.heap.size w3 wr) := bk
        have z3 := HB2.out.size
        have a0 := (bk.cell (World.block_lt_of_cell? _ _ a1)).trans a1
        have b1 := (bk.cell (World.block_lt_of_cell? _ _ c1)).trans c1
        have cx := (bk.cell (World.block_lt_of_cell? _ _ d1)).trans d1
        have cy := (bk.cell (World.block_lt_of_cell? _ _ f1)).trans f1
        by_cases hkl : k < p.length
        · have hklI : (k : Int) < (p.length : Int) := by omega
          obtain ⟨gx, ox, rfl, x0, x1, x2⟩ := hx k p[k] (by simp)
          obtain ⟨gy, oy, rfl, y0, y1, y2⟩ := hy k p[k] (by simp)
          have zx := World.block_lt_of_cell? w _ x0
          have zy := World.block_lt_of_cell? w _ y0
          have bw3 : Below w.heap.size w wr := b0.trans ((HB2.out.trans (bk.mono z3)).mono b0.size)
          have x0 := (bw3.cell (p := ⟨gx, ox + k * 3, none⟩) zx).trans x0
          have x1 := (bw3.cell (p := ⟨gx, ox + k * 3 + 1, none⟩) zx).trans x1
          have x2 := (bw3.cell (p := ⟨gx, ox + k * 3 + 2, none⟩) zx).trans x2
          have y0 := (bw3.cell (p := ⟨gy, oy + k * 3, none⟩) zy).trans y0
          have y1 := (bw3.cell (p := ⟨gy, oy + k * 3 + 1, none⟩) zy).trans y1
          have y2 := (bw3.cell (p := ⟨gy, oy + k * 3 + 2, none⟩) zy).trans y2
          clear hx hy
          generalize p[k] = s at *
          obtain ⟨sk, sx, sy⟩ := s
          simp only at x0 x1 x2 y0 y1 y2
          go_wp2_with fail
          refine wp_region_held_drew (S := fun w' => w'.cell? ⟨w.heap.size, 0, none⟩ = some (.slice (some ⟨g, off, none⟩) ps.length vc) ∧ w'.cell? ⟨w.heap.size + 1, 0, none⟩ = some (.slice (some ⟨g', off', none⟩) ps.length uc) ∧ w'.cell? ⟨g, off + i, none⟩ = some (.slice (some ⟨gx, ox, none⟩) p.length xc) ∧ w'.cell? ⟨g', off' + i, none⟩ = some (.slice (some ⟨gy, oy, none⟩) p.length yc) ∧ w'.cell? ⟨gx, ox + k * 3, none⟩ = some (.int .i64 sk) ∧ w'.cell? ⟨gx, ox + k * 3 + 1, none⟩ = some (.int .i64 sx) ∧ w'.cell? ⟨gx, ox + k * 3 + 2, none⟩ = some (.int .i64 sy) ∧ w'.cell? ⟨gy, oy + k * 3, none⟩ = some (.int .i64 sk) ∧ w'.cell? ⟨gy, oy + k * 3 + 1, none⟩ = some (.int .i64 sx) ∧ w'.cell? ⟨gy, oy + k * 3 + 2, none⟩ = some (.int .i64 sy)) (by kernel_rfl) ⟨a0, b1, cx, cy, x0, x1, x2, y0, y1, y2⟩ (fun hHeld => ?_)
          refine wpAnyH_take (i := 0) (oi := ?oilb0) (v := .pointer (some ⟨w.heap.size, 0, none⟩)) ?hilb0 (by kernel_rfl) (by kernel_rfl) (by kernel_rfl) ?hqlb0 ?hylb0 hHeld ?hrlb0
          case hilb0 =>
            simp only [List.getElem?_toArray, List.getElem?_cons_succ, List.getElem?_cons_zero]
            rfl
          case hqlb0 => exact fun _ _ _ h => h
          case hylb0 => exact Or.inl ⟨by kernel_rfl, fun w hSw => by go_simp⟩
          try simp only [Act.put, List.setIfInBounds_toArray, List.set_cons_zero, List.set_cons_succ]
          refine wpAnyH_take (i := 1) (oi := ?oilb1) (v := .slice (some ⟨g, off, none⟩) ps.length vc) ?hilb1 (by kernel_rfl) (by kernel_rfl) (by kernel_rfl) ?hqlb1 ?hylb1 hHeld ?hrlb1
          case hilb1 =>
            simp only [List.getElem?_toArray, List.getElem?_cons_succ, List.getElem?_cons_zero]
            rfl
          case hqlb1 => exact fun _ _ _ h => h
          case hylb1 => exact Or.inl ⟨by kernel_rfl, fun w hSw => by obtain ⟨s1, s2, s3, s4, s5, s6, s7, s8, s9, s10⟩ := hSw; go_simp⟩
          try simp only [Act.put, List.setIfInBounds_toArray, List.set_cons_zero, List.set_cons_succ]
          refine wpAnyH_take (i := 2) (oi := ?oilb2) (v := .int .i64 (i : Int)) ?hilb2 (by kernel_rfl) (by kernel_rfl) (by kernel_rfl) ?hqlb2 ?hylb2 hHeld ?hrlb2
          case hilb2 =>
            simp only [List.getElem?_toArray, List.getElem?_cons_succ, List.getElem?_cons_zero]
            rfl
          case hqlb2 => exact fun _ _ _ h => h
          case hylb2 => exact Or.inl ⟨by kernel_rfl, fun w hSw => by go_simp⟩
          try simp only [Act.put, List.setIfInBounds_toArray, List.set_cons_zero, List.set_cons_succ]
          refine wpAnyH_take (i := 3) (oi := ?oilb3) (v := .pointer (some ⟨g, off + i, none⟩)) ?hilb3 (by kernel_rfl) (by kernel_rfl) (by kernel_rfl) ?hqlb3 ?hylb3 hHeld ?hrlb3
          case hilb3 =>
            simp only [List.getElem?_toArray, List.getElem?_cons_succ, List.getElem?_cons_zero]
            rfl
          case hqlb3 => exact fun _ _ _ h => h
          case hylb3 => exact Or.inl ⟨by kernel_rfl, fun w hSw => by go_simp⟩
          try simp only [Act.put, List.setIfInBounds_toArray, List.set_cons_zero, List.set_cons_succ]
          refine wpAnyH_take (i := 4) (oi := ?oilb4) (v := .pointer (some ⟨g, off + i, none⟩)) ?hilb4 (by kernel_rfl) (by kernel_rfl) (by kernel_rfl) ?hqlb4 ?hylb4 hHeld ?hrlb4
          case hilb4 =>
            simp only [List.getElem?_toArray, List.getElem?_cons_succ, List.getElem?_cons_zero]
            rfl
          case hqlb4 => exact fun _ _ _ h => h
          case hylb4 => exact Or.inl ⟨by kernel_rfl, fun w hSw => by go_simp⟩
          try simp only [Act.put, List.setIfInBounds_toArray, List.set_cons_zero, List.set_cons_succ]
          refine wpAnyH_take (i := 5) (oi := ?oilb5) (v := .slice (some ⟨gx, ox, none⟩) p.length xc) ?hilb5 (by kernel_rfl) (by kernel_rfl) (by kernel_rfl) ?hqlb5 ?hylb5 hHeld ?hrlb5
          case hilb5 =>
            simp only [List.getElem?_toArray, List.getElem?_cons_succ, List.getElem?_cons_zero]
            rfl
          case hqlb5 => exact fun _ _ _ h => h
          case hylb5 => exact Or.inl ⟨by kernel_rfl, fun w hSw => by obtain ⟨s1, s2, s3, s4, s5, s6, s7, s8, s9, s10⟩ := hSw; go_simp⟩
          try simp only [Act.put, List.setIfInBounds_toArray, List.set_cons_zero, List.set_cons_succ]
          refine wpAnyH_take (i := 6) (oi := ?oilb6) (v := .int .i64 (k : Int)) ?hilb6 (by kernel_rfl) (by kernel_rfl) (by kernel_rfl) ?hqlb6 ?hylb6 hHeld ?hrlb6
          case hilb6 =>
            simp only [List.getElem?_toArray, List.getElem?_cons_succ, List.getElem?_cons_zero]
            rfl
          case hqlb6 => exact fun _ _ _ h => h
          case hylb6 => exact Or.inl ⟨by kernel_rfl, fun w hSw => by go_simp⟩
          try simp only [Act.put, List.setIfInBounds_toArray, List.set_cons_zero, List.set_cons_succ]
          refine wpAnyH_take (i := 7) (oi := ?oilb7) (v := .pointer (some ⟨gx, ox + k * 3, none⟩)) ?hilb7 (by kernel_rfl) (by kernel_rfl) (by kernel_rfl) ?hqlb7 ?hylb7 hHeld ?hrlb7
          case hilb7 =>
            simp only [List.getElem?_toArray, List.getElem?_cons_succ, List.getElem?_cons_zero]
            rfl
          case hqlb7 => exact fun _ _ _ h => h
          case hylb7 => exact Or.inl ⟨by kernel_rfl, fun w hSw => by go_simp⟩
          try simp only [Act.put, List.setIfInBounds_toArray, List.set_cons_zero, List.set_cons_succ]
          refine wpAnyH_take (i := 8) (oi := ?oilb8) (v := .agg #[.int .i64 sk, .int .i64 sx, .int .i64 sy]) ?hilb8 (by kernel_rfl) (by kernel_rfl) (by kernel_rfl) ?hqlb8 ?hylb8 hHeld ?hrlb8
          case hilb8 =>
            simp only [List.getElem?_toArray, List.getElem?_cons_succ, List.getElem?_cons_zero]
            rfl
          case hqlb8 => exact fun _ _ _ h => h
          case hylb8 => exact Or.inl ⟨by kernel_rfl, fun w hSw => by obtain ⟨s1, s2, s3, s4, s5, s6, s7, s8, s9, s10⟩ := hSw; go_simp⟩
          try simp only [Act.put, List.setIfInBounds_toArray, List.set_cons_zero, List.set_cons_succ]
          refine wpAnyH_take (i := 9) (oi := ?oilb9) (v := .pointer (some ⟨w.heap.size + 1, 0, none⟩)) ?hilb9 (by kernel_rfl) (by kernel_rfl) (by kernel_rfl) ?hqlb9 ?hylb9 hHeld ?hrlb9
          case hilb9 =>
            simp only [List.getElem?_toArray, List.getElem?_cons_succ, List.getElem?_cons_zero]
            rfl
          case hqlb9 => exact fun _ _ _ h => h
          case hylb9 => exact Or.inl ⟨by kernel_rfl, fun w hSw => by go_simp⟩
          try simp only [Act.put, List.setIfInBounds_toArray, List.set_cons_zero, List.set_cons_succ]
          refine wpAnyH_take (i := 10) (oi := ?oilb10) (v := (.slice (some ⟨g', off', none⟩) ps.length uc)) ?hilb10 (by kernel_rfl) (by kernel_rfl) (by kernel_rfl) ?hqlb10 ?hylb10 hHeld ?hrlb10
          case hilb10 =>
            simp only [List.getElem?_toArray, List.getElem?_cons_succ, List.getElem?_cons_zero]
            rfl
          case hqlb10 => exact fun _ _ _ h => h
          case hylb10 => exact Or.inl ⟨by kernel_rfl, fun w hSw => by obtain ⟨s1, s2, s3, s4, s5, s6, s7, s8, s9, s10⟩ := hSw; go_simp⟩
          try simp only [Act.put, List.setIfInBounds_toArray, List.set_cons_zero, List.set_cons_succ]
          refine wpAnyH_take (i := 11) (oi := ?oilb11) (v := .int .i64 (i : Int)) ?hilb11 (by kernel_rfl) (by kernel_rfl) (by kernel_rfl) ?hqlb11 ?hylb11 hHeld ?hrlb11
          case hilb11 =>
            simp only [List.getElem?_toArray, List.getElem?_cons_succ, List.getElem?_cons_zero]
            rfl
          case hqlb11 => exact fun _ _ _ h => h
          case hylb11 => exact Or.inl ⟨by kernel_rfl, fun w hSw => by go_simp⟩
          try simp only [Act.put, List.setIfInBounds_toArray, List.set_cons_zero, List.set_cons_succ]
          refine wpAnyH_take (i := 12) (oi := ?oilb12) (v := .pointer (some ⟨g', off' + i, none⟩)) ?hilb12 (by kernel_rfl) (by kernel_rfl) (by kernel_rfl) ?hqlb12 ?hylb12 hHeld ?hrlb12
          case hilb12 =>
            simp only [List.getElem?_toArray, List.getElem?_cons_succ, List.getElem?_cons_zero]
            rfl
          case hqlb12 => exact fun _ _ _ h => h
          case hylb12 => exact Or.inl ⟨by kernel_rfl, fun w hSw => by go_simp⟩
          try simp only [Act.put, List.setIfInBounds_toArray, List.set_cons_zero, List.set_cons_succ]
          refine wpAnyH_take (i := 13) (oi := ?oilb13) (v := .pointer (some ⟨g', off' + i, none⟩)) ?hilb13 (by kernel_rfl) (by kernel_rfl) (by kernel_rfl) ?hqlb13 ?hylb13 hHeld ?hrlb13
          case hilb13 =>
            simp only [List.getElem?_toArray, List.getElem?_cons_succ, List.getElem?_cons_zero]
            rfl
          case hqlb13 => exact fun _ _ _ h => h
          case hylb13 => exact Or.inl ⟨by kernel_rfl, fun w hSw => by go_simp⟩
          try simp only [Act.put, List.setIfInBounds_toArray, List.set_cons_zero, List.set_cons_succ]
          refine wpAnyH_take (i := 14) (oi := ?oilb14) (v := .slice (some ⟨gy, oy, none⟩) p.length yc) ?hilb14 (by kernel_rfl) (by kernel_rfl) (by kernel_rfl) ?hqlb14 ?hylb14 hHeld ?hrlb14
          case hilb14 =>
            simp only [List.getElem?_toArray, List.getElem?_cons_succ, List.getElem?_cons_zero]
            rfl
          case hqlb14 => exact fun _ _ _ h => h
          case hylb14 => exact Or.inl ⟨by kernel_rfl, fun w hSw => by obtain ⟨s1, s2, s3, s4, s5, s6, s7, s8, s9, s10⟩ := hSw; go_simp⟩
          try simp only [Act.put, List.setIfInBounds_toArray, List.set_cons_zero, List.set_cons_succ]
          refine wpAnyH_take (i := 15) (oi := ?oilb15) (v := .int .i64 (k : Int)) ?hilb15 (by kernel_rfl) (by kernel_rfl) (by kernel_rfl) ?hqlb15 ?hylb15 hHeld ?hrlb15
          case hilb15 =>
            simp only [List.getElem?_toArray, List.getElem?_cons_succ, List.getElem?_cons_zero]
            rfl
          case hqlb15 => exact fun _ _ _ h => h
          case hylb15 => exact Or.inl ⟨by kernel_rfl, fun w hSw => by go_simp⟩
          try simp only [Act.put, List.setIfInBounds_toArray, List.set_cons_zero, List.set_cons_succ]
          refine wpAnyH_take (i := 16) (oi := ?oilb16) (v := .pointer (some ⟨gy, oy + k * 3, none⟩)) ?hilb16 (by kernel_rfl) (by kernel_rfl) (by kernel_rfl) ?hqlb16 ?hylb16 hHeld ?hrlb16
          case hilb16 =>
            simp only [List.getElem?_toArray, List.getElem?_cons_succ, List.getElem?_cons_zero]
            rfl
          case hqlb16 => exact fun _ _ _ h => h
          case hylb16 => exact Or.inl ⟨by kernel_rfl, fun w hSw => by go_simp⟩
          try simp only [Act.put, List.setIfInBounds_toArray, List.set_cons_zero, List.set_cons_succ]
          refine wpAnyH_take (i := 17) (oi := ?oilb17) (v := .agg #[.int .i64 sk, .int .i64 sx, .int .i64 sy]) ?hilb17 (by kernel_rfl) (by kernel_rfl) (by kernel_rfl) ?hqlb17 ?hylb17 hHeld ?hrlb17
          case hilb17 =>
            simp only [List.getElem?_toArray, List.getElem?_cons_succ, List.getElem?_cons_zero]
            rfl
          case hqlb17 => exact fun _ _ _ h => h
          case hylb17 => exact Or.inl ⟨by kernel_rfl, fun w hSw => by obtain ⟨s1, s2, s3, s4, s5, s6, s7, s8, s9, s10⟩ := hSw; go_simp⟩
          try simp only [Act.put, List.setIfInBounds_toArray, List.set_cons_zero, List.set_cons_succ]
          refine wpAnyH_take (i := 18) (oi := ?oilb18) (v := .bool false) ?hilb18 (by kernel_rfl) (by kernel_rfl) (by kernel_rfl) ?hqlb18 ?hylb18 hHeld ?hrlb18
          case hilb18 =>
            simp only [List.getElem?_toArray, List.getElem?_cons_succ, List.getElem?_cons_zero]
            rfl
          case hqlb18 => exact fun _ _ _ h => h
          case hylb18 => exact Or.inl ⟨by kernel_rfl, fun w hSw => by go_simp⟩
          try simp only [Act.put, List.setIfInBounds_toArray, List.set_cons_zero, List.set_cons_succ]
          refine wpAnyH_done (by kernel_rfl) ?_ _
          have HB5 : Hid (Below w3.heap.size w3 wr.drew) := HBK.out.drew
          generalize wr.drew = w5 at *
          go_wp2
          go_roundw
          case rel => exact ⟨k + 1, by omega, by go_num, HB5.out⟩
          case measure => simp [intOf]; omega
        · have hkk : k = p.length := by omega
          have HB4 : Hid (Below W0.heap.size W0 wr) := HB2.out.trans (bk.mono z3)
          clear hx hy
          go_wp2
          go_roundw
          case rel => exact ⟨i + 1, by omega, by go_num, HB4.out⟩
          case measure => simp [intOf]; omega
    · have hii : i = ps.length := by omega
      clear hc hd
      go_wp2
      go_ret
      exact ⟨rfl, bw⟩

end Go.Proofs.YtldagpfeaabcdaaGreatDoor
