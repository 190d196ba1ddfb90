/-
 laws.likeProgram: two Programs that are alike.
-/
import Derived.Test.YtldagpfeaabcdaaGreatDoorG12EditsMath
namespace Go.Proofs.YtldagpfeaabcdaaGreatDoor
open Go.RowKit
set_option linter.unusedVariables false
set_option linter.unusedSimpArgs false
set_option maxHeartbeats 8000000
set_option maxRecDepth 20000
theorem likeProgram (ps : List (List Stm)) (v u : Value) (w : World) (hl : ps.length ≤ 100) (hp : ∀ p ∈ ps, p.length ≤ 100) (hv : jb5 w v ps) (hu : jb5 w u ps) :
 Calls Tryz.prog 11 #[.agg #[v], .agg #[u]] w fun e w' => e = .returned (.bool true) ∧ Below w.heap.size w w' := by
 obtain ⟨ao, vc, rfl, hc⟩ := hv
 obtain ⟨bo, uc, rfl, hd⟩ := hu
 obtain ⟨W0, hW0⟩ : ∃ W0, (w.alloc (.cells #[.slice ao ps.length vc] 26)).alloc (.cells #[.slice bo ps.length uc] 26) = W0 := ⟨_, rfl⟩
 have b0 : Below w.heap.size w W0 := by rw [← hW0]; go_grown
 have s0 : W0.heap.size = w.heap.size + 2 := by rw [← hW0]; simp
 have H0 : W0.heap[w.heap.size]? = some (.cells #[.slice ao ps.length vc] 26 (0, 0)) := by rw [← hW0, ja2 (by simp)]; exact heap_alloc_new w _
 have H1 : W0.heap[w.heap.size + 1]? = some (.cells #[.slice bo ps.length uc] 26 (0, 0)) := by
  rw [← hW0]
  have := heap_alloc_new (w.alloc (.cells #[.slice ao ps.length vc] 26)) (.cells #[.slice bo ps.length uc] 26)
  simpa using this
 obtain ⟨a0, -⟩ := ja4 H0
 obtain ⟨b1, -⟩ := ja4 H1
 go_enter Tryz.func11, Tryz.ntmps11
 go_wp2_with fail
 have HS0 : Hid (W0.heap.size = w.heap.size + 2) := s0
 clear hW0 s0
 go_loopw [5] (fun q wr => ∃ i : Nat, i ≤ ps.length ∧ q = .int .i64 i ∧ Below W0.heap.size W0 wr) (fun q _ => ps.length - (intOf q).toNat)
 case atStart => exact ⟨0, Nat.zero_le _, rfl, Below.refl _ _⟩
 case round =>
  obtain ⟨i, hi, rfl, bl⟩ := hrel
  have HBL : Hid (Below W0.heap.size W0 wr) := bl
  have lA : w.heap.size < W0.heap.size := by have := HS0.out; omega
  have lB : w.heap.size + 1 < W0.heap.size := by have := HS0.out; omega
  have a0 := (bl.cell (p := ⟨w.heap.size, 0, none⟩) lA).trans a0
  have b1 := (bl.cell (p := ⟨w.heap.size + 1, 0, none⟩) lB).trans b1
  have bw : Below w.heap.size w wr := b0.trans (bl.mono b0.size)
  by_cases hlt : i < ps.length
  · have hltI : (i : Int) < (ps.length : Int) := by omega
    obtain ⟨g, off, x, rfl, cx, rx⟩ := hc i ps[i] (by simp)
    obtain ⟨g', off', y, rfl, cy, ry⟩ := hd i ps[i] (by simp)
    have pl := hp ps[i] (List.getElem_mem hlt)
    have cx := (bw.cell (World.block_lt_of_cell? w _ cx)).trans cx
    have cy := (bw.cell (World.block_lt_of_cell? w _ cy)).trans cy
    obtain ⟨xo, xc, rfl, hx⟩ := rx
    obtain ⟨yo, yc, rfl, hy⟩ := ry
    generalize ps[i] = p at *
    clear hc hd
    go_wp2_with fail
    refine wp_region_held_drew (S := fun w' => w'.cell? ⟨w.heap.size, 0, none⟩ = some (.slice (some ⟨g, off, none⟩) ps.length vc) ∧ w'.cell? ⟨w.heap.size + 1, 0, none⟩ = some (.slice (some ⟨g', off', none⟩) ps.length uc) ∧ w'.cell? ⟨g, off + i, none⟩ = some (.slice xo p.length xc) ∧ w'.cell? ⟨g', off' + i, none⟩ = some (.slice yo p.length yc)) (by kernel_rfl) ⟨a0, b1, cx, cy⟩ (fun hHl => ?_)
    refine wpAnyH_take (i := 0) (oi := ?oila0) (v := .pointer (some ⟨w.heap.size, 0, none⟩)) ?_ (by kernel_rfl) (by kernel_rfl) (by kernel_rfl) ?_ ?_ hHl ?_
    rotate_left
    · simp only [gA, gB, gC]; rfl
    · exact fun _ _ _ h => h
    · exact Or.inl ⟨by kernel_rfl, fun w hSw => by go_simp⟩
    try simp only [Act.put, gD, gE, gF]
    refine wpAnyH_take (i := 1) (oi := ?oila1) (v := .slice (some ⟨g, off, none⟩) ps.length vc) ?_ (by kernel_rfl) (by kernel_rfl) (by kernel_rfl) ?_ ?_ hHl ?_
    rotate_left
    · simp only [gA, gB, gC]; rfl
    · exact fun _ _ _ h => h
    · exact Or.inl ⟨by kernel_rfl, fun w hSw => by obtain ⟨s1, s2, s3, s4⟩ := hSw; go_simp⟩
    try simp only [Act.put, gD, gE, gF]
    refine wpAnyH_take (i := 2) (oi := ?oila2) (v := .int .i64 (i : Int)) ?_ (by kernel_rfl) (by kernel_rfl) (by kernel_rfl) ?_ ?_ hHl ?_
    rotate_left
    · simp only [gA, gB, gC]; rfl
    · exact fun _ _ _ h => h
    · exact Or.inl ⟨by kernel_rfl, fun w hSw => by go_simp⟩
    try simp only [Act.put, gD, gE, gF]
    refine wpAnyH_take (i := 3) (oi := ?oila3) (v := .pointer (some ⟨g, off + i, none⟩)) ?_ (by kernel_rfl) (by kernel_rfl) (by kernel_rfl) ?_ ?_ hHl ?_
    rotate_left
    · simp only [gA, gB, gC]; rfl
    · exact fun _ _ _ h => h
    · exact Or.inl ⟨by kernel_rfl, fun w hSw => by go_simp⟩
    try simp only [Act.put, gD, gE, gF]
    refine wpAnyH_take (i := 4) (oi := ?oila4) (v := .pointer (some ⟨g, off + i, none⟩)) ?_ (by kernel_rfl) (by kernel_rfl) (by kernel_rfl) ?_ ?_ hHl ?_
    rotate_left
    · simp only [gA, gB, gC]; rfl
    · exact fun _ _ _ h => h
    · exact Or.inl ⟨by kernel_rfl, fun w hSw => by go_simp⟩
    try simp only [Act.put, gD, gE, gF]
    refine wpAnyH_take (i := 5) (oi := ?oila5) (v := .slice xo p.length xc) ?_ (by kernel_rfl) (by kernel_rfl) (by kernel_rfl) ?_ ?_ hHl ?_
    rotate_left
    · simp only [gA, gB, gC]; rfl
    · exact fun _ _ _ h => h
    · exact Or.inl ⟨by kernel_rfl, fun w hSw => by obtain ⟨s1, s2, s3, s4⟩ := hSw; go_simp⟩
    try simp only [Act.put, gD, gE, gF]
    refine wpAnyH_take (i := 6) (oi := ?oila6) (v := .int .i64 (p.length : Int)) ?_ (by kernel_rfl) (by kernel_rfl) (by kernel_rfl) ?_ ?_ hHl ?_
    rotate_left
    · simp only [gA, gB, gC]; rfl
    · exact fun _ _ _ h => h
    · exact Or.inl ⟨by kernel_rfl, fun w hSw => by go_simp⟩
    try simp only [Act.put, gD, gE, gF]
    refine wpAnyH_take (i := 7) (oi := ?oila7) (v := .pointer (some ⟨w.heap.size + 1, 0, none⟩)) ?_ (by kernel_rfl) (by kernel_rfl) (by kernel_rfl) ?_ ?_ hHl ?_
    rotate_left
    · simp only [gA, gB, gC]; rfl
    · exact fun _ _ _ h => h
    · exact Or.inl ⟨by kernel_rfl, fun w hSw => by go_simp⟩
    try simp only [Act.put, gD, gE, gF]
    refine wpAnyH_take (i := 8) (oi := ?oila8) (v := (.slice (some ⟨g', off', none⟩) ps.length uc)) ?_ (by kernel_rfl) (by kernel_rfl) (by kernel_rfl) ?_ ?_ hHl ?_
    rotate_left
    · simp only [gA, gB, gC]; rfl
    · exact fun _ _ _ h => h
    · exact Or.inl ⟨by kernel_rfl, fun w hSw => by obtain ⟨s1, s2, s3, s4⟩ := hSw; go_simp⟩
    try simp only [Act.put, gD, gE, gF]
    refine wpAnyH_take (i := 9) (oi := ?oila9) (v := .int .i64 (i : Int)) ?_ (by kernel_rfl) (by kernel_rfl) (by kernel_rfl) ?_ ?_ hHl ?_
    rotate_left
    · simp only [gA, gB, gC]; rfl
    · exact fun _ _ _ h => h
    · exact Or.inl ⟨by kernel_rfl, fun w hSw => by go_simp⟩
    try simp only [Act.put, gD, gE, gF]
    refine wpAnyH_take (i := 10) (oi := ?oila10) (v := .pointer (some ⟨g', off' + i, none⟩)) ?_ (by kernel_rfl) (by kernel_rfl) (by kernel_rfl) ?_ ?_ hHl ?_
    rotate_left
    · simp only [gA, gB, gC]; rfl
    · exact fun _ _ _ h => h
    · exact Or.inl ⟨by kernel_rfl, fun w hSw => by go_simp⟩
    try simp only [Act.put, gD, gE, gF]
    refine wpAnyH_take (i := 11) (oi := ?oila11) (v := .pointer (some ⟨g', off' + i, none⟩)) ?_ (by kernel_rfl) (by kernel_rfl) (by kernel_rfl) ?_ ?_ hHl ?_
    rotate_left
    · simp only [gA, gB, gC]; rfl
    · exact fun _ _ _ h => h
    · exact Or.inl ⟨by kernel_rfl, fun w hSw => by go_simp⟩
    try simp only [Act.put, gD, gE, gF]
    refine wpAnyH_take (i := 12) (oi := ?oila12) (v := .slice yo p.length yc) ?_ (by kernel_rfl) (by kernel_rfl) (by kernel_rfl) ?_ ?_ hHl ?_
    rotate_left
    · simp only [gA, gB, gC]; rfl
    · exact fun _ _ _ h => h
    · exact Or.inl ⟨by kernel_rfl, fun w hSw => by obtain ⟨s1, s2, s3, s4⟩ := hSw; go_simp⟩
    try simp only [Act.put, gD, gE, gF]
    refine wpAnyH_take (i := 13) (oi := ?oila13) (v := .int .i64 (p.length : Int)) ?_ (by kernel_rfl) (by kernel_rfl) (by kernel_rfl) ?_ ?_ hHl ?_
    rotate_left
    · simp only [gA, gB, gC]; rfl
    · exact fun _ _ _ h => h
    · exact Or.inl ⟨by kernel_rfl, fun w hSw => by go_simp⟩
    try simp only [Act.put, gD, gE, gF]
    refine wpAnyH_take (i := 14) (oi := ?oila14) (v := .bool false) ?_ (by kernel_rfl) (by kernel_rfl) (by kernel_rfl) ?_ ?_ hHl ?_
    rotate_left
    · simp only [gA, gB, gC]; rfl
    · exact fun _ _ _ h => h
    · exact Or.inl ⟨by kernel_rfl, fun w hSw => by go_simp⟩
    try simp only [Act.put, gD, gE, gF]
    refine wpAnyH_done (by kernel_rfl) ?_ _
    have bl2 : Below wr.heap.size wr wr.drew := Below.drew (Below.refl _ _)
    have HB2 : Hid (Below W0.heap.size W0 wr.drew) := HBL.out.drew
    have a1 : wr.drew.cell? ⟨w.heap.size, 0, none⟩ = some (.slice (some ⟨g, off, none⟩) ps.length vc) := a0
    have c1 : wr.drew.cell? ⟨w.heap.size + 1, 0, none⟩ = some (.slice (some ⟨g', off', none⟩) ps.length uc) := b1
    have d1 : wr.drew.cell? ⟨g, off + i, none⟩ = some (.slice xo p.length xc) := cx
    have f1 : wr.drew.cell? ⟨g', off' + i, none⟩ = some (.slice yo p.length yc) := cy
    clear a0 b1 cx cy bl2
    generalize wr.drew = w3 at *
    go_wp2_with fail
    go_loopw [6] (fun q wr => ∃ k : Nat, k ≤ p.length ∧ q = .int .i64 k ∧ Below w3.heap.size w3 wr) (fun q _ => p.length - (intOf q).toNat)
    case atStart => exact ⟨0, Nat.zero_le _, rfl, Below.refl _ _⟩
    case round =>
     obtain ⟨k, hk, rfl, bk⟩ := hrel
     have HBK : Hid (Below w3.heap.size w3 wr) := bk
     have z3 := HB2.out.size
     have a0 := (bk.cell (World.block_lt_of_cell? _ _ a1)).trans a1
     have b1 := (bk.cell (World.block_lt_of_cell? _ _ c1)).trans c1
     have cx := (bk.cell (World.block_lt_of_cell? _ _ d1)).trans d1
     have cy := (bk.cell (World.block_lt_of_cell? _ _ f1)).trans f1
     by_cases hkl : k < p.length
     · have hklI : (k : Int) < (p.length : Int) := by omega
       obtain ⟨gx, ox, rfl, x0, x1, x2⟩ := hx k p[k] (by simp)
       obtain ⟨gy, oy, rfl, y0, y1, y2⟩ := hy k p[k] (by simp)
       have zx := World.block_lt_of_cell? w _ x0
       have zy := World.block_lt_of_cell? w _ y0
       have bw3 : Below w.heap.size w wr := b0.trans ((HB2.out.trans (bk.mono z3)).mono b0.size)
       have x0 := (bw3.cell (p := ⟨gx, ox + k * 3, none⟩) zx).trans x0
       have x1 := (bw3.cell (p := ⟨gx, ox + k * 3 + 1, none⟩) zx).trans x1
       have x2 := (bw3.cell (p := ⟨gx, ox + k * 3 + 2, none⟩) zx).trans x2
       have y0 := (bw3.cell (p := ⟨gy, oy + k * 3, none⟩) zy).trans y0
       have y1 := (bw3.cell (p := ⟨gy, oy + k * 3 + 1, none⟩) zy).trans y1
       have y2 := (bw3.cell (p := ⟨gy, oy + k * 3 + 2, none⟩) zy).trans y2
       clear hx hy
       generalize p[k] = s at *
       obtain ⟨sk, sx, sy⟩ := s
       simp only at x0 x1 x2 y0 y1 y2
       go_wp2_with fail
       refine wp_region_held_drew (S := fun w' => w'.cell? ⟨w.heap.size, 0, none⟩ = some (.slice (some ⟨g, off, none⟩) ps.length vc) ∧ w'.cell? ⟨w.heap.size + 1, 0, none⟩ = some (.slice (some ⟨g', off', none⟩) ps.length uc) ∧ w'.cell? ⟨g, off + i, none⟩ = some (.slice (some ⟨gx, ox, none⟩) p.length xc) ∧ w'.cell? ⟨g', off' + i, none⟩ = some (.slice (some ⟨gy, oy, none⟩) p.length yc) ∧ w'.cell? ⟨gx, ox + k * 3, none⟩ = some (.int .i64 sk) ∧ w'.cell? ⟨gx, ox + k * 3 + 1, none⟩ = some (.int .i64 sx) ∧ w'.cell? ⟨gx, ox + k * 3 + 2, none⟩ = some (.int .i64 sy) ∧ w'.cell? ⟨gy, oy + k * 3, none⟩ = some (.int .i64 sk) ∧ w'.cell? ⟨gy, oy + k * 3 + 1, none⟩ = some (.int .i64 sx) ∧ w'.cell? ⟨gy, oy + k * 3 + 2, none⟩ = some (.int .i64 sy)) (by kernel_rfl) ⟨a0, b1, cx, cy, x0, x1, x2, y0, y1, y2⟩ (fun hHl => ?_)
       refine wpAnyH_take (i := 0) (oi := ?oilb0) (v := .pointer (some ⟨w.heap.size, 0, none⟩)) ?_ (by kernel_rfl) (by kernel_rfl) (by kernel_rfl) ?_ ?_ hHl ?_
       rotate_left
       · simp only [gA, gB, gC]; rfl
       · exact fun _ _ _ h => h
       · exact Or.inl ⟨by kernel_rfl, fun w hSw => by go_simp⟩
       try simp only [Act.put, gD, gE, gF]
       refine wpAnyH_take (i := 1) (oi := ?oilb1) (v := .slice (some ⟨g, off, none⟩) ps.length vc) ?_ (by kernel_rfl) (by kernel_rfl) (by kernel_rfl) ?_ ?_ hHl ?_
       rotate_left
       · simp only [gA, gB, gC]; rfl
       · exact fun _ _ _ h => h
       · exact Or.inl ⟨by kernel_rfl, fun w hSw => by obtain ⟨s1, s2, s3, s4, s5, s6, s7, s8, s9, s10⟩ := hSw; go_simp⟩
       try simp only [Act.put, gD, gE, gF]
       refine wpAnyH_take (i := 2) (oi := ?oilb2) (v := .int .i64 (i : Int)) ?_ (by kernel_rfl) (by kernel_rfl) (by kernel_rfl) ?_ ?_ hHl ?_
       rotate_left
       · simp only [gA, gB, gC]; rfl
       · exact fun _ _ _ h => h
       · exact Or.inl ⟨by kernel_rfl, fun w hSw => by go_simp⟩
       try simp only [Act.put, gD, gE, gF]
       refine wpAnyH_take (i := 3) (oi := ?oilb3) (v := .pointer (some ⟨g, off + i, none⟩)) ?_ (by kernel_rfl) (by kernel_rfl) (by kernel_rfl) ?_ ?_ hHl ?_
       rotate_left
       · simp only [gA, gB, gC]; rfl
       · exact fun _ _ _ h => h
       · exact Or.inl ⟨by kernel_rfl, fun w hSw => by go_simp⟩
       try simp only [Act.put, gD, gE, gF]
       refine wpAnyH_take (i := 4) (oi := ?oilb4) (v := .pointer (some ⟨g, off + i, none⟩)) ?_ (by kernel_rfl) (by kernel_rfl) (by kernel_rfl) ?_ ?_ hHl ?_
       rotate_left
       · simp only [gA, gB, gC]; rfl
       · exact fun _ _ _ h => h
       · exact Or.inl ⟨by kernel_rfl, fun w hSw => by go_simp⟩
       try simp only [Act.put, gD, gE, gF]
       refine wpAnyH_take (i := 5) (oi := ?oilb5) (v := .slice (some ⟨gx, ox, none⟩) p.length xc) ?_ (by kernel_rfl) (by kernel_rfl) (by kernel_rfl) ?_ ?_ hHl ?_
       rotate_left
       · simp only [gA, gB, gC]; rfl
       · exact fun _ _ _ h => h
       · exact Or.inl ⟨by kernel_rfl, fun w hSw => by obtain ⟨s1, s2, s3, s4, s5, s6, s7, s8, s9, s10⟩ := hSw; go_simp⟩
       try simp only [Act.put, gD, gE, gF]
       refine wpAnyH_take (i := 6) (oi := ?oilb6) (v := .int .i64 (k : Int)) ?_ (by kernel_rfl) (by kernel_rfl) (by kernel_rfl) ?_ ?_ hHl ?_
       rotate_left
       · simp only [gA, gB, gC]; rfl
       · exact fun _ _ _ h => h
       · exact Or.inl ⟨by kernel_rfl, fun w hSw => by go_simp⟩
       try simp only [Act.put, gD, gE, gF]
       refine wpAnyH_take (i := 7) (oi := ?oilb7) (v := .pointer (some ⟨gx, ox + k * 3, none⟩)) ?_ (by kernel_rfl) (by kernel_rfl) (by kernel_rfl) ?_ ?_ hHl ?_
       rotate_left
       · simp only [gA, gB, gC]; rfl
       · exact fun _ _ _ h => h
       · exact Or.inl ⟨by kernel_rfl, fun w hSw => by go_simp⟩
       try simp only [Act.put, gD, gE, gF]
       refine wpAnyH_take (i := 8) (oi := ?oilb8) (v := .agg #[.int .i64 sk, .int .i64 sx, .int .i64 sy]) ?_ (by kernel_rfl) (by kernel_rfl) (by kernel_rfl) ?_ ?_ hHl ?_
       rotate_left
       · simp only [gA, gB, gC]; rfl
       · exact fun _ _ _ h => h
       · exact Or.inl ⟨by kernel_rfl, fun w hSw => by obtain ⟨s1, s2, s3, s4, s5, s6, s7, s8, s9, s10⟩ := hSw; go_simp⟩
       try simp only [Act.put, gD, gE, gF]
       refine wpAnyH_take (i := 9) (oi := ?oilb9) (v := .pointer (some ⟨w.heap.size + 1, 0, none⟩)) ?_ (by kernel_rfl) (by kernel_rfl) (by kernel_rfl) ?_ ?_ hHl ?_
       rotate_left
       · simp only [gA, gB, gC]; rfl
       · exact fun _ _ _ h => h
       · exact Or.inl ⟨by kernel_rfl, fun w hSw => by go_simp⟩
       try simp only [Act.put, gD, gE, gF]
       refine wpAnyH_take (i := 10) (oi := ?oilb10) (v := (.slice (some ⟨g', off', none⟩) ps.length uc)) ?_ (by kernel_rfl) (by kernel_rfl) (by kernel_rfl) ?_ ?_ hHl ?_
       rotate_left
       · simp only [gA, gB, gC]; rfl
       · exact fun _ _ _ h => h
       · exact Or.inl ⟨by kernel_rfl, fun w hSw => by obtain ⟨s1, s2, s3, s4, s5, s6, s7, s8, s9, s10⟩ := hSw; go_simp⟩
       try simp only [Act.put, gD, gE, gF]
       refine wpAnyH_take (i := 11) (oi := ?oilb11) (v := .int .i64 (i : Int)) ?_ (by kernel_rfl) (by kernel_rfl) (by kernel_rfl) ?_ ?_ hHl ?_
       rotate_left
       · simp only [gA, gB, gC]; rfl
       · exact fun _ _ _ h => h
       · exact Or.inl ⟨by kernel_rfl, fun w hSw => by go_simp⟩
       try simp only [Act.put, gD, gE, gF]
       refine wpAnyH_take (i := 12) (oi := ?oilb12) (v := .pointer (some ⟨g', off' + i, none⟩)) ?_ (by kernel_rfl) (by kernel_rfl) (by kernel_rfl) ?_ ?_ hHl ?_
       rotate_left
       · simp only [gA, gB, gC]; rfl
       · exact fun _ _ _ h => h
       · exact Or.inl ⟨by kernel_rfl, fun w hSw => by go_simp⟩
       try simp only [Act.put, gD, gE, gF]
       refine wpAnyH_take (i := 13) (oi := ?oilb13) (v := .pointer (some ⟨g', off' + i, none⟩)) ?_ (by kernel_rfl) (by kernel_rfl) (by kernel_rfl) ?_ ?_ hHl ?_
       rotate_left
       · simp only [gA, gB, gC]; rfl
       · exact fun _ _ _ h => h
       · exact Or.inl ⟨by kernel_rfl, fun w hSw => by go_simp⟩
       try simp only [Act.put, gD, gE, gF]
       refine wpAnyH_take (i := 14) (oi := ?oilb14) (v := .slice (some ⟨gy, oy, none⟩) p.length yc) ?_ (by kernel_rfl) (by kernel_rfl) (by kernel_rfl) ?_ ?_ hHl ?_
       rotate_left
       · simp only [gA, gB, gC]; rfl
       · exact fun _ _ _ h => h
       · exact Or.inl ⟨by kernel_rfl, fun w hSw => by obtain ⟨s1, s2, s3, s4, s5, s6, s7, s8, s9, s10⟩ := hSw; go_simp⟩
       try simp only [Act.put, gD, gE, gF]
       refine wpAnyH_take (i := 15) (oi := ?oilb15) (v := .int .i64 (k : Int)) ?_ (by kernel_rfl) (by kernel_rfl) (by kernel_rfl) ?_ ?_ hHl ?_
       rotate_left
       · simp only [gA, gB, gC]; rfl
       · exact fun _ _ _ h => h
       · exact Or.inl ⟨by kernel_rfl, fun w hSw => by go_simp⟩
       try simp only [Act.put, gD, gE, gF]
       refine wpAnyH_take (i := 16) (oi := ?oilb16) (v := .pointer (some ⟨gy, oy + k * 3, none⟩)) ?_ (by kernel_rfl) (by kernel_rfl) (by kernel_rfl) ?_ ?_ hHl ?_
       rotate_left
       · simp only [gA, gB, gC]; rfl
       · exact fun _ _ _ h => h
       · exact Or.inl ⟨by kernel_rfl, fun w hSw => by go_simp⟩
       try simp only [Act.put, gD, gE, gF]
       refine wpAnyH_take (i := 17) (oi := ?oilb17) (v := .agg #[.int .i64 sk, .int .i64 sx, .int .i64 sy]) ?_ (by kernel_rfl) (by kernel_rfl) (by kernel_rfl) ?_ ?_ hHl ?_
       rotate_left
       · simp only [gA, gB, gC]; rfl
       · exact fun _ _ _ h => h
       · exact Or.inl ⟨by kernel_rfl, fun w hSw => by obtain ⟨s1, s2, s3, s4, s5, s6, s7, s8, s9, s10⟩ := hSw; go_simp⟩
       try simp only [Act.put, gD, gE, gF]
       refine wpAnyH_take (i := 18) (oi := ?oilb18) (v := .bool false) ?_ (by kernel_rfl) (by kernel_rfl) (by kernel_rfl) ?_ ?_ hHl ?_
       rotate_left
       · simp only [gA, gB, gC]; rfl
       · exact fun _ _ _ h => h
       · exact Or.inl ⟨by kernel_rfl, fun w hSw => by go_simp⟩
       try simp only [Act.put, gD, gE, gF]
       refine wpAnyH_done (by kernel_rfl) ?_ _
       have HB5 : Hid (Below w3.heap.size w3 wr.drew) := HBK.out.drew
       generalize wr.drew = w5 at *
       go_wp2
       go_roundw
       case rel => exact ⟨k + 1, by omega, by go_num, HB5.out⟩
       case measure => simp [intOf]; omega
     · have hkk : k = p.length := by omega
       have HB4 : Hid (Below W0.heap.size W0 wr) := HB2.out.trans (bk.mono z3)
       clear hx hy
       go_wp2
       go_roundw
       case rel => exact ⟨i + 1, by omega, by go_num, HB4.out⟩
       case measure => simp [intOf]; omega
  · have hii : i = ps.length := by omega
    clear hc hd
    go_wp2
    go_ret
    exact ⟨rfl, bw⟩
end Go.Proofs.YtldagpfeaabcdaaGreatDoor
