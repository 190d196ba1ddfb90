/-
  The law FnExactEffect.
-/
import Derived.Test.YtneeomhcbigjpaaSpecTop
import Derived.Test.YtneeomhcbigjpaaImplInner
import Derived.Test.YtneeomhcbigjpaaMarkProg
import Derived.Lib.SmallJoins
namespace Go.Proofs.Ytneeomhcbigjpaa
open Go.ChangeShapes Go.WideShapes Go.ChangeAt Go.RowKit Go.Joins
set_option linter.unusedVariables false
set_option linter.unusedSimpArgs false
set_option maxHeartbeats 4000000
set_option maxRecDepth 20000

theorem walkEffect (ps : List (List Stm)) (c : Int) (s : Stm) (v : Value) (w : World) (hl : ps.length ≤ maxLen) (hp : ∀ p ∈ ps, p.length ≤ maxLen) (hv : ReadsP w v ps) :
    Calls Try.prog 4 #[.agg #[v], .int .i64 c, .agg #[.int .i64 s.k, .int .i64 s.x, .int .i64 s.y]] w fun e w' => e = .returned (.bool true) ∧ Below w.heap.size w w' := by
  obtain ⟨A, hA0, hA⟩ := effA_some ps c s
  have hsp := specEffect ps c s A hA0
  have him := implEffect ps c s A hA0
  obtain ⟨sk, sx, sy⟩ := s
  dsimp only at hsp him ⊢
  clear hA0
  have hA' : A.length ≤ maxLen := by unfold maxLen; omega
  have b0 : Below w.heap.size w ((w.alloc (.cells #[v] 24)).alloc (.cells #[.int .i64 sk, .int .i64 sx, .int .i64 sy] 38)) := by go_grown
  have s0 : ((w.alloc (.cells #[v] 24)).alloc (.cells #[.int .i64 sk, .int .i64 sx, .int .i64 sy] 38)).heap.size = w.heap.size + 1 + 1 := by simp
  have B0 : ((w.alloc (.cells #[v] 24)).alloc (.cells #[.int .i64 sk, .int .i64 sx, .int .i64 sy] 38)).heap[w.heap.size]? = some (.cells #[v] 24 (0, 0)) := by
    rw [old_block (by simp)]; exact heap_alloc_new w _
  have K0 : ((w.alloc (.cells #[v] 24)).alloc (.cells #[.int .i64 sk, .int .i64 sx, .int .i64 sy] 38)).heap[w.heap.size + 1]? = some (.cells #[.int .i64 sk, .int .i64 sx, .int .i64 sy] 38 (0, 0)) := by
    have := heap_alloc_new (w.alloc (.cells #[v] 24)) (.cells #[.int .i64 sk, .int .i64 sx, .int .i64 sy] 38)
    simpa using this
  have hsz := szProgram ps v _ hl hp (readsP_below hv b0)
  go_enter Try.func4, Try.ntmps4
  go_wp2_with fail
  go_at_call 7
  refine hsz.mono ?_
  rintro e w1 ⟨z, rfl, hz, b1⟩
  clear hsz
  have s1 := b1.size
  have L1 : Below w.heap.size w w1 := b0.trans (b1.mono (by omega))
  by_cases h0 : z < 0
  · have hx : (decide (z < 0)) = true := by simpa using h0
    clear hz
    go_wp2
    go_ret
    exact ⟨rfl, L1⟩
  have hx : (decide (z < 0)) = false := by simpa using h0
  obtain ⟨hl', hp'⟩ := hz (by omega)
  have H1 := (b1.block w.heap.size (by omega)).trans B0
  have K1 := (b1.block (w.heap.size + 1) (by omega)).trans K0
  obtain ⟨c1, f1⟩ := one_cell H1
  obtain ⟨t1, t2, t3, _⟩ := three_cells' K1
  have p0 := c1
  have zp : w.heap.size < w1.heap.size := by omega
  have zq : w.heap.size + 1 < w1.heap.size := by omega
  go_wp2_with fail
  refine wp_region_held_drew (S := (fun w' => w'.cell? ⟨w.heap.size, 0, none⟩ = some v ∧ w'.cell? ⟨w.heap.size + 1, 0, none⟩ = some (.int .i64 sk) ∧ w'.cell? ⟨w.heap.size + 1, 1, none⟩ = some (.int .i64 sx) ∧ w'.cell? ⟨w.heap.size + 1, 2, none⟩ = some (.int .i64 sy))) (by kernel_rfl) ⟨p0, t1, t2, t3⟩ (fun hHeld => ?_)
  refine wpAnyH_take (i := 0) (oi := ?oiA0) (v := .agg #[v]) ?hiA0 (by kernel_rfl) (by kernel_rfl) (by kernel_rfl) ?hqA0 ?hyA0 hHeld ?hrA0
  case hiA0 =>
    simp only [List.getElem?_toArray, List.getElem?_cons_succ, List.getElem?_cons_zero]
    rfl
  case hqA0 => exact fun _ _ _ h => h
  case hyA0 => exact Or.inl ⟨by kernel_rfl, fun w hSw => by obtain ⟨s0, s1, s2, s3⟩ := hSw; go_simp⟩
  try simp only [Act.put, List.setIfInBounds_toArray, List.set_cons_zero, List.set_cons_succ]
  refine wpAnyH_take (i := 2) (oi := ?oiA2) (v := .int .i64 c) ?hiA2 (by kernel_rfl) (by kernel_rfl) (by kernel_rfl) ?hqA2 ?hyA2 hHeld ?hrA2
  case hiA2 =>
    simp only [List.getElem?_toArray, List.getElem?_cons_succ, List.getElem?_cons_zero]
    rfl
  case hqA2 => exact fun _ _ _ h => h
  case hyA2 => exact Or.inl ⟨by kernel_rfl, fun w hSw => by go_simp⟩
  try simp only [Act.put, List.setIfInBounds_toArray, List.set_cons_zero, List.set_cons_succ]
  refine wpAnyH_take (i := 3) (oi := ?oiA3) (v := .agg #[.int .i64 sk, .int .i64 sx, .int .i64 sy]) ?hiA3 (by kernel_rfl) (by kernel_rfl) (by kernel_rfl) ?hqA3 ?hyA3 hHeld ?hrA3
  case hiA3 =>
    simp only [List.getElem?_toArray, List.getElem?_cons_succ, List.getElem?_cons_zero]
    rfl
  case hqA3 => exact fun _ _ _ h => h
  case hyA3 => exact Or.inl ⟨by kernel_rfl, fun w hSw => by obtain ⟨s0, s1, s2, s3⟩ := hSw; go_simp⟩
  try simp only [Act.put, List.setIfInBounds_toArray, List.set_cons_zero, List.set_cons_succ]
  refine wpAnyH_ready (rs := [1]) (by kernel_rfl) (by simp) ?_
  refine AllReadyH.cons (o := ?ooA1) ?hoA1 (fun K hK => ?_) AllReadyH.nil
  case hoA1 =>
    simp only [List.getElem?_toArray, List.getElem?_cons_succ, List.getElem?_cons_zero]
    rfl
  go_simp
  go_at_call 9
  refine (toProgram ps v _ hl' hp' (readsP_below hv (L1.trans (Below.mono (by go_grown) L1.size)))).mono ?_
  rintro e w2a ⟨uA, rfl, ouA, baA⟩
  have MaA : Below w1.heap.size w1 w2a := Below.trans (by go_grown) baA
  obtain ⟨qaA, -⟩ := bcell MaA
  go_wp2_with fail
  refine hK.out _ _ ⟨(qaA _ _ zp).trans p0, (qaA _ _ zq).trans t1, (qaA _ _ zq).trans t2, (qaA _ _ zq).trans t3⟩ (fun hHeld => ?_)
  clear hK K
  try simp only [Act.put, List.setIfInBounds_toArray, List.set_cons_zero, List.set_cons_succ]
  refine wpAnyH_ready (rs := [4]) (by kernel_rfl) (by simp) ?_
  refine AllReadyH.cons (o := ?ooA4) ?hoA4 (fun K hK => ?_) AllReadyH.nil
  case hoA4 =>
    simp only [List.getElem?_toArray, List.getElem?_cons_succ, List.getElem?_cons_zero]
    rfl
  go_simp
  go_at_call 17
  refine (toStmt sk sx sy _).mono ?_
  rintro e w2b ⟨rfl, bbA⟩
  have ouA := ownP_kept ouA bbA
  have MbA := MaA.trans (bbA.mono MaA.size)
  obtain ⟨qbA, -⟩ := bcell MbA
  go_wp2_with fail
  refine hK.out _ _ ⟨(qbA _ _ zp).trans p0, (qbA _ _ zq).trans t1, (qbA _ _ zq).trans t2, (qbA _ _ zq).trans t3⟩ (fun hHeld => ?_)
  clear hK K
  try simp only [Act.put, List.setIfInBounds_toArray, List.set_cons_zero, List.set_cons_succ]
  refine wpAnyH_ready (rs := [5]) (by kernel_rfl) (by simp) ?_
  refine AllReadyH.cons (o := ?ooA5) ?hoA5 (fun K hK => ?_) AllReadyH.nil
  case hoA5 =>
    simp only [List.getElem?_toArray, List.getElem?_cons_succ, List.getElem?_cons_zero]
    rfl
  go_simp
  go_at_call 16
  refine (hsp uA w2b hl hp (readsP_own ouA)).mono ?_
  rintro e w3 ⟨a, rfl, oa, bcA⟩
  have McA := MbA.trans (bcA.mono MbA.size)
  obtain ⟨qcA, -⟩ := bcell McA
  go_wp2_with fail
  refine hK.out _ _ ⟨(qcA _ _ zp).trans p0, (qcA _ _ zq).trans t1, (qcA _ _ zq).trans t2, (qcA _ _ zq).trans t3⟩ (fun hHeld => ?_)
  clear hK K
  try simp only [Act.put, List.setIfInBounds_toArray, List.set_cons_zero, List.set_cons_succ]
  refine wpAnyH_take (i := 6) (oi := ?oiA6) (v := a) ?hiA6 (by kernel_rfl) (by kernel_rfl) (by kernel_rfl) ?hqA6 ?hyA6 hHeld ?hrA6
  case hiA6 =>
    simp only [List.getElem?_toArray, List.getElem?_cons_succ, List.getElem?_cons_zero]
    rfl
  case hqA6 => exact fun _ _ _ h => h
  case hyA6 => exact Or.inl ⟨by kernel_rfl, fun w hSw => by go_simp⟩
  try simp only [Act.put, List.setIfInBounds_toArray, List.set_cons_zero, List.set_cons_succ]
  refine wpAnyH_done (by kernel_rfl) ?_ _
  have b3 : Below w1.heap.size w1 w3 := McA
  have L2 := L1
  have s2 := s1
  have H2 : Hid _ := H1
  have K2 : Hid _ := K1
  clear c1 f1 p0 t1 t2 t3 zp zq qaA qbA qcA baA bbA bcA MaA MbA McA
  have ou := ouA
  clear ouA
  have s3 := b3.size
  have alt : ∀ k, a.ownBlock = some k → k < w3.heap.size := fun k hk => (oa.lt k hk).2
  have L3 : Below w.heap.size w w3 := L2.trans (b3.mono (by omega))
  have H3 : Hid _ := (b3.block w.heap.size (by omega)).trans H2.out
  have K3 : Hid _ := (b3.block (w.heap.size + 1) (by omega)).trans K2.out
  obtain ⟨c1, f1⟩ := one_cell H3.out
  clear H2 ou
  go_wp2_with fail
  go_at_call 9
  refine (toProgram ps v w3 hl' hp' (readsP_below hv L3)).mono ?_
  rintro e w4 ⟨x0, rfl, ox, b4⟩
  have s4 := b4.size
  have L4 : Below w.heap.size w w4 := L3.trans (b4.mono (by omega))
  have H4 : Hid _ := (b4.block w.heap.size (by omega)).trans H3.out
  have K4 : Hid _ := (b4.block (w.heap.size + 1) (by omega)).trans K3.out
  have oa := own_kept oa b4
  clear c1 f1 H3
  have L5 : Below w.heap.size w (w4.alloc (.cells #[x0] 30)) := L4.alloc (by omega) _
  have b5 : Below w4.heap.size w4 (w4.alloc (.cells #[x0] 30)) := by go_grown
  have s5 : (w4.alloc (.cells #[x0] 30)).heap.size = w4.heap.size + 1 := by simp
  have H5 : Hid _ := (b5.block w.heap.size (by omega)).trans H4.out
  have K5 : Hid _ := (b5.block (w.heap.size + 1) (by omega)).trans K4.out
  have X5 : Hid _ := heap_alloc_new w4 (.cells #[x0] 30)
  have ox := ownP_kept ox b5
  have oa := own_kept oa b5
  obtain ⟨xa, xn, xc, rfl⟩ := ownP_slice ox
  clear H4
  obtain ⟨w5, hw5⟩ : ∃ z, w4.alloc (.cells #[.slice xa xn xc] 30) = z := ⟨_, rfl⟩
  have HW5 : Hid _ := hw5
  rw [hw5] at L5 b5 s5 H5 K5 X5 ox oa
  obtain ⟨t1, t2, t3, _⟩ := three_cells' K5.out
  obtain ⟨p0, _⟩ := one_cell X5.out
  have zp : w4.heap.size < w5.heap.size := by omega
  have zq : w.heap.size + 1 < w5.heap.size := by omega
  have ox5 := ox
  clear hw5
  go_wp2_with fail
  rw [HW5.out]
  refine wp_region_held_drew (S := (fun w' => w'.cell? ⟨w4.heap.size, 0, none⟩ = some (.slice xa xn xc) ∧ w'.cell? ⟨w.heap.size + 1, 0, none⟩ = some (.int .i64 sk) ∧ w'.cell? ⟨w.heap.size + 1, 1, none⟩ = some (.int .i64 sx) ∧ w'.cell? ⟨w.heap.size + 1, 2, none⟩ = some (.int .i64 sy))) (by kernel_rfl) ⟨p0, t1, t2, t3⟩ (fun hHeld => ?_)
  refine wpAnyH_take (i := 0) (oi := ?oiB0) (v := .agg #[.slice xa xn xc]) ?hiB0 (by kernel_rfl) (by kernel_rfl) (by kernel_rfl) ?hqB0 ?hyB0 hHeld ?hrB0
  case hiB0 =>
    simp only [List.getElem?_toArray, List.getElem?_cons_succ, List.getElem?_cons_zero]
    rfl
  case hqB0 => exact fun _ _ _ h => h
  case hyB0 => exact Or.inl ⟨by kernel_rfl, fun w hSw => by obtain ⟨s0, s1, s2, s3⟩ := hSw; go_simp⟩
  try simp only [Act.put, List.setIfInBounds_toArray, List.set_cons_zero, List.set_cons_succ]
  refine wpAnyH_take (i := 1) (oi := ?oiB1) (v := .int .i64 c) ?hiB1 (by kernel_rfl) (by kernel_rfl) (by kernel_rfl) ?hqB1 ?hyB1 hHeld ?hrB1
  case hiB1 =>
    simp only [List.getElem?_toArray, List.getElem?_cons_succ, List.getElem?_cons_zero]
    rfl
  case hqB1 => exact fun _ _ _ h => h
  case hyB1 => exact Or.inl ⟨by kernel_rfl, fun w hSw => by go_simp⟩
  try simp only [Act.put, List.setIfInBounds_toArray, List.set_cons_zero, List.set_cons_succ]
  refine wpAnyH_take (i := 2) (oi := ?oiB2) (v := .agg #[.int .i64 sk, .int .i64 sx, .int .i64 sy]) ?hiB2 (by kernel_rfl) (by kernel_rfl) (by kernel_rfl) ?hqB2 ?hyB2 hHeld ?hrB2
  case hiB2 =>
    simp only [List.getElem?_toArray, List.getElem?_cons_succ, List.getElem?_cons_zero]
    rfl
  case hqB2 => exact fun _ _ _ h => h
  case hyB2 => exact Or.inl ⟨by kernel_rfl, fun w hSw => by obtain ⟨s0, s1, s2, s3⟩ := hSw; go_simp⟩
  try simp only [Act.put, List.setIfInBounds_toArray, List.set_cons_zero, List.set_cons_succ]
  refine wpAnyH_ready (rs := [3]) (by kernel_rfl) (by simp) ?_
  refine AllReadyH.cons (o := ?ooB3) ?hoB3 (fun K hK => ?_) AllReadyH.nil
  case hoB3 =>
    simp only [List.getElem?_toArray, List.getElem?_cons_succ, List.getElem?_cons_zero]
    rfl
  go_simp
  go_at_call 17
  refine (toStmt sk sx sy _).mono ?_
  rintro e w5b ⟨rfl, bbB⟩
  have MbB : Below w5.heap.size w5 w5b := Below.trans (by go_grown) bbB
  have ox := ownP_kept ox MbB
  obtain ⟨qbB, -⟩ := bcell MbB
  go_wp2_with fail
  refine hK.out _ _ ⟨(qbB _ _ zp).trans p0, (qbB _ _ zq).trans t1, (qbB _ _ zq).trans t2, (qbB _ _ zq).trans t3⟩ (fun hHeld => ?_)
  clear hK K
  try simp only [Act.put, List.setIfInBounds_toArray, List.set_cons_zero, List.set_cons_succ]
  refine wpAnyH_ready (rs := [4]) (by kernel_rfl) (by simp) ?_
  refine AllReadyH.cons (o := ?ooB4) ?hoB4 (fun K hK => ?_) AllReadyH.nil
  case hoB4 =>
    simp only [List.getElem?_toArray, List.getElem?_cons_succ, List.getElem?_cons_zero]
    rfl
  go_simp
  go_at_call 18
  refine (him _ w5b hl hp (readsP_own ox)).mono ?_
  rintro e w6 ⟨g, rfl, og, bcB⟩
  have McB := MbB.trans (bcB.mono MbB.size)
  obtain ⟨qcB, -⟩ := bcell McB
  go_wp2_with fail
  refine hK.out _ _ ⟨(qcB _ _ zp).trans p0, (qcB _ _ zq).trans t1, (qcB _ _ zq).trans t2, (qcB _ _ zq).trans t3⟩ (fun hHeld => ?_)
  clear hK K
  try simp only [Act.put, List.setIfInBounds_toArray, List.set_cons_zero, List.set_cons_succ]
  refine wpAnyH_take (i := 5) (oi := ?oiB5) (v := g) ?hiB5 (by kernel_rfl) (by kernel_rfl) (by kernel_rfl) ?hqB5 ?hyB5 hHeld ?hrB5
  case hiB5 =>
    simp only [List.getElem?_toArray, List.getElem?_cons_succ, List.getElem?_cons_zero]
    rfl
  case hqB5 => exact fun _ _ _ h => h
  case hyB5 => exact Or.inl ⟨by kernel_rfl, fun w hSw => by go_simp⟩
  try simp only [Act.put, List.setIfInBounds_toArray, List.set_cons_zero, List.set_cons_succ]
  refine wpAnyH_done (by kernel_rfl) ?_ _
  have b6 : Below w5.heap.size w5 w6 := McB
  have s6 := b6.size
  have s5b := MbB.size
  have og := own_mono og (show w4.heap.size + 1 ≤ w5b.heap.size by omega)
  rw [s5] at s6
  have ox := ox5
  clear ox5
  clear p0 t1 t2 t3 zp zq qbB qcB bbB bcB MbB McB HW5
  have gge : ∀ k, g.ownBlock = some k → w4.heap.size < k := fun k hk => by have := (og.lt k hk).1; omega
  have L6 : Below w.heap.size w w6 := L5.trans (b6.mono (by omega))
  have H6 : Hid _ := (b6.block w.heap.size (by omega)).trans H5.out
  have K6 : Hid _ := (b6.block (w.heap.size + 1) (by omega)).trans K5.out
  have X6 : Hid _ := (b6.block w4.heap.size (by omega)).trans X5.out
  have ox := ownP_kept ox b6
  have oa := own_kept oa b6
  clear H5 X5
  go_wp2_with fail
  go_at_call 19
  refine (eqInt64S A _ _ _ hA' (reads_own og) (reads_own oa)).mono ?_
  rintro e w7 ⟨rfl, b7⟩
  have s7 := b7.size
  have L7 : Below w.heap.size w w7 := L6.trans (b7.mono (by omega))
  have H7 : Hid _ := (b7.block w.heap.size (by omega)).trans H6.out
  have K7 : Hid _ := (b7.block (w.heap.size + 1) (by omega)).trans K6.out
  have X7 : Hid _ := (b7.block w4.heap.size (by omega)).trans X6.out
  have ox := ownP_kept ox b7
  have oa := own_kept oa b7
  have og := own_kept og b7
  clear H6 X6
  obtain ⟨c1, f1⟩ := one_cell H7.out
  obtain ⟨c2, f2⟩ := one_cell X7.out
  have z1 : w.heap.size < w7.heap.size := by omega
  have z2 : w4.heap.size < w7.heap.size := by omega
  have ht : ∀ W, Below w7.heap.size w7 W → _ := fun W hW => toProgram ps v W hl' hp' (readsP_below (readsP_below hv L7) hW)
  have rx := readsP_own ox
  go_wp2_with fail
  refine wp_region_held_drew (S := (fun w' => w'.cell? ⟨w4.heap.size, 0, none⟩ = some (.slice xa xn xc) ∧ w'.cell? ⟨w.heap.size, 0, none⟩ = some v)) (by kernel_rfl) ⟨c2, c1⟩ (fun hHeld => ?_)
  refine wpAnyH_take (i := 0) (oi := ?oiE0) (v := .agg #[.slice xa xn xc]) ?hiE0 (by kernel_rfl) (by kernel_rfl) (by kernel_rfl) ?hqE0 ?hyE0 hHeld ?hrE0
  case hiE0 =>
    simp only [List.getElem?_toArray, List.getElem?_cons_succ, List.getElem?_cons_zero]
    rfl
  case hqE0 => exact fun _ _ _ h => h
  case hyE0 => exact Or.inl ⟨by kernel_rfl, fun w hSw => by obtain ⟨s0, s1⟩ := hSw; go_simp⟩
  try simp only [Act.put, List.setIfInBounds_toArray, List.set_cons_zero, List.set_cons_succ]
  refine wpAnyH_take (i := 1) (oi := ?oiE1) (v := .agg #[v]) ?hiE1 (by kernel_rfl) (by kernel_rfl) (by kernel_rfl) ?hqE1 ?hyE1 hHeld ?hrE1
  case hiE1 =>
    simp only [List.getElem?_toArray, List.getElem?_cons_succ, List.getElem?_cons_zero]
    rfl
  case hqE1 => exact fun _ _ _ h => h
  case hyE1 => exact Or.inl ⟨by kernel_rfl, fun w hSw => by obtain ⟨s0, s1⟩ := hSw; go_simp⟩
  try simp only [Act.put, List.setIfInBounds_toArray, List.set_cons_zero, List.set_cons_succ]
  refine wpAnyH_ready (rs := [2]) (by kernel_rfl) (by simp) ?_
  refine AllReadyH.cons (o := ?ooE2) ?hoE2 (fun K hK => ?_) AllReadyH.nil
  case hoE2 =>
    simp only [List.getElem?_toArray, List.getElem?_cons_succ, List.getElem?_cons_zero]
    rfl
  go_simp
  go_at_call 9
  refine (ht _ (by go_grown)).mono ?_
  rintro e w8 ⟨y, rfl, oy, b8⟩
  have M8 : Below w7.heap.size w7 w8 := Below.trans (by go_grown) b8
  obtain ⟨hc8, hf8⟩ := bcell M8
  go_wp2_with fail
  refine hK.out _ _ ⟨(hc8 _ _ z2).trans c2, (hc8 _ _ z1).trans c1⟩ (fun hHeld => ?_)
  clear hK K
  try simp only [Act.put, List.setIfInBounds_toArray, List.set_cons_zero, List.set_cons_succ]
  refine wpAnyH_ready (rs := [3]) (by kernel_rfl) (by simp) ?_
  refine AllReadyH.cons (o := ?ooE3) ?hoE3 (fun K hK => ?_) AllReadyH.nil
  case hoE3 =>
    simp only [List.getElem?_toArray, List.getElem?_cons_succ, List.getElem?_cons_zero]
    rfl
  go_simp
  go_at_call 12
  refine (eqProgram ps _ y w8 hl hp (readsP_below rx M8) (readsP_own oy)).mono ?_
  rintro e w9 ⟨rfl, b9'⟩
  have b9 : Below w7.heap.size w7 w9 := M8.trans (b9'.mono M8.size)
  obtain ⟨hc9, hf9⟩ := bcell b9
  go_wp2_with fail
  refine hK.out _ _ ⟨(hc9 _ _ z2).trans c2, (hc9 _ _ z1).trans c1⟩ (fun hHeld => ?_)
  clear hK K
  try simp only [Act.put, List.setIfInBounds_toArray, List.set_cons_zero, List.set_cons_succ]
  refine wpAnyH_take (i := 4) (oi := ?oiE4) (v := .bool false) ?hiE4 (by kernel_rfl) (by kernel_rfl) (by kernel_rfl) ?hqE4 ?hyE4 hHeld ?hrE4
  case hiE4 =>
    simp only [List.getElem?_toArray, List.getElem?_cons_succ, List.getElem?_cons_zero]
    rfl
  case hqE4 => exact fun _ _ _ h => h
  case hyE4 => exact Or.inl ⟨by kernel_rfl, fun w hSw => by go_simp⟩
  try simp only [Act.put, List.setIfInBounds_toArray, List.set_cons_zero, List.set_cons_succ]
  refine wpAnyH_done (by kernel_rfl) ?_ _
  clear hc8 hf8 hc9 hf9 c1 f1 c2 f2 oy b8 M8 b9' rx
  have s9 := b9.size
  have L9 : Below w.heap.size w w9 := L7.trans (b9.mono (by omega))
  have H9 : Hid _ := (b9.block w.heap.size (by omega)).trans H7.out
  have K9 : Hid _ := (b9.block (w.heap.size + 1) (by omega)).trans K7.out
  have X9 : Hid _ := (b9.block w4.heap.size (by omega)).trans X7.out
  have ox := ownP_kept ox b9
  have oa := own_kept oa b9
  have og := own_kept og b9
  clear H7 X7
  obtain ⟨c2, f2⟩ := one_cell X9.out
  go_wp2_with fail
  go_at_call 13
  refine (markProgram ps _ w3.heap.size w4.heap.size w9 hl' hp' ox).mono ?_
  rintro e w10 ⟨r, rfl, hr, m10⟩
  have s10 := m10.size
  have L10 : Below w.heap.size w w10 := L9.trans (m10.below (by omega) (by omega))
  have H10 : Hid _ := (m10.out w.heap.size (by omega) (.inl (by omega))).trans H9.out
  have K10 : Hid _ := (m10.out (w.heap.size + 1) (by omega) (.inl (by omega))).trans K9.out
  have oa := own_marks oa m10 (fun k hk => .inl (alt k hk))
  have og := own_marks og m10 (fun k hk => .inr (by have := gge k hk; omega))
  have hk0 : (decide (r < 0)) = false := by simp; omega
  clear c2 f2 H9 X9 ox
  go_wp2_with fail
  go_at_call 19
  refine (eqInt64S A _ _ _ hA' (reads_own og) (reads_own oa)).mono ?_
  rintro e w11 ⟨rfl, b11⟩
  have s11 := b11.size
  have L11 : Below w.heap.size w w11 := L10.trans (b11.mono (by omega))
  have H11 : Hid _ := (b11.block w.heap.size (by omega)).trans H10.out
  have K11 : Hid _ := (b11.block (w.heap.size + 1) (by omega)).trans K10.out
  have oa := own_kept oa b11
  have og := own_kept og b11
  have hmk := markInt64S (ints A) g (w4.heap.size + 1) 1 w11 (by rw [ints_length]; omega) (by omega) (by omega) (by omega) (by rw [ints_length]; exact og)
  rw [ints_length] at hmk
  go_wp2_with fail
  go_at_call 20
  refine hmk.mono ?_
  rintro e w12 ⟨rfl, og, b12, _⟩
  clear hmk
  have s12 := b12.size
  have L12 : Below w.heap.size w w12 := L11.trans (b12.mono (by omega))
  have H12 : Hid _ := (b12.block w.heap.size (by omega)).trans H11.out
  have K12 : Hid _ := (b12.block (w.heap.size + 1) (by omega)).trans K11.out
  have oa := own_below oa b12 (fun k hk => by have := alt k hk; omega)
  go_wp2_with fail
  go_at_call 21
  refine (heldInt64S A.length g 1 w12 (by omega) (by omega) (by omega) (reads_own og)).mono ?_
  rintro e w13 ⟨rfl, b13⟩
  have s13 := b13.size
  have L13 : Below w.heap.size w w13 := L12.trans (b13.mono (by omega))
  have H13 : Hid _ := (b13.block w.heap.size (by omega)).trans H12.out
  have K13 : Hid _ := (b13.block (w.heap.size + 1) (by omega)).trans K12.out
  have oa := own_kept oa b13
  have og := own_kept og b13
  have hq0 : (decide ((1 : Int) + (A.length : Int) < 0)) = false := by simp; omega
  obtain ⟨t1, t2, t3, _⟩ := three_cells' K13.out
  obtain ⟨p0, _⟩ := one_cell H13.out
  have zp : w.heap.size < w13.heap.size := by omega
  have zq : w.heap.size + 1 < w13.heap.size := by omega
  go_wp2_with fail
  refine wp_region_held_drew (S := (fun w' => w'.cell? ⟨w.heap.size, 0, none⟩ = some v ∧ w'.cell? ⟨w.heap.size + 1, 0, none⟩ = some (.int .i64 sk) ∧ w'.cell? ⟨w.heap.size + 1, 1, none⟩ = some (.int .i64 sx) ∧ w'.cell? ⟨w.heap.size + 1, 2, none⟩ = some (.int .i64 sy))) (by kernel_rfl) ⟨p0, t1, t2, t3⟩ (fun hHeld => ?_)
  refine wpAnyH_take (i := 0) (oi := ?oiC0) (v := .agg #[v]) ?hiC0 (by kernel_rfl) (by kernel_rfl) (by kernel_rfl) ?hqC0 ?hyC0 hHeld ?hrC0
  case hiC0 =>
    simp only [List.getElem?_toArray, List.getElem?_cons_succ, List.getElem?_cons_zero]
    rfl
  case hqC0 => exact fun _ _ _ h => h
  case hyC0 => exact Or.inl ⟨by kernel_rfl, fun w hSw => by obtain ⟨s0, s1, s2, s3⟩ := hSw; go_simp⟩
  try simp only [Act.put, List.setIfInBounds_toArray, List.set_cons_zero, List.set_cons_succ]
  refine wpAnyH_take (i := 2) (oi := ?oiC2) (v := .int .i64 c) ?hiC2 (by kernel_rfl) (by kernel_rfl) (by kernel_rfl) ?hqC2 ?hyC2 hHeld ?hrC2
  case hiC2 =>
    simp only [List.getElem?_toArray, List.getElem?_cons_succ, List.getElem?_cons_zero]
    rfl
  case hqC2 => exact fun _ _ _ h => h
  case hyC2 => exact Or.inl ⟨by kernel_rfl, fun w hSw => by go_simp⟩
  try simp only [Act.put, List.setIfInBounds_toArray, List.set_cons_zero, List.set_cons_succ]
  refine wpAnyH_take (i := 3) (oi := ?oiC3) (v := .agg #[.int .i64 sk, .int .i64 sx, .int .i64 sy]) ?hiC3 (by kernel_rfl) (by kernel_rfl) (by kernel_rfl) ?hqC3 ?hyC3 hHeld ?hrC3
  case hiC3 =>
    simp only [List.getElem?_toArray, List.getElem?_cons_succ, List.getElem?_cons_zero]
    rfl
  case hqC3 => exact fun _ _ _ h => h
  case hyC3 => exact Or.inl ⟨by kernel_rfl, fun w hSw => by obtain ⟨s0, s1, s2, s3⟩ := hSw; go_simp⟩
  try simp only [Act.put, List.setIfInBounds_toArray, List.set_cons_zero, List.set_cons_succ]
  refine wpAnyH_ready (rs := [1]) (by kernel_rfl) (by simp) ?_
  refine AllReadyH.cons (o := ?ooC1) ?hoC1 (fun K hK => ?_) AllReadyH.nil
  case hoC1 =>
    simp only [List.getElem?_toArray, List.getElem?_cons_succ, List.getElem?_cons_zero]
    rfl
  go_simp
  go_at_call 9
  refine (toProgram ps v _ hl' hp' (readsP_below hv (L13.trans (Below.mono (by go_grown) L13.size)))).mono ?_
  rintro e w14a ⟨uC, rfl, ouC, baC⟩
  have MaC : Below w13.heap.size w13 w14a := Below.trans (by go_grown) baC
  obtain ⟨qaC, -⟩ := bcell MaC
  go_wp2_with fail
  refine hK.out _ _ ⟨(qaC _ _ zp).trans p0, (qaC _ _ zq).trans t1, (qaC _ _ zq).trans t2, (qaC _ _ zq).trans t3⟩ (fun hHeld => ?_)
  clear hK K
  try simp only [Act.put, List.setIfInBounds_toArray, List.set_cons_zero, List.set_cons_succ]
  refine wpAnyH_ready (rs := [4]) (by kernel_rfl) (by simp) ?_
  refine AllReadyH.cons (o := ?ooC4) ?hoC4 (fun K hK => ?_) AllReadyH.nil
  case hoC4 =>
    simp only [List.getElem?_toArray, List.getElem?_cons_succ, List.getElem?_cons_zero]
    rfl
  go_simp
  go_at_call 17
  refine (toStmt sk sx sy _).mono ?_
  rintro e w14b ⟨rfl, bbC⟩
  have ouC := ownP_kept ouC bbC
  have MbC := MaC.trans (bbC.mono MaC.size)
  obtain ⟨qbC, -⟩ := bcell MbC
  go_wp2_with fail
  refine hK.out _ _ ⟨(qbC _ _ zp).trans p0, (qbC _ _ zq).trans t1, (qbC _ _ zq).trans t2, (qbC _ _ zq).trans t3⟩ (fun hHeld => ?_)
  clear hK K
  try simp only [Act.put, List.setIfInBounds_toArray, List.set_cons_zero, List.set_cons_succ]
  refine wpAnyH_ready (rs := [5]) (by kernel_rfl) (by simp) ?_
  refine AllReadyH.cons (o := ?ooC5) ?hoC5 (fun K hK => ?_) AllReadyH.nil
  case hoC5 =>
    simp only [List.getElem?_toArray, List.getElem?_cons_succ, List.getElem?_cons_zero]
    rfl
  go_simp
  go_at_call 18
  refine (him uC w14b hl hp (readsP_own ouC)).mono ?_
  rintro e w15 ⟨h, rfl, oh, bcC⟩
  have McC := MbC.trans (bcC.mono MbC.size)
  obtain ⟨qcC, -⟩ := bcell McC
  go_wp2_with fail
  refine hK.out _ _ ⟨(qcC _ _ zp).trans p0, (qcC _ _ zq).trans t1, (qcC _ _ zq).trans t2, (qcC _ _ zq).trans t3⟩ (fun hHeld => ?_)
  clear hK K
  try simp only [Act.put, List.setIfInBounds_toArray, List.set_cons_zero, List.set_cons_succ]
  refine wpAnyH_take (i := 6) (oi := ?oiC6) (v := h) ?hiC6 (by kernel_rfl) (by kernel_rfl) (by kernel_rfl) ?hqC6 ?hyC6 hHeld ?hrC6
  case hiC6 =>
    simp only [List.getElem?_toArray, List.getElem?_cons_succ, List.getElem?_cons_zero]
    rfl
  case hqC6 => exact fun _ _ _ h => h
  case hyC6 => exact Or.inl ⟨by kernel_rfl, fun w hSw => by go_simp⟩
  try simp only [Act.put, List.setIfInBounds_toArray, List.set_cons_zero, List.set_cons_succ]
  refine wpAnyH_done (by kernel_rfl) ?_ _
  have b15 : Below w13.heap.size w13 w15 := McC
  have L14 := L13
  clear p0 t1 t2 t3 zp zq qaC qbC qcC baC bbC bcC MaC MbC McC ouC H10 H11 H12 H13
  have s15 := b15.size
  have L15 : Below w.heap.size w w15 := L14.trans (b15.mono (by omega))
  have oa := own_kept oa b15
  have og := own_kept og b15
  go_wp2_with fail
  go_at_call 19
  refine (eqInt64S A _ _ _ hA' (reads_own oh) (reads_own oa)).mono ?_
  rintro e w16 ⟨rfl, b16⟩
  have s16 := b16.size
  have L16 : Below w.heap.size w w16 := L15.trans (b16.mono (by omega))
  have og := own_kept og b16
  go_wp2_with fail
  go_at_call 21
  refine (heldInt64S A.length g 1 w16 (by omega) (by omega) (by omega) (reads_own og)).mono ?_
  rintro e w17 ⟨rfl, b17⟩
  go_wp2
  go_ret
  exact ⟨rfl, L16.trans (b17.mono (by omega))⟩

theorem cellsStmtA : Try.prog.cellsOf 38 = 3 := by kernel_rfl

set_option maxRecDepth 100000 in
theorem liftedFnExactEffect (os : Os) (started : os.Started) (H : Type) (enc : TypeId × Value → H) :
    ReturnsInHanded {} Try.checked os 4 .any (Rows.fnExactEffectSpec.pre6 enc Try.prog Try.f4 Rows.fnExactEffectRow.domain false) (Rows.fnExactEffectSpec.post enc Try.prog Try.f4 false true false false) := by
  refine returnsInHanded_of_change (C := Try.checked) own started (by kernel_rfl) Try.func4
    (ChangeSpec.witness6 (enc := enc) (C := Try.checked) false ⟨#[], #[.agg #[.slice none 0 0], .int .i64 0, .agg #[.int .i64 0, .int .i64 0, .int .i64 0]], []⟩ 8 (by kernel_rfl) (by kernel_rfl) (by kernel_rfl) (by kernel_rfl)) ?_
  intro W base args ds gs before hval0 hW hcnd _
  have hval : ∀ (j : Nat) t v, Try.f4.params[j]? = some t → args[j]? = some v → Value.okWide Try.prog W .any base t v := hval0
  have hW' := hW
  obtain ⟨p, q, hA0, hV, rfl, hfz, hnd⟩ := hW
  have hA : DataW.TrodAll enc Try.prog W 0 (fun _ => true) true Try.f4.params.toList args.toList ds p := hA0
  rw [Try.params4] at hA hval
  obtain ⟨v0, vs0, d0, ds0, p0, q0, hargs, rfl, rfl, h0, r0⟩ := trodAll_cons hA
  obtain ⟨v1, vs1, d1, ds1, p1, q1, rfl, rfl, rfl, h1, r1⟩ := trodAll_cons r0
  obtain ⟨v2, vs2, d2, ds2, p2, q2, rfl, rfl, rfl, h2, r2⟩ := trodAll_cons r1
  obtain ⟨rfl, rfl, rfl⟩ := trodAll_nil r2
  obtain rfl : args = #[v0, v1, v2] := by cases args; simp_all
  obtain ⟨rfl, rfl⟩ := trodVars_none hV
  obtain ⟨v, ps, rfl, hr, hl, hq⟩ := open_program (hval 0 24 v0 rfl rfl) h0
  obtain ⟨c, rfl, _⟩ := open_int Try.underlying2 (hval 1 2 v1 rfl rfl) h1
  obtain ⟨c0, c1, c2, y0, y1, y2, m, rfl, rfl, rfl, hy0, hy1, hy2⟩ := open_agg3 Try.underlying38 (by kernel_rfl) cellsStmtA (hval 2 38 v2 rfl rfl) h2
  obtain ⟨k, e0, _, _⟩ := DataW.trod_int Try.underlying2 hy0
  obtain ⟨x, e1, _, _⟩ := DataW.trod_int Try.underlying2 hy1
  obtain ⟨y, e2, _, _⟩ := DataW.trod_int Try.underlying2 hy2
  simp at e0 e1 e2
  subst e0 e1 e2
  refine (walkEffect ps c ⟨k, x, y⟩ v W hl hq hr).mono fun e W' ⟨he, hb⟩ => ?_
  subst he
  refine ⟨_, rfl, law_post (tb := 4) laidOut ?_ hW' rfl Try.underlying4 rfl rfl hb⟩
  exact all_readable (P := Try.prog) (by kernel_rfl)

theorem overFnExactEffect : Rows.fnExactEffectRow.holds Try.pinned (OpenSpec.ofChange Rows.fnExactEffectSpec) :=
  OpenClaim.holds_of_wide 4 Try.f4 rfl rfl rfl rfl rfl rfl rfl ⟨rfl, rfl, rfl, rfl, rfl⟩ rfl rfl rfl rfl rfl (by kernel_rfl) Try.func4 (by kernel_rfl)
    (of_decide_eq_true (by kernel_rfl)) (by unfold Func.isWrapper; first | (rw [if_pos (by decide +kernel)]; kernel_rfl) | (rw [if_neg (by decide +kernel)]; exact ⟨rfl, rfl⟩))
    (fun os started H enc _ => liftedFnExactEffect os started H enc)

/-- ████ THE STATEMENT ████ -/
theorem effectHolds : Rows.FnExactEffectSaid :=
  overFnExactEffect
#print axioms effectHolds

end Go.Proofs.Ytneeomhcbigjpaa
