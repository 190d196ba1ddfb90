/-
  spec.l13Do: one statement more.
-/
import Derived.Test.YtldagpfeaabcdaaGreatDoorDo13N
import Derived.BigRegion
namespace Go.Proofs.YtldagpfeaabcdaaGreatDoor
open Go.RowKit
set_option linter.unusedVariables false
set_option linter.unusedSimpArgs false
set_option maxHeartbeats 8000000
set_option maxRecDepth 20000

theorem l13DoAdd (ps : List (List Stm)) (p : List Stm) (sk sx sy : Int) (i j n m P base G cap g c : Nat) (us : List Value) (w : World) (hn : ps.length = n) (hl : n ≤ 100) (hi : i < n) (hp : ps[i]? = some p) (hm : p.length = m) (hm1 : m ≤ 100) (hj : j < m) (hy : ∀ s ∈ p, 0 ≤ s.y ∧ s.y ≤ 11) (hui : us[i]? = some (.slice (some ⟨g, 0, none⟩) m c)) (hbP : base ≤ P) (hbase : base ≤ w.heap.size)
    (hP : w.heap[P]? = some (.cells #[.slice (some ⟨G, 0, none⟩) n cap] 26 (0, 0))) (hO : Own13 w base (.slice (some ⟨G, 0, none⟩) n cap) us ps) :
    Calls Tryz.prog 50 #[.pointer (some ⟨P, 0, none⟩), .agg #[.int .i64 2, .int .i64 (i : Int), .int .i64 (j : Int), .int .i64 sk, .int .i64 sx, .int .i64 sy]] w fun r w' => r = .returned (.bool true) ∧ ∃ vs, w'.heap[P]? = some (.cells #[.slice (some ⟨G, 0, none⟩) n cap] 26 (0, 0)) ∧ Own13 w' base (.slice (some ⟨G, 0, none⟩) n cap) vs (ps.set i (edAdd p j ⟨sk, sx, sy⟩)) ∧ Below base w w' := by
  subst hn
  obtain ⟨i0, hi0, hz0, hz1, hz2⟩ := info_parts infoStmt
  have hbA : Below w.heap.size w (w.alloc (.cells #[.int .i64 2, .int .i64 (i : Int), .int .i64 (j : Int), .int .i64 sk, .int .i64 sx, .int .i64 sy] 54)) := by go_grown
  have hPl : P < w.heap.size := (Array.getElem?_eq_some_iff.1 hP).1
  have D0 : Do13 w base P G cap 2 i j sk sx sy us ps (w.alloc (.cells #[.int .i64 2, .int .i64 (i : Int), .int .i64 (j : Int), .int .i64 sk, .int .i64 sx, .int .i64 sy] 54)) := ⟨heap_alloc_new w _, (hbA.block P hPl).trans hP, hO.kept hbA, hbA.mono hbase, by simp⟩
  have hoi := hO.each i _ p hui hp
  rw [hm] at hoi
  have hgb : base ≤ g := (hoi.lt g rfl).1
  obtain ⟨_, _, _, hmc, hcm, _⟩ := own_open hoi
  unfold maxLen at hcm
  have hGb : base ≤ G := (hO.row.lt G rfl).1
  have hGg : G ≠ g := fun e => kind13 hoi hO.row (by decide) g rfl (by rw [e]; rfl)
  have hEg : w.heap.size ≠ g := by have := (hoi.lt g rfl).2; omega
  obtain ⟨W0, hW0⟩ : ∃ W0, w.alloc (.cells #[.int .i64 2, .int .i64 (i : Int), .int .i64 (j : Int), .int .i64 sk, .int .i64 sx, .int .i64 sy] 54) = W0 := ⟨_, rfl⟩
  rw [hW0] at D0
  have hin1 := l1In (i : Int) 0 ((ps.length : Int) - 1)
  rw [show inB (i : Int) 0 ((ps.length : Int) - 1) = true by simp [inB]; omega] at hin1
  have hin2 := l1In (j : Int) 0 ((m : Int) - 1)
  rw [show inB (j : Int) 0 ((m : Int) - 1) = true by simp [inB]; omega] at hin2
  have hiI : (i : Int) < (ps.length : Int) := by omega
  have hjI : (j : Int) < (m : Int) := by omega
  have hmcI : (m : Int) ≤ (c : Int) := by omega
  have HPM : Hid (p.length = m) := hm
  have HPI : Hid (ps[i]? = some p) := hp
  have HUI : Hid (us[i]? = some (.slice (some ⟨g, 0, none⟩) m c)) := hui
  have hwn : IntKind.i64.wrap ((ps.length : Int) - 1) = (ps.length : Int) - 1 := IntWalk.i64_in _ (by omega)
  have hwm : IntKind.i64.wrap ((m : Int) - 1) = (m : Int) - 1 := IntWalk.i64_in _ (by omega)
  obtain ⟨e0, e1, e2, e3, e4, e5, eP, eG, fG⟩ := D0.cells hui
  have HD0 : Hid (Do13 w base P G cap 2 i j sk sx sy us ps W0) := D0
  clear D0 hoi hui hm hp hO hP hbA
  obtain ⟨n, hN⟩ : ∃ n, ps.length = n := ⟨_, rfl⟩
  rw [hN] at hin1 hiI hwn eP hl hi ⊢
  have HN : Hid (ps.length = n) := hN
  clear hN
  go_enter Tryz.func50, Tryz.ntmps50
  go_wp2_with fail
  refine wp_region_held_drew (S := fun w' => w'.cell? ⟨w.heap.size, 1, none⟩ = some (.int .i64 (i : Int)) ∧ w'.cell? ⟨w.heap.size, 2, none⟩ = some (.int .i64 (j : Int)) ∧ w'.cell? ⟨w.heap.size, 3, none⟩ = some (.int .i64 sk) ∧ w'.cell? ⟨w.heap.size, 4, none⟩ = some (.int .i64 sx) ∧ w'.cell? ⟨w.heap.size, 5, none⟩ = some (.int .i64 sy) ∧ w'.cell? ⟨P, 0, none⟩ = some (.slice (some ⟨G, 0, none⟩) n cap) ∧ w'.cell? ⟨G, i, none⟩ = some (.slice (some ⟨g, 0, none⟩) m c)) (by kernel_rfl) ⟨e1, e2, e3, e4, e5, eP, eG⟩ (fun hHeld => ?_)
  refine wpAnyH_take (i := 0) (oi := ?oir40) (v := .pointer (some ⟨w.heap.size, 1, none⟩)) ?hir40 (by kernel_rfl) (by kernel_rfl) (by kernel_rfl) ?hqr40 ?hyr40 hHeld ?hrr40
  case hir40 =>
    simp only [List.getElem?_toArray, List.getElem?_cons_succ, List.getElem?_cons_zero]
    rfl
  case hqr40 => exact fun _ _ _ h => h
  case hyr40 => exact Or.inl ⟨by kernel_rfl, fun w hSw => by go_simp⟩
  try simp only [Act.put, List.setIfInBounds_toArray, List.set_cons_zero, List.set_cons_succ]
  refine wpAnyH_take (i := 1) (oi := ?oir41) (v := .int .i64 (i : Int)) ?hir41 (by kernel_rfl) (by kernel_rfl) (by kernel_rfl) ?hqr41 ?hyr41 hHeld ?hrr41
  case hir41 =>
    simp only [List.getElem?_toArray, List.getElem?_cons_succ, List.getElem?_cons_zero]
    rfl
  case hqr41 => exact fun _ _ _ h => h
  case hyr41 => exact Or.inl ⟨by kernel_rfl, fun w hSw => by obtain ⟨s1, s2, s3, s4, s5, s6, s7⟩ := hSw; go_simp⟩
  try simp only [Act.put, List.setIfInBounds_toArray, List.set_cons_zero, List.set_cons_succ]
  refine wpAnyH_take (i := 2) (oi := ?oir42) (v := .pointer (some ⟨P, 0, none⟩)) ?hir42 (by kernel_rfl) (by kernel_rfl) (by kernel_rfl) ?hqr42 ?hyr42 hHeld ?hrr42
  case hir42 =>
    simp only [List.getElem?_toArray, List.getElem?_cons_succ, List.getElem?_cons_zero]
    rfl
  case hqr42 => exact fun _ _ _ h => h
  case hyr42 => exact Or.inl ⟨by kernel_rfl, fun w hSw => by go_simp⟩
  try simp only [Act.put, List.setIfInBounds_toArray, List.set_cons_zero, List.set_cons_succ]
  refine wpAnyH_take (i := 3) (oi := ?oir43) (v := .pointer (some ⟨P, 0, none⟩)) ?hir43 (by kernel_rfl) (by kernel_rfl) (by kernel_rfl) ?hqr43 ?hyr43 hHeld ?hrr43
  case hir43 =>
    simp only [List.getElem?_toArray, List.getElem?_cons_succ, List.getElem?_cons_zero]
    rfl
  case hqr43 => exact fun _ _ _ h => h
  case hyr43 => exact Or.inl ⟨by kernel_rfl, fun w hSw => by go_simp⟩
  try simp only [Act.put, List.setIfInBounds_toArray, List.set_cons_zero, List.set_cons_succ]
  refine wpAnyH_take (i := 4) (oi := ?oir44) (v := .pointer (some ⟨P, 0, none⟩)) ?hir44 (by kernel_rfl) (by kernel_rfl) (by kernel_rfl) ?hqr44 ?hyr44 hHeld ?hrr44
  case hir44 =>
    simp only [List.getElem?_toArray, List.getElem?_cons_succ, List.getElem?_cons_zero]
    rfl
  case hqr44 => exact fun _ _ _ h => h
  case hyr44 => exact Or.inl ⟨by kernel_rfl, fun w hSw => by go_simp⟩
  try simp only [Act.put, List.setIfInBounds_toArray, List.set_cons_zero, List.set_cons_succ]
  refine wpAnyH_take (i := 5) (oi := ?oir45) (v := .slice (some ⟨G, 0, none⟩) n cap) ?hir45 (by kernel_rfl) (by kernel_rfl) (by kernel_rfl) ?hqr45 ?hyr45 hHeld ?hrr45
  case hir45 =>
    simp only [List.getElem?_toArray, List.getElem?_cons_succ, List.getElem?_cons_zero]
    rfl
  case hqr45 => exact fun _ _ _ h => h
  case hyr45 => exact Or.inl ⟨by kernel_rfl, fun w hSw => by obtain ⟨s1, s2, s3, s4, s5, s6, s7⟩ := hSw; go_simp⟩
  try simp only [Act.put, List.setIfInBounds_toArray, List.set_cons_zero, List.set_cons_succ]
  refine wpAnyH_take (i := 6) (oi := ?oir46) (v := .int .i64 (n : Int)) ?hir46 (by kernel_rfl) (by kernel_rfl) (by kernel_rfl) ?hqr46 ?hyr46 hHeld ?hrr46
  case hir46 =>
    simp only [List.getElem?_toArray, List.getElem?_cons_succ, List.getElem?_cons_zero]
    rfl
  case hqr46 => exact fun _ _ _ h => h
  case hyr46 => exact Or.inl ⟨by kernel_rfl, fun w hSw => by go_simp⟩
  try simp only [Act.put, List.setIfInBounds_toArray, List.set_cons_zero, List.set_cons_succ]
  refine wpAnyH_take (i := 7) (oi := ?oir47) (v := .int .i64 ((n : Int) - 1)) ?hir47 (by kernel_rfl) (by kernel_rfl) (by kernel_rfl) ?hqr47 ?hyr47 hHeld ?hrr47
  case hir47 =>
    simp only [List.getElem?_toArray, List.getElem?_cons_succ, List.getElem?_cons_zero]
    rfl
  case hqr47 => exact fun _ _ _ h => h
  case hyr47 => exact Or.inl ⟨by kernel_rfl, fun w hSw => by go_simp⟩
  try simp only [Act.put, List.setIfInBounds_toArray, List.set_cons_zero, List.set_cons_succ]
  refine wpAnyH_ready (rs := [8]) (by kernel_rfl) (by simp) ?_
  refine (AllReadyH.cons (o := ?oor48) ?hor48 (fun K hK => ?hkr48) AllReadyH.nil)
  case hor48 =>
    simp only [List.getElem?_toArray, List.getElem?_cons_succ, List.getElem?_cons_zero]
    rfl
  case hkr48 =>
    go_simp
    go_at_call 59
    refine (hin1 _).mono ?_
    rintro r wz ⟨rfl, rfl⟩
    try go_wp2_with fail
    refine hK.out _ _ ⟨e1, e2, e3, e4, e5, eP, eG⟩ (fun hHeld => ?_)
    clear hK K
    try simp only [Act.put, List.setIfInBounds_toArray, List.set_cons_zero, List.set_cons_succ]
    refine wpAnyH_take (i := 9) (oi := ?oir49) (v := .bool false) ?hir49 (by kernel_rfl) (by kernel_rfl) (by kernel_rfl) ?hqr49 ?hyr49 hHeld ?hrr49
    case hir49 =>
      simp only [List.getElem?_toArray, List.getElem?_cons_succ, List.getElem?_cons_zero]
      rfl
    case hqr49 => exact fun _ _ _ h => h
    case hyr49 => exact Or.inl ⟨by kernel_rfl, fun w hSw => by go_simp⟩
    try simp only [Act.put, List.setIfInBounds_toArray, List.set_cons_zero, List.set_cons_succ]
    refine wpAnyH_take (i := 10) (oi := ?oir410) (v := .bool false) ?hir410 (by kernel_rfl) (by kernel_rfl) (by kernel_rfl) ?hqr410 ?hyr410 hHeld ?hrr410
    case hir410 =>
      simp only [List.getElem?_toArray, List.getElem?_cons_succ, List.getElem?_cons_zero]
      rfl
    case hqr410 => exact fun _ _ _ h => h
    case hyr410 => exact Or.inl ⟨by kernel_rfl, fun w hSw => by go_simp⟩
    try simp only [Act.put, List.setIfInBounds_toArray, List.set_cons_zero, List.set_cons_succ]
    refine wpAnyH_take (i := 11) (oi := ?oir411) (v := .pointer (some ⟨w.heap.size, 2, none⟩)) ?hir411 (by kernel_rfl) (by kernel_rfl) (by kernel_rfl) ?hqr411 ?hyr411 hHeld ?hrr411
    case hir411 =>
      simp only [List.getElem?_toArray, List.getElem?_cons_succ, List.getElem?_cons_zero]
      rfl
    case hqr411 => exact fun _ _ _ h => h
    case hyr411 => exact Or.inl ⟨by kernel_rfl, fun w hSw => by go_simp⟩
    try simp only [Act.put, List.setIfInBounds_toArray, List.set_cons_zero, List.set_cons_succ]
    refine wpAnyH_take (i := 12) (oi := ?oir412) (v := .int .i64 (j : Int)) ?hir412 (by kernel_rfl) (by kernel_rfl) (by kernel_rfl) ?hqr412 ?hyr412 hHeld ?hrr412
    case hir412 =>
      simp only [List.getElem?_toArray, List.getElem?_cons_succ, List.getElem?_cons_zero]
      rfl
    case hqr412 => exact fun _ _ _ h => h
    case hyr412 => exact Or.inl ⟨by kernel_rfl, fun w hSw => by obtain ⟨s1, s2, s3, s4, s5, s6, s7⟩ := hSw; go_simp⟩
    try simp only [Act.put, List.setIfInBounds_toArray, List.set_cons_zero, List.set_cons_succ]
    refine wpAnyH_take (i := 13) (oi := ?oir413) (v := .pointer (some ⟨P, 0, none⟩)) ?hir413 (by kernel_rfl) (by kernel_rfl) (by kernel_rfl) ?hqr413 ?hyr413 hHeld ?hrr413
    case hir413 =>
      simp only [List.getElem?_toArray, List.getElem?_cons_succ, List.getElem?_cons_zero]
      rfl
    case hqr413 => exact fun _ _ _ h => h
    case hyr413 => exact Or.inl ⟨by kernel_rfl, fun w hSw => by go_simp⟩
    try simp only [Act.put, List.setIfInBounds_toArray, List.set_cons_zero, List.set_cons_succ]
    refine wpAnyH_take (i := 14) (oi := ?oir414) (v := .pointer (some ⟨P, 0, none⟩)) ?hir414 (by kernel_rfl) (by kernel_rfl) (by kernel_rfl) ?hqr414 ?hyr414 hHeld ?hrr414
    case hir414 =>
      simp only [List.getElem?_toArray, List.getElem?_cons_succ, List.getElem?_cons_zero]
      rfl
    case hqr414 => exact fun _ _ _ h => h
    case hyr414 => exact Or.inl ⟨by kernel_rfl, fun w hSw => by go_simp⟩
    try simp only [Act.put, List.setIfInBounds_toArray, List.set_cons_zero, List.set_cons_succ]
    refine wpAnyH_take (i := 15) (oi := ?oir415) (v := .pointer (some ⟨P, 0, none⟩)) ?hir415 (by kernel_rfl) (by kernel_rfl) (by kernel_rfl) ?hqr415 ?hyr415 hHeld ?hrr415
    case hir415 =>
      simp only [List.getElem?_toArray, List.getElem?_cons_succ, List.getElem?_cons_zero]
      rfl
    case hqr415 => exact fun _ _ _ h => h
    case hyr415 => exact Or.inl ⟨by kernel_rfl, fun w hSw => by go_simp⟩
    try simp only [Act.put, List.setIfInBounds_toArray, List.set_cons_zero, List.set_cons_succ]
    refine wpAnyH_take (i := 16) (oi := ?oir416) (v := .slice (some ⟨G, 0, none⟩) n cap) ?hir416 (by kernel_rfl) (by kernel_rfl) (by kernel_rfl) ?hqr416 ?hyr416 hHeld ?hrr416
    case hir416 =>
      simp only [List.getElem?_toArray, List.getElem?_cons_succ, List.getElem?_cons_zero]
      rfl
    case hqr416 => exact fun _ _ _ h => h
    case hyr416 => exact Or.inl ⟨by kernel_rfl, fun w hSw => by obtain ⟨s1, s2, s3, s4, s5, s6, s7⟩ := hSw; go_simp⟩
    try simp only [Act.put, List.setIfInBounds_toArray, List.set_cons_zero, List.set_cons_succ]
    refine wpAnyH_take (i := 17) (oi := ?oir417) (v := .pointer (some ⟨w.heap.size, 1, none⟩)) ?hir417 (by kernel_rfl) (by kernel_rfl) (by kernel_rfl) ?hqr417 ?hyr417 hHeld ?hrr417
    case hir417 =>
      simp only [List.getElem?_toArray, List.getElem?_cons_succ, List.getElem?_cons_zero]
      rfl
    case hqr417 => exact fun _ _ _ h => h
    case hyr417 => exact Or.inl ⟨by kernel_rfl, fun w hSw => by go_simp⟩
    try simp only [Act.put, List.setIfInBounds_toArray, List.set_cons_zero, List.set_cons_succ]
    refine wpAnyH_take (i := 18) (oi := ?oir418) (v := .int .i64 (i : Int)) ?hir418 (by kernel_rfl) (by kernel_rfl) (by kernel_rfl) ?hqr418 ?hyr418 hHeld ?hrr418
    case hir418 =>
      simp only [List.getElem?_toArray, List.getElem?_cons_succ, List.getElem?_cons_zero]
      rfl
    case hqr418 => exact fun _ _ _ h => h
    case hyr418 => exact Or.inl ⟨by kernel_rfl, fun w hSw => by obtain ⟨s1, s2, s3, s4, s5, s6, s7⟩ := hSw; go_simp⟩
    try simp only [Act.put, List.setIfInBounds_toArray, List.set_cons_zero, List.set_cons_succ]
    refine wpAnyH_take (i := 19) (oi := ?oir419) (v := .pointer (some ⟨G, i, none⟩)) ?hir419 (by kernel_rfl) (by kernel_rfl) (by kernel_rfl) ?hqr419 ?hyr419 hHeld ?hrr419
    case hir419 =>
      simp only [List.getElem?_toArray, List.getElem?_cons_succ, List.getElem?_cons_zero]
      rfl
    case hqr419 => exact fun _ _ _ h => h
    case hyr419 => exact Or.inl ⟨by kernel_rfl, fun w hSw => by go_simp⟩
    try simp only [Act.put, List.setIfInBounds_toArray, List.set_cons_zero, List.set_cons_succ]
    refine wpAnyH_take (i := 20) (oi := ?oir420) (v := .pointer (some ⟨G, i, none⟩)) ?hir420 (by kernel_rfl) (by kernel_rfl) (by kernel_rfl) ?hqr420 ?hyr420 hHeld ?hrr420
    case hir420 =>
      simp only [List.getElem?_toArray, List.getElem?_cons_succ, List.getElem?_cons_zero]
      rfl
    case hqr420 => exact fun _ _ _ h => h
    case hyr420 => exact Or.inl ⟨by kernel_rfl, fun w hSw => by go_simp⟩
    try simp only [Act.put, List.setIfInBounds_toArray, List.set_cons_zero, List.set_cons_succ]
    refine wpAnyH_take (i := 21) (oi := ?oir421) (v := .slice (some ⟨g, 0, none⟩) m c) ?hir421 (by kernel_rfl) (by kernel_rfl) (by kernel_rfl) ?hqr421 ?hyr421 hHeld ?hrr421
    case hir421 =>
      simp only [List.getElem?_toArray, List.getElem?_cons_succ, List.getElem?_cons_zero]
      rfl
    case hqr421 => exact fun _ _ _ h => h
    case hyr421 => exact Or.inl ⟨by kernel_rfl, fun w hSw => by obtain ⟨s1, s2, s3, s4, s5, s6, s7⟩ := hSw; go_simp⟩
    try simp only [Act.put, List.setIfInBounds_toArray, List.set_cons_zero, List.set_cons_succ]
    refine wpAnyH_take (i := 22) (oi := ?oir422) (v := .int .i64 (m : Int)) ?hir422 (by kernel_rfl) (by kernel_rfl) (by kernel_rfl) ?hqr422 ?hyr422 hHeld ?hrr422
    case hir422 =>
      simp only [List.getElem?_toArray, List.getElem?_cons_succ, List.getElem?_cons_zero]
      rfl
    case hqr422 => exact fun _ _ _ h => h
    case hyr422 => exact Or.inl ⟨by kernel_rfl, fun w hSw => by go_simp⟩
    try simp only [Act.put, List.setIfInBounds_toArray, List.set_cons_zero, List.set_cons_succ]
    refine wpAnyH_take (i := 23) (oi := ?oir423) (v := .int .i64 ((m : Int) - 1)) ?hir423 (by kernel_rfl) (by kernel_rfl) (by kernel_rfl) ?hqr423 ?hyr423 hHeld ?hrr423
    case hir423 =>
      simp only [List.getElem?_toArray, List.getElem?_cons_succ, List.getElem?_cons_zero]
      rfl
    case hqr423 => exact fun _ _ _ h => h
    case hyr423 => exact Or.inl ⟨by kernel_rfl, fun w hSw => by go_simp⟩
    try simp only [Act.put, List.setIfInBounds_toArray, List.set_cons_zero, List.set_cons_succ]
    refine wpAnyH_ready (rs := [24]) (by kernel_rfl) (by simp) ?_
    refine (AllReadyH.cons (o := ?oor424) ?hor424 (fun K hK => ?hkr424) AllReadyH.nil)
    case hor424 =>
      simp only [List.getElem?_toArray, List.getElem?_cons_succ, List.getElem?_cons_zero]
      rfl
    case hkr424 =>
      go_simp
      go_at_call 59
      refine (hin2 _).mono ?_
      rintro r wz ⟨rfl, rfl⟩
      try go_wp2_with fail
      refine hK.out _ _ ⟨e1, e2, e3, e4, e5, eP, eG⟩ (fun hHeld => ?_)
      clear hK K
      try simp only [Act.put, List.setIfInBounds_toArray, List.set_cons_zero, List.set_cons_succ]
      refine wpAnyH_take (i := 25) (oi := ?oir425) (v := .bool false) ?hir425 (by kernel_rfl) (by kernel_rfl) (by kernel_rfl) ?hqr425 ?hyr425 hHeld ?hrr425
      case hir425 =>
        simp only [List.getElem?_toArray, List.getElem?_cons_succ, List.getElem?_cons_zero]
        rfl
      case hqr425 => exact fun _ _ _ h => h
      case hyr425 => exact Or.inl ⟨by kernel_rfl, fun w hSw => by go_simp⟩
      try simp only [Act.put, List.setIfInBounds_toArray, List.set_cons_zero, List.set_cons_succ]
      refine wpAnyH_take (i := 26) (oi := ?oir426) (v := .bool false) ?hir426 (by kernel_rfl) (by kernel_rfl) (by kernel_rfl) ?hqr426 ?hyr426 hHeld ?hrr426
      case hir426 =>
        simp only [List.getElem?_toArray, List.getElem?_cons_succ, List.getElem?_cons_zero]
        rfl
      case hqr426 => exact fun _ _ _ h => h
      case hyr426 => exact Or.inl ⟨by kernel_rfl, fun w hSw => by go_simp⟩
      try simp only [Act.put, List.setIfInBounds_toArray, List.set_cons_zero, List.set_cons_succ]
      refine wpAnyH_done (by kernel_rfl) ?_ _
      have HD1 : Hid (Do13 w base P G cap 2 i j sk sx sy us (ps) W0.drew) := HD0.out.drew
      clear e0 e1 e2 e3 e4 e5 eP eG fG
      obtain ⟨W1, hW1⟩ : ∃ W1, W0.drew = W1 := ⟨_, rfl⟩
      rw [hW1] at HD1 ⊢
      clear hW1 hin1 hin2
      obtain ⟨e0, e1, e2, e3, e4, e5, eP, eG, fG⟩ := HD1.out.cells HUI.out
      rw [HN.out] at eP
      go_wp2_with fail
      refine wp_region_held_drew (S := fun w' => w'.cell? ⟨w.heap.size, 1, none⟩ = some (.int .i64 (i : Int)) ∧ w'.cell? ⟨w.heap.size, 2, none⟩ = some (.int .i64 (j : Int)) ∧ w'.cell? ⟨w.heap.size, 3, none⟩ = some (.int .i64 sk) ∧ w'.cell? ⟨w.heap.size, 4, none⟩ = some (.int .i64 sx) ∧ w'.cell? ⟨w.heap.size, 5, none⟩ = some (.int .i64 sy) ∧ w'.cell? ⟨P, 0, none⟩ = some (.slice (some ⟨G, 0, none⟩) n cap) ∧ w'.cell? ⟨G, i, none⟩ = some (.slice (some ⟨g, 0, none⟩) m c)) (by kernel_rfl) ⟨e1, e2, e3, e4, e5, eP, eG⟩ (fun hHeld => ?_)
      refine wpAnyH_take (i := 0) (oi := ?oir60) (v := .pointer (some ⟨P, 0, none⟩)) ?hir60 (by kernel_rfl) (by kernel_rfl) (by kernel_rfl) ?hqr60 ?hyr60 hHeld ?hrr60
      case hir60 =>
        simp only [List.getElem?_toArray, List.getElem?_cons_succ, List.getElem?_cons_zero]
        rfl
      case hqr60 => exact fun _ _ _ h => h
      case hyr60 => exact Or.inl ⟨by kernel_rfl, fun w hSw => by go_simp⟩
      try simp only [Act.put, List.setIfInBounds_toArray, List.set_cons_zero, List.set_cons_succ]
      refine wpAnyH_take (i := 1) (oi := ?oir61) (v := .pointer (some ⟨P, 0, none⟩)) ?hir61 (by kernel_rfl) (by kernel_rfl) (by kernel_rfl) ?hqr61 ?hyr61 hHeld ?hrr61
      case hir61 =>
        simp only [List.getElem?_toArray, List.getElem?_cons_succ, List.getElem?_cons_zero]
        rfl
      case hqr61 => exact fun _ _ _ h => h
      case hyr61 => exact Or.inl ⟨by kernel_rfl, fun w hSw => by go_simp⟩
      try simp only [Act.put, List.setIfInBounds_toArray, List.set_cons_zero, List.set_cons_succ]
      refine wpAnyH_take (i := 2) (oi := ?oir62) (v := .pointer (some ⟨P, 0, none⟩)) ?hir62 (by kernel_rfl) (by kernel_rfl) (by kernel_rfl) ?hqr62 ?hyr62 hHeld ?hrr62
      case hir62 =>
        simp only [List.getElem?_toArray, List.getElem?_cons_succ, List.getElem?_cons_zero]
        rfl
      case hqr62 => exact fun _ _ _ h => h
      case hyr62 => exact Or.inl ⟨by kernel_rfl, fun w hSw => by go_simp⟩
      try simp only [Act.put, List.setIfInBounds_toArray, List.set_cons_zero, List.set_cons_succ]
      refine wpAnyH_take (i := 3) (oi := ?oir63) (v := .slice (some ⟨G, 0, none⟩) n cap) ?hir63 (by kernel_rfl) (by kernel_rfl) (by kernel_rfl) ?hqr63 ?hyr63 hHeld ?hrr63
      case hir63 =>
        simp only [List.getElem?_toArray, List.getElem?_cons_succ, List.getElem?_cons_zero]
        rfl
      case hqr63 => exact fun _ _ _ h => h
      case hyr63 => exact Or.inl ⟨by kernel_rfl, fun w hSw => by obtain ⟨s1, s2, s3, s4, s5, s6, s7⟩ := hSw; go_simp⟩
      try simp only [Act.put, List.setIfInBounds_toArray, List.set_cons_zero, List.set_cons_succ]
      refine wpAnyH_take (i := 4) (oi := ?oir64) (v := .pointer (some ⟨w.heap.size, 1, none⟩)) ?hir64 (by kernel_rfl) (by kernel_rfl) (by kernel_rfl) ?hqr64 ?hyr64 hHeld ?hrr64
      case hir64 =>
        simp only [List.getElem?_toArray, List.getElem?_cons_succ, List.getElem?_cons_zero]
        rfl
      case hqr64 => exact fun _ _ _ h => h
      case hyr64 => exact Or.inl ⟨by kernel_rfl, fun w hSw => by go_simp⟩
      try simp only [Act.put, List.setIfInBounds_toArray, List.set_cons_zero, List.set_cons_succ]
      refine wpAnyH_take (i := 5) (oi := ?oir65) (v := .int .i64 (i : Int)) ?hir65 (by kernel_rfl) (by kernel_rfl) (by kernel_rfl) ?hqr65 ?hyr65 hHeld ?hrr65
      case hir65 =>
        simp only [List.getElem?_toArray, List.getElem?_cons_succ, List.getElem?_cons_zero]
        rfl
      case hqr65 => exact fun _ _ _ h => h
      case hyr65 => exact Or.inl ⟨by kernel_rfl, fun w hSw => by obtain ⟨s1, s2, s3, s4, s5, s6, s7⟩ := hSw; go_simp⟩
      try simp only [Act.put, List.setIfInBounds_toArray, List.set_cons_zero, List.set_cons_succ]
      refine wpAnyH_take (i := 6) (oi := ?oir66) (v := .pointer (some ⟨G, i, none⟩)) ?hir66 (by kernel_rfl) (by kernel_rfl) (by kernel_rfl) ?hqr66 ?hyr66 hHeld ?hrr66
      case hir66 =>
        simp only [List.getElem?_toArray, List.getElem?_cons_succ, List.getElem?_cons_zero]
        rfl
      case hqr66 => exact fun _ _ _ h => h
      case hyr66 => exact Or.inl ⟨by kernel_rfl, fun w hSw => by go_simp⟩
      try simp only [Act.put, List.setIfInBounds_toArray, List.set_cons_zero, List.set_cons_succ]
      refine wpAnyH_take (i := 7) (oi := ?oir67) (v := .pointer (some ⟨G, i, none⟩)) ?hir67 (by kernel_rfl) (by kernel_rfl) (by kernel_rfl) ?hqr67 ?hyr67 hHeld ?hrr67
      case hir67 =>
        simp only [List.getElem?_toArray, List.getElem?_cons_succ, List.getElem?_cons_zero]
        rfl
      case hqr67 => exact fun _ _ _ h => h
      case hyr67 => exact Or.inl ⟨by kernel_rfl, fun w hSw => by go_simp⟩
      try simp only [Act.put, List.setIfInBounds_toArray, List.set_cons_zero, List.set_cons_succ]
      refine wpAnyH_done (by kernel_rfl) ?_ _
      have HD2 : Hid (Do13 w base P G cap 2 i j sk sx sy us (ps) W1.drew) := HD1.out.drew
      clear e0 e1 e2 e3 e4 e5 eP eG fG
      obtain ⟨W2, hW2⟩ : ∃ W2, W1.drew = W2 := ⟨_, rfl⟩
      rw [hW2] at HD2 ⊢
      clear hW2
      obtain ⟨e0, e1, e2, e3, e4, e5, eP, eG, fG⟩ := HD2.out.cells HUI.out
      rw [HN.out] at eP
      go_wp2_with fail
      have HD3 : Hid (Do13 w base P G cap 2 i j sk sx sy us (ps.set i (part13 (j) (1) p 0)) W2) := by
        rw [part13_zero, set_self13 HPI.out]
        exact HD2.out
      clear e0 e1 e2 e3 e4 e5 eP eG fG
      go_loopw [6] (fun q wr => ∃ t : Nat, t ≤ m ∧ q = .int .i64 t ∧ Do13 w base P G cap 2 i j sk sx sy us (ps.set i (part13 (j) (1) p t)) wr) (fun q _ => m - (intOf q).toNat)
      case atStart => exact ⟨0, Nat.zero_le _, rfl, HD3.out⟩
      case round =>
        obtain ⟨t, ht, rfl, DR⟩ := hrel
        obtain ⟨e0, e1, e2, e3, e4, e5, eP, eG, fG⟩ := DR.cells HUI.out
        rw [List.length_set, HN.out] at eP
        have HDR : Hid (Do13 w base P G cap 2 i j sk sx sy us (ps.set i (part13 (j) (1) p t)) wr) := DR
        clear DR
        by_cases hlt : t < m
        · have hltI : (t : Int) < (m : Int) := by omega
          have htp : t < p.length := by rw [HPM.out]; exact hlt
          have HPL : Hid ((part13 (j) (1) p t).length = m) := by (show _ = _; rw [part13_length _ _ _ _ (by omega)]; exact HPM.out)
          have ow : Hid (wr.ownsRow base 52 3 (.slice (some ⟨g, 0, none⟩) m c) m (cells3 (part13 (j) (1) p t))) := HDR.out.row (by rw [HN.out]; exact hi) HUI.out HPL.out
          have hget := part13_get (j) (1) p t htp
          have hce := cells3_get _ t _ hget
          obtain ⟨hy0, hy1⟩ := hy p[t] (List.getElem_mem htp)
          have hset := fun y => cells3_setY (part13 (j) (1) p t) t p[t] y hget
          have hsuc := part13_succ (j) (1) p t htp
          have hsam := part13_same (j) (1) p t htp
          have hjy := @jmp_yes (j) (1) p[t]
          have hjn := @jmp_no (j) (1) p[t]
          generalize p[t] = s at *
          obtain ⟨tk, tx, ty⟩ := s
          simp only at *
          have HC : Hid _ := hce
          have HSET : Hid _ := hset
          have HSUC : Hid _ := hsuc
          have HSAM : Hid _ := hsam
          have HJN : Hid _ := hjn
          have q0 := (World.ownsRow.cellAt ow.out (t * 3) (by omega)).trans HC.out.1
          have q2 := (World.ownsRow.cellAt ow.out (t * 3 + 2) (by omega)).trans HC.out.2.2
          clear hget hce hset hsuc hsam hjn
          by_cases hk7 : tk = 7
          · subst hk7
            by_cases hcp : (j : Int) ≤ ty
            · have HJY : Hid _ := hjy rfl hcp
              clear hjy
              have hcd : (j : Int) ≤ ty := hcp
              go_wp2_with fail
              refine wp_region_held_drew (S := fun w' => w'.cell? ⟨w.heap.size, 1, none⟩ = some (.int .i64 (i : Int)) ∧ w'.cell? ⟨w.heap.size, 2, none⟩ = some (.int .i64 (j : Int)) ∧ w'.cell? ⟨w.heap.size, 3, none⟩ = some (.int .i64 sk) ∧ w'.cell? ⟨w.heap.size, 4, none⟩ = some (.int .i64 sx) ∧ w'.cell? ⟨w.heap.size, 5, none⟩ = some (.int .i64 sy) ∧ w'.cell? ⟨P, 0, none⟩ = some (.slice (some ⟨G, 0, none⟩) n cap) ∧ w'.cell? ⟨G, i, none⟩ = some (.slice (some ⟨g, 0, none⟩) m c) ∧ w'.cell? ⟨g, t * 3, none⟩ = some (.int .i64 7) ∧ w'.cell? ⟨g, t * 3 + 2, none⟩ = some (.int .i64 ty)) (by kernel_rfl) ⟨e1, e2, e3, e4, e5, eP, eG, q0, q2⟩ (fun hHeld => ?_)
              refine wpAnyH_take (i := 0) (oi := ?oig15a0) (v := .pointer (some ⟨G, i, none⟩)) ?hig15a0 (by kernel_rfl) (by kernel_rfl) (by kernel_rfl) ?hqg15a0 ?hyg15a0 hHeld ?hrg15a0
              case hig15a0 =>
                simp only [List.getElem?_toArray, List.getElem?_cons_succ, List.getElem?_cons_zero]
                rfl
              case hqg15a0 => exact fun _ _ _ h => h
              case hyg15a0 => exact Or.inl ⟨by kernel_rfl, fun w hSw => by go_simp⟩
              try simp only [Act.put, List.setIfInBounds_toArray, List.set_cons_zero, List.set_cons_succ]
              refine wpAnyH_take (i := 1) (oi := ?oig15a1) (v := .pointer (some ⟨G, i, none⟩)) ?hig15a1 (by kernel_rfl) (by kernel_rfl) (by kernel_rfl) ?hqg15a1 ?hyg15a1 hHeld ?hrg15a1
              case hig15a1 =>
                simp only [List.getElem?_toArray, List.getElem?_cons_succ, List.getElem?_cons_zero]
                rfl
              case hqg15a1 => exact fun _ _ _ h => h
              case hyg15a1 => exact Or.inl ⟨by kernel_rfl, fun w hSw => by go_simp⟩
              try simp only [Act.put, List.setIfInBounds_toArray, List.set_cons_zero, List.set_cons_succ]
              refine wpAnyH_take (i := 2) (oi := ?oig15a2) (v := .pointer (some ⟨G, i, none⟩)) ?hig15a2 (by kernel_rfl) (by kernel_rfl) (by kernel_rfl) ?hqg15a2 ?hyg15a2 hHeld ?hrg15a2
              case hig15a2 =>
                simp only [List.getElem?_toArray, List.getElem?_cons_succ, List.getElem?_cons_zero]
                rfl
              case hqg15a2 => exact fun _ _ _ h => h
              case hyg15a2 => exact Or.inl ⟨by kernel_rfl, fun w hSw => by go_simp⟩
              try simp only [Act.put, List.setIfInBounds_toArray, List.set_cons_zero, List.set_cons_succ]
              refine wpAnyH_take (i := 3) (oi := ?oig15a3) (v := .slice (some ⟨g, 0, none⟩) m c) ?hig15a3 (by kernel_rfl) (by kernel_rfl) (by kernel_rfl) ?hqg15a3 ?hyg15a3 hHeld ?hrg15a3
              case hig15a3 =>
                simp only [List.getElem?_toArray, List.getElem?_cons_succ, List.getElem?_cons_zero]
                rfl
              case hqg15a3 => exact fun _ _ _ h => h
              case hyg15a3 => exact Or.inl ⟨by kernel_rfl, fun w hSw => by obtain ⟨s1, s2, s3, s4, s5, s6, s7, s8, s9⟩ := hSw; go_simp⟩
              try simp only [Act.put, List.setIfInBounds_toArray, List.set_cons_zero, List.set_cons_succ]
              refine wpAnyH_take (i := 4) (oi := ?oig15a4) (v := .int .i64 (t : Int)) ?hig15a4 (by kernel_rfl) (by kernel_rfl) (by kernel_rfl) ?hqg15a4 ?hyg15a4 hHeld ?hrg15a4
              case hig15a4 =>
                simp only [List.getElem?_toArray, List.getElem?_cons_succ, List.getElem?_cons_zero]
                rfl
              case hqg15a4 => exact fun _ _ _ h => h
              case hyg15a4 => exact Or.inl ⟨by kernel_rfl, fun w hSw => by go_simp⟩
              try simp only [Act.put, List.setIfInBounds_toArray, List.set_cons_zero, List.set_cons_succ]
              refine wpAnyH_take (i := 5) (oi := ?oig15a5) (v := .pointer (some ⟨g, t * 3, none⟩)) ?hig15a5 (by kernel_rfl) (by kernel_rfl) (by kernel_rfl) ?hqg15a5 ?hyg15a5 hHeld ?hrg15a5
              case hig15a5 =>
                simp only [List.getElem?_toArray, List.getElem?_cons_succ, List.getElem?_cons_zero]
                rfl
              case hqg15a5 => exact fun _ _ _ h => h
              case hyg15a5 => exact Or.inl ⟨by kernel_rfl, fun w hSw => by go_simp⟩
              try simp only [Act.put, List.setIfInBounds_toArray, List.set_cons_zero, List.set_cons_succ]
              refine wpAnyH_take (i := 6) (oi := ?oig15a6) (v := .pointer (some ⟨g, t * 3, none⟩)) ?hig15a6 (by kernel_rfl) (by kernel_rfl) (by kernel_rfl) ?hqg15a6 ?hyg15a6 hHeld ?hrg15a6
              case hig15a6 =>
                simp only [List.getElem?_toArray, List.getElem?_cons_succ, List.getElem?_cons_zero]
                rfl
              case hqg15a6 => exact fun _ _ _ h => h
              case hyg15a6 => exact Or.inl ⟨by kernel_rfl, fun w hSw => by go_simp⟩
              try simp only [Act.put, List.setIfInBounds_toArray, List.set_cons_zero, List.set_cons_succ]
              refine wpAnyH_take (i := 7) (oi := ?oig15a7) (v := .int .i64 7) ?hig15a7 (by kernel_rfl) (by kernel_rfl) (by kernel_rfl) ?hqg15a7 ?hyg15a7 hHeld ?hrg15a7
              case hig15a7 =>
                simp only [List.getElem?_toArray, List.getElem?_cons_succ, List.getElem?_cons_zero]
                rfl
              case hqg15a7 => exact fun _ _ _ h => h
              case hyg15a7 => exact Or.inl ⟨by kernel_rfl, fun w hSw => by obtain ⟨s1, s2, s3, s4, s5, s6, s7, s8, s9⟩ := hSw; go_simp⟩
              try simp only [Act.put, List.setIfInBounds_toArray, List.set_cons_zero, List.set_cons_succ]
              refine wpAnyH_take (i := 8) (oi := ?oig15a8) (v := .bool true) ?hig15a8 (by kernel_rfl) (by kernel_rfl) (by kernel_rfl) ?hqg15a8 ?hyg15a8 hHeld ?hrg15a8
              case hig15a8 =>
                simp only [List.getElem?_toArray, List.getElem?_cons_succ, List.getElem?_cons_zero]
                rfl
              case hqg15a8 => exact fun _ _ _ h => h
              case hyg15a8 => exact Or.inl ⟨by kernel_rfl, fun w hSw => by go_simp⟩
              try simp only [Act.put, List.setIfInBounds_toArray, List.set_cons_zero, List.set_cons_succ]
              refine wpAnyH_take (i := 9) (oi := ?oig15a9) (v := .bool true) ?hig15a9 (by kernel_rfl) (by kernel_rfl) (by kernel_rfl) ?hqg15a9 ?hyg15a9 hHeld ?hrg15a9
              case hig15a9 =>
                simp only [List.getElem?_toArray, List.getElem?_cons_succ, List.getElem?_cons_zero]
                rfl
              case hqg15a9 => exact fun _ _ _ h => h
              case hyg15a9 => exact Or.inl ⟨by kernel_rfl, fun w hSw => by go_simp⟩
              try simp only [Act.put, List.setIfInBounds_toArray, List.set_cons_zero, List.set_cons_succ]
              refine wpAnyH_take (i := 10) (oi := ?oig15a10) (v := .pointer (some ⟨G, i, none⟩)) ?hig15a10 (by kernel_rfl) (by kernel_rfl) (by kernel_rfl) ?hqg15a10 ?hyg15a10 hHeld ?hrg15a10
              case hig15a10 =>
                simp only [List.getElem?_toArray, List.getElem?_cons_succ, List.getElem?_cons_zero]
                rfl
              case hqg15a10 => exact fun _ _ _ h => h
              case hyg15a10 => exact Or.inl ⟨by kernel_rfl, fun w hSw => by go_simp⟩
              try simp only [Act.put, List.setIfInBounds_toArray, List.set_cons_zero, List.set_cons_succ]
              refine wpAnyH_take (i := 11) (oi := ?oig15a11) (v := .pointer (some ⟨G, i, none⟩)) ?hig15a11 (by kernel_rfl) (by kernel_rfl) (by kernel_rfl) ?hqg15a11 ?hyg15a11 hHeld ?hrg15a11
              case hig15a11 =>
                simp only [List.getElem?_toArray, List.getElem?_cons_succ, List.getElem?_cons_zero]
                rfl
              case hqg15a11 => exact fun _ _ _ h => h
              case hyg15a11 => exact Or.inl ⟨by kernel_rfl, fun w hSw => by go_simp⟩
              try simp only [Act.put, List.setIfInBounds_toArray, List.set_cons_zero, List.set_cons_succ]
              refine wpAnyH_take (i := 12) (oi := ?oig15a12) (v := .pointer (some ⟨G, i, none⟩)) ?hig15a12 (by kernel_rfl) (by kernel_rfl) (by kernel_rfl) ?hqg15a12 ?hyg15a12 hHeld ?hrg15a12
              case hig15a12 =>
                simp only [List.getElem?_toArray, List.getElem?_cons_succ, List.getElem?_cons_zero]
                rfl
              case hqg15a12 => exact fun _ _ _ h => h
              case hyg15a12 => exact Or.inl ⟨by kernel_rfl, fun w hSw => by go_simp⟩
              try simp only [Act.put, List.setIfInBounds_toArray, List.set_cons_zero, List.set_cons_succ]
              refine wpAnyH_take (i := 13) (oi := ?oig15a13) (v := .slice (some ⟨g, 0, none⟩) m c) ?hig15a13 (by kernel_rfl) (by kernel_rfl) (by kernel_rfl) ?hqg15a13 ?hyg15a13 hHeld ?hrg15a13
              case hig15a13 =>
                simp only [List.getElem?_toArray, List.getElem?_cons_succ, List.getElem?_cons_zero]
                rfl
              case hqg15a13 => exact fun _ _ _ h => h
              case hyg15a13 => exact Or.inl ⟨by kernel_rfl, fun w hSw => by obtain ⟨s1, s2, s3, s4, s5, s6, s7, s8, s9⟩ := hSw; go_simp⟩
              try simp only [Act.put, List.setIfInBounds_toArray, List.set_cons_zero, List.set_cons_succ]
              refine wpAnyH_take (i := 14) (oi := ?oig15a14) (v := .int .i64 (t : Int)) ?hig15a14 (by kernel_rfl) (by kernel_rfl) (by kernel_rfl) ?hqg15a14 ?hyg15a14 hHeld ?hrg15a14
              case hig15a14 =>
                simp only [List.getElem?_toArray, List.getElem?_cons_succ, List.getElem?_cons_zero]
                rfl
              case hqg15a14 => exact fun _ _ _ h => h
              case hyg15a14 => exact Or.inl ⟨by kernel_rfl, fun w hSw => by go_simp⟩
              try simp only [Act.put, List.setIfInBounds_toArray, List.set_cons_zero, List.set_cons_succ]
              refine wpAnyH_take (i := 15) (oi := ?oig15a15) (v := .pointer (some ⟨g, t * 3, none⟩)) ?hig15a15 (by kernel_rfl) (by kernel_rfl) (by kernel_rfl) ?hqg15a15 ?hyg15a15 hHeld ?hrg15a15
              case hig15a15 =>
                simp only [List.getElem?_toArray, List.getElem?_cons_succ, List.getElem?_cons_zero]
                rfl
              case hqg15a15 => exact fun _ _ _ h => h
              case hyg15a15 => exact Or.inl ⟨by kernel_rfl, fun w hSw => by go_simp⟩
              try simp only [Act.put, List.setIfInBounds_toArray, List.set_cons_zero, List.set_cons_succ]
              refine wpAnyH_take (i := 16) (oi := ?oig15a16) (v := .pointer (some ⟨g, t * 3 + 2, none⟩)) ?hig15a16 (by kernel_rfl) (by kernel_rfl) (by kernel_rfl) ?hqg15a16 ?hyg15a16 hHeld ?hrg15a16
              case hig15a16 =>
                simp only [List.getElem?_toArray, List.getElem?_cons_succ, List.getElem?_cons_zero]
                rfl
              case hqg15a16 => exact fun _ _ _ h => h
              case hyg15a16 => exact Or.inl ⟨by kernel_rfl, fun w hSw => by go_simp⟩
              try simp only [Act.put, List.setIfInBounds_toArray, List.set_cons_zero, List.set_cons_succ]
              refine wpAnyH_take (i := 17) (oi := ?oig15a17) (v := .int .i64 ty) ?hig15a17 (by kernel_rfl) (by kernel_rfl) (by kernel_rfl) ?hqg15a17 ?hyg15a17 hHeld ?hrg15a17
              case hig15a17 =>
                simp only [List.getElem?_toArray, List.getElem?_cons_succ, List.getElem?_cons_zero]
                rfl
              case hqg15a17 => exact fun _ _ _ h => h
              case hyg15a17 => exact Or.inl ⟨by kernel_rfl, fun w hSw => by obtain ⟨s1, s2, s3, s4, s5, s6, s7, s8, s9⟩ := hSw; go_simp⟩
              try simp only [Act.put, List.setIfInBounds_toArray, List.set_cons_zero, List.set_cons_succ]
              refine wpAnyH_take (i := 18) (oi := ?oig15a18) (v := .pointer (some ⟨w.heap.size, 2, none⟩)) ?hig15a18 (by kernel_rfl) (by kernel_rfl) (by kernel_rfl) ?hqg15a18 ?hyg15a18 hHeld ?hrg15a18
              case hig15a18 =>
                simp only [List.getElem?_toArray, List.getElem?_cons_succ, List.getElem?_cons_zero]
                rfl
              case hqg15a18 => exact fun _ _ _ h => h
              case hyg15a18 => exact Or.inl ⟨by kernel_rfl, fun w hSw => by go_simp⟩
              try simp only [Act.put, List.setIfInBounds_toArray, List.set_cons_zero, List.set_cons_succ]
              refine wpAnyH_take (i := 19) (oi := ?oig15a19) (v := .int .i64 (j : Int)) ?hig15a19 (by kernel_rfl) (by kernel_rfl) (by kernel_rfl) ?hqg15a19 ?hyg15a19 hHeld ?hrg15a19
              case hig15a19 =>
                simp only [List.getElem?_toArray, List.getElem?_cons_succ, List.getElem?_cons_zero]
                rfl
              case hqg15a19 => exact fun _ _ _ h => h
              case hyg15a19 => exact Or.inl ⟨by kernel_rfl, fun w hSw => by obtain ⟨s1, s2, s3, s4, s5, s6, s7, s8, s9⟩ := hSw; go_simp⟩
              try simp only [Act.put, List.setIfInBounds_toArray, List.set_cons_zero, List.set_cons_succ]
              refine wpAnyH_take (i := 20) (oi := ?oig15a20) (v := .bool true) ?hig15a20 (by kernel_rfl) (by kernel_rfl) (by kernel_rfl) ?hqg15a20 ?hyg15a20 hHeld ?hrg15a20
              case hig15a20 =>
                simp only [List.getElem?_toArray, List.getElem?_cons_succ, List.getElem?_cons_zero]
                rfl
              case hqg15a20 => exact fun _ _ _ h => h
              case hyg15a20 => exact Or.inl ⟨by kernel_rfl, fun w hSw => by go_simp⟩
              try simp only [Act.put, List.setIfInBounds_toArray, List.set_cons_zero, List.set_cons_succ]
              refine wpAnyH_take (i := 21) (oi := ?oig15a21) (v := .bool true) ?hig15a21 (by kernel_rfl) (by kernel_rfl) (by kernel_rfl) ?hqg15a21 ?hyg15a21 hHeld ?hrg15a21
              case hig15a21 =>
                simp only [List.getElem?_toArray, List.getElem?_cons_succ, List.getElem?_cons_zero]
                rfl
              case hqg15a21 => exact fun _ _ _ h => h
              case hyg15a21 => exact Or.inl ⟨by kernel_rfl, fun w hSw => by go_simp⟩
              try simp only [Act.put, List.setIfInBounds_toArray, List.set_cons_zero, List.set_cons_succ]
              refine wpAnyH_done (by kernel_rfl) ?_ _
              have HE : Hid (Do13 w base P G cap 2 i j sk sx sy us (ps.set i (part13 (j) (1) p t)) wr.drew) := (HDR.out).drew
              clear e0 e1 e2 e3 e4 e5 eP eG fG q0 q2
              generalize wr.drew = w3 at *
              obtain ⟨e0, e1, e2, e3, e4, e5, eP, eG, fG⟩ := HE.out.cells HUI.out
              rw [List.length_set, HN.out] at eP
              have ow3 : Hid (w3.ownsRow base 52 3 (.slice (some ⟨g, 0, none⟩) m c) m (cells3 (part13 (j) (1) p t))) := HE.out.row (by rw [HN.out]; exact hi) HUI.out HPL.out
              have q0 := (World.ownsRow.cellAt ow3.out (t * 3) (by omega)).trans HC.out.1
              have q2 := (World.ownsRow.cellAt ow3.out (t * 3 + 2) (by omega)).trans HC.out.2.2
              have f2 := World.ownsRow.frozenAt ow3.out (t * 3 + 2)
              have hwy : IntKind.i64.wrap (ty + 1) = ty + 1 := IntWalk.i64_in _ (by omega)
              go_wp2_with fail
              refine wp_region_late (S := fun w' => w'.cell? ⟨w.heap.size, 1, none⟩ = some (.int .i64 (i : Int)) ∧ w'.cell? ⟨w.heap.size, 2, none⟩ = some (.int .i64 (j : Int)) ∧ w'.cell? ⟨w.heap.size, 3, none⟩ = some (.int .i64 sk) ∧ w'.cell? ⟨w.heap.size, 4, none⟩ = some (.int .i64 sx) ∧ w'.cell? ⟨w.heap.size, 5, none⟩ = some (.int .i64 sy) ∧ w'.cell? ⟨P, 0, none⟩ = some (.slice (some ⟨G, 0, none⟩) n cap) ∧ w'.cell? ⟨G, i, none⟩ = some (.slice (some ⟨g, 0, none⟩) m c) ∧ w'.cell? ⟨g, t * 3, none⟩ = some (.int .i64 7) ∧ w'.cell? ⟨g, t * 3 + 2, none⟩ = some (.int .i64 ty)) (late := fun j => j == 16) (by kernel_rfl) ⟨e1, e2, e3, e4, e5, eP, eG, q0, q2⟩ (fun hHeld => ?_)
              refine wpAnyG_take (i := 0) (oi := ?oig160) (v := .pointer (some ⟨G, i, none⟩)) ?hig160 (by kernel_rfl) (by kernel_rfl) (by kernel_rfl) (by kernel_rfl) ?hqg160 ?hyg160 hHeld ?hrg160
              case hig160 =>
                simp only [List.getElem?_toArray, List.getElem?_cons_succ, List.getElem?_cons_zero]
                rfl
              case hqg160 => exact fun _ _ _ h => h
              case hyg160 => exact Or.inl ⟨by kernel_rfl, fun w hSw => by go_simp⟩
              try simp only [Act.put, List.setIfInBounds_toArray, List.set_cons_zero, List.set_cons_succ]
              refine wpAnyG_take (i := 1) (oi := ?oig161) (v := .pointer (some ⟨G, i, none⟩)) ?hig161 (by kernel_rfl) (by kernel_rfl) (by kernel_rfl) (by kernel_rfl) ?hqg161 ?hyg161 hHeld ?hrg161
              case hig161 =>
                simp only [List.getElem?_toArray, List.getElem?_cons_succ, List.getElem?_cons_zero]
                rfl
              case hqg161 => exact fun _ _ _ h => h
              case hyg161 => exact Or.inl ⟨by kernel_rfl, fun w hSw => by go_simp⟩
              try simp only [Act.put, List.setIfInBounds_toArray, List.set_cons_zero, List.set_cons_succ]
              refine wpAnyG_take (i := 2) (oi := ?oig162) (v := .pointer (some ⟨G, i, none⟩)) ?hig162 (by kernel_rfl) (by kernel_rfl) (by kernel_rfl) (by kernel_rfl) ?hqg162 ?hyg162 hHeld ?hrg162
              case hig162 =>
                simp only [List.getElem?_toArray, List.getElem?_cons_succ, List.getElem?_cons_zero]
                rfl
              case hqg162 => exact fun _ _ _ h => h
              case hyg162 => exact Or.inl ⟨by kernel_rfl, fun w hSw => by go_simp⟩
              try simp only [Act.put, List.setIfInBounds_toArray, List.set_cons_zero, List.set_cons_succ]
              refine wpAnyG_take (i := 3) (oi := ?oig163) (v := .slice (some ⟨g, 0, none⟩) m c) ?hig163 (by kernel_rfl) (by kernel_rfl) (by kernel_rfl) (by kernel_rfl) ?hqg163 ?hyg163 hHeld ?hrg163
              case hig163 =>
                simp only [List.getElem?_toArray, List.getElem?_cons_succ, List.getElem?_cons_zero]
                rfl
              case hqg163 => exact fun _ _ _ h => h
              case hyg163 => exact Or.inl ⟨by kernel_rfl, fun w hSw => by obtain ⟨s1, s2, s3, s4, s5, s6, s7, s8, s9⟩ := hSw; go_simp⟩
              try simp only [Act.put, List.setIfInBounds_toArray, List.set_cons_zero, List.set_cons_succ]
              refine wpAnyG_take (i := 4) (oi := ?oig164) (v := .int .i64 (t : Int)) ?hig164 (by kernel_rfl) (by kernel_rfl) (by kernel_rfl) (by kernel_rfl) ?hqg164 ?hyg164 hHeld ?hrg164
              case hig164 =>
                simp only [List.getElem?_toArray, List.getElem?_cons_succ, List.getElem?_cons_zero]
                rfl
              case hqg164 => exact fun _ _ _ h => h
              case hyg164 => exact Or.inl ⟨by kernel_rfl, fun w hSw => by go_simp⟩
              try simp only [Act.put, List.setIfInBounds_toArray, List.set_cons_zero, List.set_cons_succ]
              refine wpAnyG_take (i := 5) (oi := ?oig165) (v := .pointer (some ⟨G, i, none⟩)) ?hig165 (by kernel_rfl) (by kernel_rfl) (by kernel_rfl) (by kernel_rfl) ?hqg165 ?hyg165 hHeld ?hrg165
              case hig165 =>
                simp only [List.getElem?_toArray, List.getElem?_cons_succ, List.getElem?_cons_zero]
                rfl
              case hqg165 => exact fun _ _ _ h => h
              case hyg165 => exact Or.inl ⟨by kernel_rfl, fun w hSw => by go_simp⟩
              try simp only [Act.put, List.setIfInBounds_toArray, List.set_cons_zero, List.set_cons_succ]
              refine wpAnyG_take (i := 6) (oi := ?oig166) (v := .pointer (some ⟨G, i, none⟩)) ?hig166 (by kernel_rfl) (by kernel_rfl) (by kernel_rfl) (by kernel_rfl) ?hqg166 ?hyg166 hHeld ?hrg166
              case hig166 =>
                simp only [List.getElem?_toArray, List.getElem?_cons_succ, List.getElem?_cons_zero]
                rfl
              case hqg166 => exact fun _ _ _ h => h
              case hyg166 => exact Or.inl ⟨by kernel_rfl, fun w hSw => by go_simp⟩
              try simp only [Act.put, List.setIfInBounds_toArray, List.set_cons_zero, List.set_cons_succ]
              refine wpAnyG_take (i := 7) (oi := ?oig167) (v := .pointer (some ⟨G, i, none⟩)) ?hig167 (by kernel_rfl) (by kernel_rfl) (by kernel_rfl) (by kernel_rfl) ?hqg167 ?hyg167 hHeld ?hrg167
              case hig167 =>
                simp only [List.getElem?_toArray, List.getElem?_cons_succ, List.getElem?_cons_zero]
                rfl
              case hqg167 => exact fun _ _ _ h => h
              case hyg167 => exact Or.inl ⟨by kernel_rfl, fun w hSw => by go_simp⟩
              try simp only [Act.put, List.setIfInBounds_toArray, List.set_cons_zero, List.set_cons_succ]
              refine wpAnyG_take (i := 8) (oi := ?oig168) (v := .slice (some ⟨g, 0, none⟩) m c) ?hig168 (by kernel_rfl) (by kernel_rfl) (by kernel_rfl) (by kernel_rfl) ?hqg168 ?hyg168 hHeld ?hrg168
              case hig168 =>
                simp only [List.getElem?_toArray, List.getElem?_cons_succ, List.getElem?_cons_zero]
                rfl
              case hqg168 => exact fun _ _ _ h => h
              case hyg168 => exact Or.inl ⟨by kernel_rfl, fun w hSw => by obtain ⟨s1, s2, s3, s4, s5, s6, s7, s8, s9⟩ := hSw; go_simp⟩
              try simp only [Act.put, List.setIfInBounds_toArray, List.set_cons_zero, List.set_cons_succ]
              refine wpAnyG_take (i := 9) (oi := ?oig169) (v := .int .i64 (t : Int)) ?hig169 (by kernel_rfl) (by kernel_rfl) (by kernel_rfl) (by kernel_rfl) ?hqg169 ?hyg169 hHeld ?hrg169
              case hig169 =>
                simp only [List.getElem?_toArray, List.getElem?_cons_succ, List.getElem?_cons_zero]
                rfl
              case hqg169 => exact fun _ _ _ h => h
              case hyg169 => exact Or.inl ⟨by kernel_rfl, fun w hSw => by go_simp⟩
              try simp only [Act.put, List.setIfInBounds_toArray, List.set_cons_zero, List.set_cons_succ]
              refine wpAnyG_take (i := 10) (oi := ?oig1610) (v := .pointer (some ⟨g, t * 3, none⟩)) ?hig1610 (by kernel_rfl) (by kernel_rfl) (by kernel_rfl) (by kernel_rfl) ?hqg1610 ?hyg1610 hHeld ?hrg1610
              case hig1610 =>
                simp only [List.getElem?_toArray, List.getElem?_cons_succ, List.getElem?_cons_zero]
                rfl
              case hqg1610 => exact fun _ _ _ h => h
              case hyg1610 => exact Or.inl ⟨by kernel_rfl, fun w hSw => by go_simp⟩
              try simp only [Act.put, List.setIfInBounds_toArray, List.set_cons_zero, List.set_cons_succ]
              refine wpAnyG_take (i := 11) (oi := ?oig1611) (v := .pointer (some ⟨g, t * 3 + 2, none⟩)) ?hig1611 (by kernel_rfl) (by kernel_rfl) (by kernel_rfl) (by kernel_rfl) ?hqg1611 ?hyg1611 hHeld ?hrg1611
              case hig1611 =>
                simp only [List.getElem?_toArray, List.getElem?_cons_succ, List.getElem?_cons_zero]
                rfl
              case hqg1611 => exact fun _ _ _ h => h
              case hyg1611 => exact Or.inl ⟨by kernel_rfl, fun w hSw => by go_simp⟩
              try simp only [Act.put, List.setIfInBounds_toArray, List.set_cons_zero, List.set_cons_succ]
              refine wpAnyG_take (i := 12) (oi := ?oig1612) (v := .int .i64 ty) ?hig1612 (by kernel_rfl) (by kernel_rfl) (by kernel_rfl) (by kernel_rfl) ?hqg1612 ?hyg1612 hHeld ?hrg1612
              case hig1612 =>
                simp only [List.getElem?_toArray, List.getElem?_cons_succ, List.getElem?_cons_zero]
                rfl
              case hqg1612 => exact fun _ _ _ h => h
              case hyg1612 => exact Or.inl ⟨by kernel_rfl, fun w hSw => by obtain ⟨s1, s2, s3, s4, s5, s6, s7, s8, s9⟩ := hSw; go_simp⟩
              try simp only [Act.put, List.setIfInBounds_toArray, List.set_cons_zero, List.set_cons_succ]
              refine wpAnyG_take (i := 13) (oi := ?oig1613) (v := .int .i64 (ty + 1)) ?hig1613 (by kernel_rfl) (by kernel_rfl) (by kernel_rfl) (by kernel_rfl) ?hqg1613 ?hyg1613 hHeld ?hrg1613
              case hig1613 =>
                simp only [List.getElem?_toArray, List.getElem?_cons_succ, List.getElem?_cons_zero]
                rfl
              case hqg1613 => exact fun _ _ _ h => h
              case hyg1613 => exact Or.inl ⟨by kernel_rfl, fun w hSw => by go_simp⟩
              try simp only [Act.put, List.setIfInBounds_toArray, List.set_cons_zero, List.set_cons_succ]
              refine wpAnyG_ready (rs := [14]) (by kernel_rfl) (by simp) ?_
              refine (AllReadyG.cons (o := ?oog1614) ?hog1614 (fun K hK => ?hkg1614) AllReadyG.nil)
              case hog1614 =>
                simp only [List.getElem?_toArray, List.getElem?_cons_succ, List.getElem?_cons_zero]
                rfl
              case hkg1614 =>
                go_simp
                try go_wp2_with fail
                refine hK.out _ _ (Or.inr ⟨e1, e2, e3, e4, e5, eP, eG, q0, q2⟩) (fun hHeld => ?_)
                replace hHeld := hHeld.resolve_left (by decide)
                clear hK K
                try simp only [Act.put, List.setIfInBounds_toArray, List.set_cons_zero, List.set_cons_succ]
                refine wpAnyG_ready (rs := [15]) (by kernel_rfl) (by simp) ?_
                refine (AllReadyG.cons (o := ?oog1615) ?hog1615 (fun K hK => ?hkg1615) AllReadyG.nil)
                case hog1615 =>
                  simp only [List.getElem?_toArray, List.getElem?_cons_succ, List.getElem?_cons_zero]
                  rfl
                case hkg1615 =>
                  go_simp
                  try go_wp2_with fail
                  refine hK.out _ _ (Or.inr ⟨e1, e2, e3, e4, e5, eP, eG, q0, q2⟩) (fun hHeld => ?_)
                  replace hHeld := hHeld.resolve_left (by decide)
                  clear hK K
                  try simp only [Act.put, List.setIfInBounds_toArray, List.set_cons_zero, List.set_cons_succ]
                  refine wpAnyG_ready (rs := [16]) (by kernel_rfl) (by simp) ?_
                  refine (AllReadyG.cons (o := ?oog1616) ?hog1616 (fun K hK => ?hkg1616) AllReadyG.nil)
                  case hog1616 =>
                    simp only [List.getElem?_toArray, List.getElem?_cons_succ, List.getElem?_cons_zero]
                    rfl
                  case hkg1616 =>
                    go_simp
                    try go_wp2_with fail
                    refine hK.out _ _ (Or.inl rfl) (fun _ => ?_)
                    clear hK K
                    try simp only [Act.put, List.setIfInBounds_toArray, List.set_cons_zero, List.set_cons_succ]
                    refine wpAnyG_done (by kernel_rfl) ?_ _
                    have HE3 : Hid (Do13 w base P G cap 2 i j sk sx sy us (ps.set i (part13 (j) (1) p (t + 1))) ((w3.setCell ⟨g, t * 3 + 2, none⟩ (.int .i64 (ty + 1))).drew)) := by
                      have h5 := (World.ownsRow.stored ow3.out (t * 3 + 2) (.int .i64 (ty + 1))).1
                      rw [HSET.out (ty + 1)] at h5
                      have h6 := (HE.out).upd (L := (part13 (j) (1) p t).set t ⟨7, tx, ty + 1⟩) (by simp [HN.out]; exact hi) HUI.out hbase hgb (grown_setRow13 w3 g (t * 3 + 2) (.int .i64 (ty + 1))) (by rw [List.length_set, HPL.out]; exact h5)
                      rw [List.set_set] at h6
                      rw [show part13 (j) (1) p (t + 1) = (part13 (j) (1) p t).set t ⟨7, tx, ty + 1⟩ by rw [HSUC.out, HJY.out]]
                      exact h6.drew
                    generalize (w3.setCell ⟨g, t * 3 + 2, none⟩ (.int .i64 (ty + 1))).drew = w4 at *
                    go_wp2
                    go_roundw
                    case rel => exact ⟨t + 1, by omega, by go_num, HE3.out⟩
                    case measure => simp [intOf]; omega
            · have HNJ : Hid _ := fun h : (7 : Int) = 7 ∧ (j : Int) ≤ ty => hcp h.2
              clear hjy
              have hcd : ¬ (j : Int) ≤ ty := hcp
              go_wp2_with fail
              refine wp_region_held_drew (S := fun w' => w'.cell? ⟨w.heap.size, 1, none⟩ = some (.int .i64 (i : Int)) ∧ w'.cell? ⟨w.heap.size, 2, none⟩ = some (.int .i64 (j : Int)) ∧ w'.cell? ⟨w.heap.size, 3, none⟩ = some (.int .i64 sk) ∧ w'.cell? ⟨w.heap.size, 4, none⟩ = some (.int .i64 sx) ∧ w'.cell? ⟨w.heap.size, 5, none⟩ = some (.int .i64 sy) ∧ w'.cell? ⟨P, 0, none⟩ = some (.slice (some ⟨G, 0, none⟩) n cap) ∧ w'.cell? ⟨G, i, none⟩ = some (.slice (some ⟨g, 0, none⟩) m c) ∧ w'.cell? ⟨g, t * 3, none⟩ = some (.int .i64 7) ∧ w'.cell? ⟨g, t * 3 + 2, none⟩ = some (.int .i64 ty)) (by kernel_rfl) ⟨e1, e2, e3, e4, e5, eP, eG, q0, q2⟩ (fun hHeld => ?_)
              refine wpAnyH_take (i := 0) (oi := ?oig15b0) (v := .pointer (some ⟨G, i, none⟩)) ?hig15b0 (by kernel_rfl) (by kernel_rfl) (by kernel_rfl) ?hqg15b0 ?hyg15b0 hHeld ?hrg15b0
              case hig15b0 =>
                simp only [List.getElem?_toArray, List.getElem?_cons_succ, List.getElem?_cons_zero]
                rfl
              case hqg15b0 => exact fun _ _ _ h => h
              case hyg15b0 => exact Or.inl ⟨by kernel_rfl, fun w hSw => by go_simp⟩
              try simp only [Act.put, List.setIfInBounds_toArray, List.set_cons_zero, List.set_cons_succ]
              refine wpAnyH_take (i := 1) (oi := ?oig15b1) (v := .pointer (some ⟨G, i, none⟩)) ?hig15b1 (by kernel_rfl) (by kernel_rfl) (by kernel_rfl) ?hqg15b1 ?hyg15b1 hHeld ?hrg15b1
              case hig15b1 =>
                simp only [List.getElem?_toArray, List.getElem?_cons_succ, List.getElem?_cons_zero]
                rfl
              case hqg15b1 => exact fun _ _ _ h => h
              case hyg15b1 => exact Or.inl ⟨by kernel_rfl, fun w hSw => by go_simp⟩
              try simp only [Act.put, List.setIfInBounds_toArray, List.set_cons_zero, List.set_cons_succ]
              refine wpAnyH_take (i := 2) (oi := ?oig15b2) (v := .pointer (some ⟨G, i, none⟩)) ?hig15b2 (by kernel_rfl) (by kernel_rfl) (by kernel_rfl) ?hqg15b2 ?hyg15b2 hHeld ?hrg15b2
              case hig15b2 =>
                simp only [List.getElem?_toArray, List.getElem?_cons_succ, List.getElem?_cons_zero]
                rfl
              case hqg15b2 => exact fun _ _ _ h => h
              case hyg15b2 => exact Or.inl ⟨by kernel_rfl, fun w hSw => by go_simp⟩
              try simp only [Act.put, List.setIfInBounds_toArray, List.set_cons_zero, List.set_cons_succ]
              refine wpAnyH_take (i := 3) (oi := ?oig15b3) (v := .slice (some ⟨g, 0, none⟩) m c) ?hig15b3 (by kernel_rfl) (by kernel_rfl) (by kernel_rfl) ?hqg15b3 ?hyg15b3 hHeld ?hrg15b3
              case hig15b3 =>
                simp only [List.getElem?_toArray, List.getElem?_cons_succ, List.getElem?_cons_zero]
                rfl
              case hqg15b3 => exact fun _ _ _ h => h
              case hyg15b3 => exact Or.inl ⟨by kernel_rfl, fun w hSw => by obtain ⟨s1, s2, s3, s4, s5, s6, s7, s8, s9⟩ := hSw; go_simp⟩
              try simp only [Act.put, List.setIfInBounds_toArray, List.set_cons_zero, List.set_cons_succ]
              refine wpAnyH_take (i := 4) (oi := ?oig15b4) (v := .int .i64 (t : Int)) ?hig15b4 (by kernel_rfl) (by kernel_rfl) (by kernel_rfl) ?hqg15b4 ?hyg15b4 hHeld ?hrg15b4
              case hig15b4 =>
                simp only [List.getElem?_toArray, List.getElem?_cons_succ, List.getElem?_cons_zero]
                rfl
              case hqg15b4 => exact fun _ _ _ h => h
              case hyg15b4 => exact Or.inl ⟨by kernel_rfl, fun w hSw => by go_simp⟩
              try simp only [Act.put, List.setIfInBounds_toArray, List.set_cons_zero, List.set_cons_succ]
              refine wpAnyH_take (i := 5) (oi := ?oig15b5) (v := .pointer (some ⟨g, t * 3, none⟩)) ?hig15b5 (by kernel_rfl) (by kernel_rfl) (by kernel_rfl) ?hqg15b5 ?hyg15b5 hHeld ?hrg15b5
              case hig15b5 =>
                simp only [List.getElem?_toArray, List.getElem?_cons_succ, List.getElem?_cons_zero]
                rfl
              case hqg15b5 => exact fun _ _ _ h => h
              case hyg15b5 => exact Or.inl ⟨by kernel_rfl, fun w hSw => by go_simp⟩
              try simp only [Act.put, List.setIfInBounds_toArray, List.set_cons_zero, List.set_cons_succ]
              refine wpAnyH_take (i := 6) (oi := ?oig15b6) (v := .pointer (some ⟨g, t * 3, none⟩)) ?hig15b6 (by kernel_rfl) (by kernel_rfl) (by kernel_rfl) ?hqg15b6 ?hyg15b6 hHeld ?hrg15b6
              case hig15b6 =>
                simp only [List.getElem?_toArray, List.getElem?_cons_succ, List.getElem?_cons_zero]
                rfl
              case hqg15b6 => exact fun _ _ _ h => h
              case hyg15b6 => exact Or.inl ⟨by kernel_rfl, fun w hSw => by go_simp⟩
              try simp only [Act.put, List.setIfInBounds_toArray, List.set_cons_zero, List.set_cons_succ]
              refine wpAnyH_take (i := 7) (oi := ?oig15b7) (v := .int .i64 7) ?hig15b7 (by kernel_rfl) (by kernel_rfl) (by kernel_rfl) ?hqg15b7 ?hyg15b7 hHeld ?hrg15b7
              case hig15b7 =>
                simp only [List.getElem?_toArray, List.getElem?_cons_succ, List.getElem?_cons_zero]
                rfl
              case hqg15b7 => exact fun _ _ _ h => h
              case hyg15b7 => exact Or.inl ⟨by kernel_rfl, fun w hSw => by obtain ⟨s1, s2, s3, s4, s5, s6, s7, s8, s9⟩ := hSw; go_simp⟩
              try simp only [Act.put, List.setIfInBounds_toArray, List.set_cons_zero, List.set_cons_succ]
              refine wpAnyH_take (i := 8) (oi := ?oig15b8) (v := .bool true) ?hig15b8 (by kernel_rfl) (by kernel_rfl) (by kernel_rfl) ?hqg15b8 ?hyg15b8 hHeld ?hrg15b8
              case hig15b8 =>
                simp only [List.getElem?_toArray, List.getElem?_cons_succ, List.getElem?_cons_zero]
                rfl
              case hqg15b8 => exact fun _ _ _ h => h
              case hyg15b8 => exact Or.inl ⟨by kernel_rfl, fun w hSw => by go_simp⟩
              try simp only [Act.put, List.setIfInBounds_toArray, List.set_cons_zero, List.set_cons_succ]
              refine wpAnyH_take (i := 9) (oi := ?oig15b9) (v := .bool true) ?hig15b9 (by kernel_rfl) (by kernel_rfl) (by kernel_rfl) ?hqg15b9 ?hyg15b9 hHeld ?hrg15b9
              case hig15b9 =>
                simp only [List.getElem?_toArray, List.getElem?_cons_succ, List.getElem?_cons_zero]
                rfl
              case hqg15b9 => exact fun _ _ _ h => h
              case hyg15b9 => exact Or.inl ⟨by kernel_rfl, fun w hSw => by go_simp⟩
              try simp only [Act.put, List.setIfInBounds_toArray, List.set_cons_zero, List.set_cons_succ]
              refine wpAnyH_take (i := 10) (oi := ?oig15b10) (v := .pointer (some ⟨G, i, none⟩)) ?hig15b10 (by kernel_rfl) (by kernel_rfl) (by kernel_rfl) ?hqg15b10 ?hyg15b10 hHeld ?hrg15b10
              case hig15b10 =>
                simp only [List.getElem?_toArray, List.getElem?_cons_succ, List.getElem?_cons_zero]
                rfl
              case hqg15b10 => exact fun _ _ _ h => h
              case hyg15b10 => exact Or.inl ⟨by kernel_rfl, fun w hSw => by go_simp⟩
              try simp only [Act.put, List.setIfInBounds_toArray, List.set_cons_zero, List.set_cons_succ]
              refine wpAnyH_take (i := 11) (oi := ?oig15b11) (v := .pointer (some ⟨G, i, none⟩)) ?hig15b11 (by kernel_rfl) (by kernel_rfl) (by kernel_rfl) ?hqg15b11 ?hyg15b11 hHeld ?hrg15b11
              case hig15b11 =>
                simp only [List.getElem?_toArray, List.getElem?_cons_succ, List.getElem?_cons_zero]
                rfl
              case hqg15b11 => exact fun _ _ _ h => h
              case hyg15b11 => exact Or.inl ⟨by kernel_rfl, fun w hSw => by go_simp⟩
              try simp only [Act.put, List.setIfInBounds_toArray, List.set_cons_zero, List.set_cons_succ]
              refine wpAnyH_take (i := 12) (oi := ?oig15b12) (v := .pointer (some ⟨G, i, none⟩)) ?hig15b12 (by kernel_rfl) (by kernel_rfl) (by kernel_rfl) ?hqg15b12 ?hyg15b12 hHeld ?hrg15b12
              case hig15b12 =>
                simp only [List.getElem?_toArray, List.getElem?_cons_succ, List.getElem?_cons_zero]
                rfl
              case hqg15b12 => exact fun _ _ _ h => h
              case hyg15b12 => exact Or.inl ⟨by kernel_rfl, fun w hSw => by go_simp⟩
              try simp only [Act.put, List.setIfInBounds_toArray, List.set_cons_zero, List.set_cons_succ]
              refine wpAnyH_take (i := 13) (oi := ?oig15b13) (v := .slice (some ⟨g, 0, none⟩) m c) ?hig15b13 (by kernel_rfl) (by kernel_rfl) (by kernel_rfl) ?hqg15b13 ?hyg15b13 hHeld ?hrg15b13
              case hig15b13 =>
                simp only [List.getElem?_toArray, List.getElem?_cons_succ, List.getElem?_cons_zero]
                rfl
              case hqg15b13 => exact fun _ _ _ h => h
              case hyg15b13 => exact Or.inl ⟨by kernel_rfl, fun w hSw => by obtain ⟨s1, s2, s3, s4, s5, s6, s7, s8, s9⟩ := hSw; go_simp⟩
              try simp only [Act.put, List.setIfInBounds_toArray, List.set_cons_zero, List.set_cons_succ]
              refine wpAnyH_take (i := 14) (oi := ?oig15b14) (v := .int .i64 (t : Int)) ?hig15b14 (by kernel_rfl) (by kernel_rfl) (by kernel_rfl) ?hqg15b14 ?hyg15b14 hHeld ?hrg15b14
              case hig15b14 =>
                simp only [List.getElem?_toArray, List.getElem?_cons_succ, List.getElem?_cons_zero]
                rfl
              case hqg15b14 => exact fun _ _ _ h => h
              case hyg15b14 => exact Or.inl ⟨by kernel_rfl, fun w hSw => by go_simp⟩
              try simp only [Act.put, List.setIfInBounds_toArray, List.set_cons_zero, List.set_cons_succ]
              refine wpAnyH_take (i := 15) (oi := ?oig15b15) (v := .pointer (some ⟨g, t * 3, none⟩)) ?hig15b15 (by kernel_rfl) (by kernel_rfl) (by kernel_rfl) ?hqg15b15 ?hyg15b15 hHeld ?hrg15b15
              case hig15b15 =>
                simp only [List.getElem?_toArray, List.getElem?_cons_succ, List.getElem?_cons_zero]
                rfl
              case hqg15b15 => exact fun _ _ _ h => h
              case hyg15b15 => exact Or.inl ⟨by kernel_rfl, fun w hSw => by go_simp⟩
              try simp only [Act.put, List.setIfInBounds_toArray, List.set_cons_zero, List.set_cons_succ]
              refine wpAnyH_take (i := 16) (oi := ?oig15b16) (v := .pointer (some ⟨g, t * 3 + 2, none⟩)) ?hig15b16 (by kernel_rfl) (by kernel_rfl) (by kernel_rfl) ?hqg15b16 ?hyg15b16 hHeld ?hrg15b16
              case hig15b16 =>
                simp only [List.getElem?_toArray, List.getElem?_cons_succ, List.getElem?_cons_zero]
                rfl
              case hqg15b16 => exact fun _ _ _ h => h
              case hyg15b16 => exact Or.inl ⟨by kernel_rfl, fun w hSw => by go_simp⟩
              try simp only [Act.put, List.setIfInBounds_toArray, List.set_cons_zero, List.set_cons_succ]
              refine wpAnyH_take (i := 17) (oi := ?oig15b17) (v := .int .i64 ty) ?hig15b17 (by kernel_rfl) (by kernel_rfl) (by kernel_rfl) ?hqg15b17 ?hyg15b17 hHeld ?hrg15b17
              case hig15b17 =>
                simp only [List.getElem?_toArray, List.getElem?_cons_succ, List.getElem?_cons_zero]
                rfl
              case hqg15b17 => exact fun _ _ _ h => h
              case hyg15b17 => exact Or.inl ⟨by kernel_rfl, fun w hSw => by obtain ⟨s1, s2, s3, s4, s5, s6, s7, s8, s9⟩ := hSw; go_simp⟩
              try simp only [Act.put, List.setIfInBounds_toArray, List.set_cons_zero, List.set_cons_succ]
              refine wpAnyH_take (i := 18) (oi := ?oig15b18) (v := .pointer (some ⟨w.heap.size, 2, none⟩)) ?hig15b18 (by kernel_rfl) (by kernel_rfl) (by kernel_rfl) ?hqg15b18 ?hyg15b18 hHeld ?hrg15b18
              case hig15b18 =>
                simp only [List.getElem?_toArray, List.getElem?_cons_succ, List.getElem?_cons_zero]
                rfl
              case hqg15b18 => exact fun _ _ _ h => h
              case hyg15b18 => exact Or.inl ⟨by kernel_rfl, fun w hSw => by go_simp⟩
              try simp only [Act.put, List.setIfInBounds_toArray, List.set_cons_zero, List.set_cons_succ]
              refine wpAnyH_take (i := 19) (oi := ?oig15b19) (v := .int .i64 (j : Int)) ?hig15b19 (by kernel_rfl) (by kernel_rfl) (by kernel_rfl) ?hqg15b19 ?hyg15b19 hHeld ?hrg15b19
              case hig15b19 =>
                simp only [List.getElem?_toArray, List.getElem?_cons_succ, List.getElem?_cons_zero]
                rfl
              case hqg15b19 => exact fun _ _ _ h => h
              case hyg15b19 => exact Or.inl ⟨by kernel_rfl, fun w hSw => by obtain ⟨s1, s2, s3, s4, s5, s6, s7, s8, s9⟩ := hSw; go_simp⟩
              try simp only [Act.put, List.setIfInBounds_toArray, List.set_cons_zero, List.set_cons_succ]
              refine wpAnyH_take (i := 20) (oi := ?oig15b20) (v := .bool false) ?hig15b20 (by kernel_rfl) (by kernel_rfl) (by kernel_rfl) ?hqg15b20 ?hyg15b20 hHeld ?hrg15b20
              case hig15b20 =>
                simp only [List.getElem?_toArray, List.getElem?_cons_succ, List.getElem?_cons_zero]
                rfl
              case hqg15b20 => exact fun _ _ _ h => h
              case hyg15b20 => exact Or.inl ⟨by kernel_rfl, fun w hSw => by go_simp⟩
              try simp only [Act.put, List.setIfInBounds_toArray, List.set_cons_zero, List.set_cons_succ]
              refine wpAnyH_take (i := 21) (oi := ?oig15b21) (v := .bool false) ?hig15b21 (by kernel_rfl) (by kernel_rfl) (by kernel_rfl) ?hqg15b21 ?hyg15b21 hHeld ?hrg15b21
              case hig15b21 =>
                simp only [List.getElem?_toArray, List.getElem?_cons_succ, List.getElem?_cons_zero]
                rfl
              case hqg15b21 => exact fun _ _ _ h => h
              case hyg15b21 => exact Or.inl ⟨by kernel_rfl, fun w hSw => by go_simp⟩
              try simp only [Act.put, List.setIfInBounds_toArray, List.set_cons_zero, List.set_cons_succ]
              refine wpAnyH_done (by kernel_rfl) ?_ _
              have HE : Hid (Do13 w base P G cap 2 i j sk sx sy us (ps.set i (part13 (j) (1) p t)) wr.drew) := (HDR.out).drew
              generalize wr.drew = w3 at *
              go_wp2
              go_roundw
              case rel => exact ⟨t + 1, by omega, by go_num, by rw [HSAM.out (HJN.out HNJ.out)]; exact HE.out⟩
              case measure => simp [intOf]; omega
          · have HNJ : Hid _ := fun h : tk = 7 ∧ (j : Int) ≤ ty => hk7 h.1
            have hk7b : (tk == 7) = false := by simpa using hk7
            clear hjy
            go_wp2_with fail
            refine wp_region_held_drew (S := fun w' => w'.cell? ⟨w.heap.size, 1, none⟩ = some (.int .i64 (i : Int)) ∧ w'.cell? ⟨w.heap.size, 2, none⟩ = some (.int .i64 (j : Int)) ∧ w'.cell? ⟨w.heap.size, 3, none⟩ = some (.int .i64 sk) ∧ w'.cell? ⟨w.heap.size, 4, none⟩ = some (.int .i64 sx) ∧ w'.cell? ⟨w.heap.size, 5, none⟩ = some (.int .i64 sy) ∧ w'.cell? ⟨P, 0, none⟩ = some (.slice (some ⟨G, 0, none⟩) n cap) ∧ w'.cell? ⟨G, i, none⟩ = some (.slice (some ⟨g, 0, none⟩) m c) ∧ w'.cell? ⟨g, t * 3, none⟩ = some (.int .i64 tk) ∧ w'.cell? ⟨g, t * 3 + 2, none⟩ = some (.int .i64 ty)) (by kernel_rfl) ⟨e1, e2, e3, e4, e5, eP, eG, q0, q2⟩ (fun hHeld => ?_)
            refine wpAnyH_take (i := 0) (oi := ?oig15c0) (v := .pointer (some ⟨G, i, none⟩)) ?hig15c0 (by kernel_rfl) (by kernel_rfl) (by kernel_rfl) ?hqg15c0 ?hyg15c0 hHeld ?hrg15c0
            case hig15c0 =>
              simp only [List.getElem?_toArray, List.getElem?_cons_succ, List.getElem?_cons_zero]
              rfl
            case hqg15c0 => exact fun _ _ _ h => h
            case hyg15c0 => exact Or.inl ⟨by kernel_rfl, fun w hSw => by go_simp⟩
            try simp only [Act.put, List.setIfInBounds_toArray, List.set_cons_zero, List.set_cons_succ]
            refine wpAnyH_take (i := 1) (oi := ?oig15c1) (v := .pointer (some ⟨G, i, none⟩)) ?hig15c1 (by kernel_rfl) (by kernel_rfl) (by kernel_rfl) ?hqg15c1 ?hyg15c1 hHeld ?hrg15c1
            case hig15c1 =>
              simp only [List.getElem?_toArray, List.getElem?_cons_succ, List.getElem?_cons_zero]
              rfl
            case hqg15c1 => exact fun _ _ _ h => h
            case hyg15c1 => exact Or.inl ⟨by kernel_rfl, fun w hSw => by go_simp⟩
            try simp only [Act.put, List.setIfInBounds_toArray, List.set_cons_zero, List.set_cons_succ]
            refine wpAnyH_take (i := 2) (oi := ?oig15c2) (v := .pointer (some ⟨G, i, none⟩)) ?hig15c2 (by kernel_rfl) (by kernel_rfl) (by kernel_rfl) ?hqg15c2 ?hyg15c2 hHeld ?hrg15c2
            case hig15c2 =>
              simp only [List.getElem?_toArray, List.getElem?_cons_succ, List.getElem?_cons_zero]
              rfl
            case hqg15c2 => exact fun _ _ _ h => h
            case hyg15c2 => exact Or.inl ⟨by kernel_rfl, fun w hSw => by go_simp⟩
            try simp only [Act.put, List.setIfInBounds_toArray, List.set_cons_zero, List.set_cons_succ]
            refine wpAnyH_take (i := 3) (oi := ?oig15c3) (v := .slice (some ⟨g, 0, none⟩) m c) ?hig15c3 (by kernel_rfl) (by kernel_rfl) (by kernel_rfl) ?hqg15c3 ?hyg15c3 hHeld ?hrg15c3
            case hig15c3 =>
              simp only [List.getElem?_toArray, List.getElem?_cons_succ, List.getElem?_cons_zero]
              rfl
            case hqg15c3 => exact fun _ _ _ h => h
            case hyg15c3 => exact Or.inl ⟨by kernel_rfl, fun w hSw => by obtain ⟨s1, s2, s3, s4, s5, s6, s7, s8, s9⟩ := hSw; go_simp⟩
            try simp only [Act.put, List.setIfInBounds_toArray, List.set_cons_zero, List.set_cons_succ]
            refine wpAnyH_take (i := 4) (oi := ?oig15c4) (v := .int .i64 (t : Int)) ?hig15c4 (by kernel_rfl) (by kernel_rfl) (by kernel_rfl) ?hqg15c4 ?hyg15c4 hHeld ?hrg15c4
            case hig15c4 =>
              simp only [List.getElem?_toArray, List.getElem?_cons_succ, List.getElem?_cons_zero]
              rfl
            case hqg15c4 => exact fun _ _ _ h => h
            case hyg15c4 => exact Or.inl ⟨by kernel_rfl, fun w hSw => by go_simp⟩
            try simp only [Act.put, List.setIfInBounds_toArray, List.set_cons_zero, List.set_cons_succ]
            refine wpAnyH_take (i := 5) (oi := ?oig15c5) (v := .pointer (some ⟨g, t * 3, none⟩)) ?hig15c5 (by kernel_rfl) (by kernel_rfl) (by kernel_rfl) ?hqg15c5 ?hyg15c5 hHeld ?hrg15c5
            case hig15c5 =>
              simp only [List.getElem?_toArray, List.getElem?_cons_succ, List.getElem?_cons_zero]
              rfl
            case hqg15c5 => exact fun _ _ _ h => h
            case hyg15c5 => exact Or.inl ⟨by kernel_rfl, fun w hSw => by go_simp⟩
            try simp only [Act.put, List.setIfInBounds_toArray, List.set_cons_zero, List.set_cons_succ]
            refine wpAnyH_take (i := 6) (oi := ?oig15c6) (v := .pointer (some ⟨g, t * 3, none⟩)) ?hig15c6 (by kernel_rfl) (by kernel_rfl) (by kernel_rfl) ?hqg15c6 ?hyg15c6 hHeld ?hrg15c6
            case hig15c6 =>
              simp only [List.getElem?_toArray, List.getElem?_cons_succ, List.getElem?_cons_zero]
              rfl
            case hqg15c6 => exact fun _ _ _ h => h
            case hyg15c6 => exact Or.inl ⟨by kernel_rfl, fun w hSw => by go_simp⟩
            try simp only [Act.put, List.setIfInBounds_toArray, List.set_cons_zero, List.set_cons_succ]
            refine wpAnyH_take (i := 7) (oi := ?oig15c7) (v := .int .i64 tk) ?hig15c7 (by kernel_rfl) (by kernel_rfl) (by kernel_rfl) ?hqg15c7 ?hyg15c7 hHeld ?hrg15c7
            case hig15c7 =>
              simp only [List.getElem?_toArray, List.getElem?_cons_succ, List.getElem?_cons_zero]
              rfl
            case hqg15c7 => exact fun _ _ _ h => h
            case hyg15c7 => exact Or.inl ⟨by kernel_rfl, fun w hSw => by obtain ⟨s1, s2, s3, s4, s5, s6, s7, s8, s9⟩ := hSw; go_simp⟩
            try simp only [Act.put, List.setIfInBounds_toArray, List.set_cons_zero, List.set_cons_succ]
            refine wpAnyH_take (i := 8) (oi := ?oig15c8) (v := .bool false) ?hig15c8 (by kernel_rfl) (by kernel_rfl) (by kernel_rfl) ?hqg15c8 ?hyg15c8 hHeld ?hrg15c8
            case hig15c8 =>
              simp only [List.getElem?_toArray, List.getElem?_cons_succ, List.getElem?_cons_zero]
              rfl
            case hqg15c8 => exact fun _ _ _ h => h
            case hyg15c8 => exact Or.inl ⟨by kernel_rfl, fun w hSw => by go_simp⟩
            try simp only [Act.put, List.setIfInBounds_toArray, List.set_cons_zero, List.set_cons_succ]
            refine wpAnyH_take (i := 9) (oi := ?oig15c9) (v := .bool false) ?hig15c9 (by kernel_rfl) (by kernel_rfl) (by kernel_rfl) ?hqg15c9 ?hyg15c9 hHeld ?hrg15c9
            case hig15c9 =>
              simp only [List.getElem?_toArray, List.getElem?_cons_succ, List.getElem?_cons_zero]
              rfl
            case hqg15c9 => exact fun _ _ _ h => h
            case hyg15c9 => exact Or.inl ⟨by kernel_rfl, fun w hSw => by go_simp⟩
            try simp only [Act.put, List.setIfInBounds_toArray, List.set_cons_zero, List.set_cons_succ]
            refine wpAnyH_take (i := 10) (oi := ?oig15c10) (v := undef) ?hig15c10 (by kernel_rfl) (by kernel_rfl) (by kernel_rfl) ?hqg15c10 ?hyg15c10 hHeld ?hrg15c10
            case hig15c10 =>
              simp only [List.getElem?_toArray, List.getElem?_cons_succ, List.getElem?_cons_zero]
              rfl
            case hqg15c10 => exact fun _ _ _ h => h
            case hyg15c10 => exact Or.inr ⟨by kernel_rfl, rfl⟩
            try simp only [Act.put, List.setIfInBounds_toArray, List.set_cons_zero, List.set_cons_succ]
            refine wpAnyH_take (i := 11) (oi := ?oig15c11) (v := undef) ?hig15c11 (by kernel_rfl) (by kernel_rfl) (by kernel_rfl) ?hqg15c11 ?hyg15c11 hHeld ?hrg15c11
            case hig15c11 =>
              simp only [List.getElem?_toArray, List.getElem?_cons_succ, List.getElem?_cons_zero]
              rfl
            case hqg15c11 => exact fun _ _ _ h => h
            case hyg15c11 => exact Or.inr ⟨by kernel_rfl, rfl⟩
            try simp only [Act.put, List.setIfInBounds_toArray, List.set_cons_zero, List.set_cons_succ]
            refine wpAnyH_take (i := 12) (oi := ?oig15c12) (v := undef) ?hig15c12 (by kernel_rfl) (by kernel_rfl) (by kernel_rfl) ?hqg15c12 ?hyg15c12 hHeld ?hrg15c12
            case hig15c12 =>
              simp only [List.getElem?_toArray, List.getElem?_cons_succ, List.getElem?_cons_zero]
              rfl
            case hqg15c12 => exact fun _ _ _ h => h
            case hyg15c12 => exact Or.inr ⟨by kernel_rfl, rfl⟩
            try simp only [Act.put, List.setIfInBounds_toArray, List.set_cons_zero, List.set_cons_succ]
            refine wpAnyH_take (i := 13) (oi := ?oig15c13) (v := undef) ?hig15c13 (by kernel_rfl) (by kernel_rfl) (by kernel_rfl) ?hqg15c13 ?hyg15c13 hHeld ?hrg15c13
            case hig15c13 =>
              simp only [List.getElem?_toArray, List.getElem?_cons_succ, List.getElem?_cons_zero]
              rfl
            case hqg15c13 => exact fun _ _ _ h => h
            case hyg15c13 => exact Or.inr ⟨by kernel_rfl, rfl⟩
            try simp only [Act.put, List.setIfInBounds_toArray, List.set_cons_zero, List.set_cons_succ]
            refine wpAnyH_take (i := 14) (oi := ?oig15c14) (v := undef) ?hig15c14 (by kernel_rfl) (by kernel_rfl) (by kernel_rfl) ?hqg15c14 ?hyg15c14 hHeld ?hrg15c14
            case hig15c14 =>
              simp only [List.getElem?_toArray, List.getElem?_cons_succ, List.getElem?_cons_zero]
              rfl
            case hqg15c14 => exact fun _ _ _ h => h
            case hyg15c14 => exact Or.inr ⟨by kernel_rfl, rfl⟩
            try simp only [Act.put, List.setIfInBounds_toArray, List.set_cons_zero, List.set_cons_succ]
            refine wpAnyH_take (i := 15) (oi := ?oig15c15) (v := undef) ?hig15c15 (by kernel_rfl) (by kernel_rfl) (by kernel_rfl) ?hqg15c15 ?hyg15c15 hHeld ?hrg15c15
            case hig15c15 =>
              simp only [List.getElem?_toArray, List.getElem?_cons_succ, List.getElem?_cons_zero]
              rfl
            case hqg15c15 => exact fun _ _ _ h => h
            case hyg15c15 => exact Or.inr ⟨by kernel_rfl, rfl⟩
            try simp only [Act.put, List.setIfInBounds_toArray, List.set_cons_zero, List.set_cons_succ]
            refine wpAnyH_take (i := 16) (oi := ?oig15c16) (v := undef) ?hig15c16 (by kernel_rfl) (by kernel_rfl) (by kernel_rfl) ?hqg15c16 ?hyg15c16 hHeld ?hrg15c16
            case hig15c16 =>
              simp only [List.getElem?_toArray, List.getElem?_cons_succ, List.getElem?_cons_zero]
              rfl
            case hqg15c16 => exact fun _ _ _ h => h
            case hyg15c16 => exact Or.inr ⟨by kernel_rfl, rfl⟩
            try simp only [Act.put, List.setIfInBounds_toArray, List.set_cons_zero, List.set_cons_succ]
            refine wpAnyH_take (i := 17) (oi := ?oig15c17) (v := undef) ?hig15c17 (by kernel_rfl) (by kernel_rfl) (by kernel_rfl) ?hqg15c17 ?hyg15c17 hHeld ?hrg15c17
            case hig15c17 =>
              simp only [List.getElem?_toArray, List.getElem?_cons_succ, List.getElem?_cons_zero]
              rfl
            case hqg15c17 => exact fun _ _ _ h => h
            case hyg15c17 => exact Or.inr ⟨by kernel_rfl, rfl⟩
            try simp only [Act.put, List.setIfInBounds_toArray, List.set_cons_zero, List.set_cons_succ]
            refine wpAnyH_take (i := 18) (oi := ?oig15c18) (v := undef) ?hig15c18 (by kernel_rfl) (by kernel_rfl) (by kernel_rfl) ?hqg15c18 ?hyg15c18 hHeld ?hrg15c18
            case hig15c18 =>
              simp only [List.getElem?_toArray, List.getElem?_cons_succ, List.getElem?_cons_zero]
              rfl
            case hqg15c18 => exact fun _ _ _ h => h
            case hyg15c18 => exact Or.inr ⟨by kernel_rfl, rfl⟩
            try simp only [Act.put, List.setIfInBounds_toArray, List.set_cons_zero, List.set_cons_succ]
            refine wpAnyH_take (i := 19) (oi := ?oig15c19) (v := undef) ?hig15c19 (by kernel_rfl) (by kernel_rfl) (by kernel_rfl) ?hqg15c19 ?hyg15c19 hHeld ?hrg15c19
            case hig15c19 =>
              simp only [List.getElem?_toArray, List.getElem?_cons_succ, List.getElem?_cons_zero]
              rfl
            case hqg15c19 => exact fun _ _ _ h => h
            case hyg15c19 => exact Or.inr ⟨by kernel_rfl, rfl⟩
            try simp only [Act.put, List.setIfInBounds_toArray, List.set_cons_zero, List.set_cons_succ]
            refine wpAnyH_take (i := 20) (oi := ?oig15c20) (v := undef) ?hig15c20 (by kernel_rfl) (by kernel_rfl) (by kernel_rfl) ?hqg15c20 ?hyg15c20 hHeld ?hrg15c20
            case hig15c20 =>
              simp only [List.getElem?_toArray, List.getElem?_cons_succ, List.getElem?_cons_zero]
              rfl
            case hqg15c20 => exact fun _ _ _ h => h
            case hyg15c20 => exact Or.inr ⟨by kernel_rfl, rfl⟩
            try simp only [Act.put, List.setIfInBounds_toArray, List.set_cons_zero, List.set_cons_succ]
            refine wpAnyH_take (i := 21) (oi := ?oig15c21) (v := .bool false) ?hig15c21 (by kernel_rfl) (by kernel_rfl) (by kernel_rfl) ?hqg15c21 ?hyg15c21 hHeld ?hrg15c21
            case hig15c21 =>
              simp only [List.getElem?_toArray, List.getElem?_cons_succ, List.getElem?_cons_zero]
              rfl
            case hqg15c21 => exact fun _ _ _ h => h
            case hyg15c21 => exact Or.inl ⟨by kernel_rfl, fun w hSw => by go_simp⟩
            try simp only [Act.put, List.setIfInBounds_toArray, List.set_cons_zero, List.set_cons_succ]
            refine wpAnyH_done (by kernel_rfl) ?_ _
            have HE : Hid (Do13 w base P G cap 2 i j sk sx sy us (ps.set i (part13 (j) (1) p t)) wr.drew) := (HDR.out).drew
            generalize wr.drew = w3 at *
            go_wp2
            go_roundw
            case rel => exact ⟨t + 1, by omega, by go_num, by rw [HSAM.out (HJN.out HNJ.out)]; exact HE.out⟩
            case measure => simp [intOf]; omega
        · have htm : m = t := by omega
          subst htm
          have HD4 : Hid (Do13 w base P G cap 2 i j sk sx sy us (ps.set i (mv (j) (1) p)) wr) := by
            have e9 : part13 (j) (1) p m = mv (j) (1) p := by rw [← HPM.out]; exact part13_all _ _ _
            have h9 := HDR.out
            rw [e9] at h9
            exact h9
          clear HDR HD3 HD2 HD1 HD0
          have HML : Hid ((mv (j : Int) 1 p).length = m) := (mv_length _ _ _).trans HPM.out
          have HEA0 : Hid (edAdd p j ⟨sk, sx, sy⟩ = (mv (j : Int) 1 p).take j ++ ⟨sk, sx, sy⟩ :: (mv (j : Int) 1 p).drop j) := rfl
          have ow4 : Hid (wr.ownsRow base 52 3 (.slice (some ⟨g, 0, none⟩) m c) m (cells3 (mv (j : Int) 1 p))) := HD4.out.row (by rw [HN.out]; exact hi) HUI.out HML.out
          generalize mv (j : Int) 1 p = q at *
          have HRL : Hid ((edAdd p j ⟨sk, sx, sy⟩).length = m + 1) := by (show _ = _; rw [HEA0.out, List.length_append, List.length_cons, List.length_take, List.length_drop, HML.out]; omega)
          have HLT : Hid ((cells3 (q.take j)).length = j * 3) := by (show _ = _; rw [cells3_length, List.length_take, HML.out]; congr 1; omega)
          have HLD : Hid ((cells3 (q.drop j)).length = (m - j) * 3) := by (show _ = _; rw [cells3_length, List.length_drop, HML.out])
          have HLS : Hid (j + 1 + (m - j) = m + 1) := by (show _ = _; omega)
          have HEA : Hid (cells3 (q.take j) ++ cells3 [⟨sk, sx, sy⟩] ++ cells3 (q.drop j) = cells3 (edAdd p j ⟨sk, sx, sy⟩)) := by (show _ = _; rw [HEA0.out, cells3_append]; simp [cells3])
          have hcj : ¬ c = j := by omega
          have hjc : (j : Int) ≤ (c : Int) := by omega
          have hjm2 : (j : Int) ≤ (m : Int) := by omega
          have HPG : Hid (P ≠ G) := fun e => row_ne13 HD4.out.own.row HD4.out.box (by decide) (by rw [e]; rfl)
          have lE : w.heap.size < wr.heap.size := HD4.out.size
          have lP : P < wr.heap.size := (Array.getElem?_eq_some_iff.1 HD4.out.box).1
          have lG : G < wr.heap.size := (HD4.out.own.row.lt G rfl).2
          go_wp2_with fail
          refine wp_region_held_drew (S := fun w' => w'.cell? ⟨w.heap.size, 1, none⟩ = some (.int .i64 (i : Int)) ∧ w'.cell? ⟨w.heap.size, 2, none⟩ = some (.int .i64 (j : Int)) ∧ w'.cell? ⟨w.heap.size, 3, none⟩ = some (.int .i64 sk) ∧ w'.cell? ⟨w.heap.size, 4, none⟩ = some (.int .i64 sx) ∧ w'.cell? ⟨w.heap.size, 5, none⟩ = some (.int .i64 sy) ∧ w'.cell? ⟨P, 0, none⟩ = some (.slice (some ⟨G, 0, none⟩) n cap) ∧ w'.cell? ⟨G, i, none⟩ = some (.slice (some ⟨g, 0, none⟩) m c)) (by kernel_rfl) ⟨e1, e2, e3, e4, e5, eP, eG⟩ (fun hHeld => ?_)
          refine wpAnyH_take (i := 1) (oi := ?oih171) (v := .pointer (some ⟨G, i, none⟩)) ?hih171 (by kernel_rfl) (by kernel_rfl) (by kernel_rfl) ?hqh171 ?hyh171 hHeld ?hrh171
          case hih171 =>
            simp only [List.getElem?_toArray, List.getElem?_cons_succ, List.getElem?_cons_zero]
            rfl
          case hqh171 => exact fun _ _ _ h => h
          case hyh171 => exact Or.inl ⟨by kernel_rfl, fun w hSw => by go_simp⟩
          try simp only [Act.put, List.setIfInBounds_toArray, List.set_cons_zero, List.set_cons_succ]
          refine wpAnyH_take (i := 2) (oi := ?oih172) (v := .pointer (some ⟨G, i, none⟩)) ?hih172 (by kernel_rfl) (by kernel_rfl) (by kernel_rfl) ?hqh172 ?hyh172 hHeld ?hrh172
          case hih172 =>
            simp only [List.getElem?_toArray, List.getElem?_cons_succ, List.getElem?_cons_zero]
            rfl
          case hqh172 => exact fun _ _ _ h => h
          case hyh172 => exact Or.inl ⟨by kernel_rfl, fun w hSw => by go_simp⟩
          try simp only [Act.put, List.setIfInBounds_toArray, List.set_cons_zero, List.set_cons_succ]
          refine wpAnyH_take (i := 3) (oi := ?oih173) (v := .pointer (some ⟨G, i, none⟩)) ?hih173 (by kernel_rfl) (by kernel_rfl) (by kernel_rfl) ?hqh173 ?hyh173 hHeld ?hrh173
          case hih173 =>
            simp only [List.getElem?_toArray, List.getElem?_cons_succ, List.getElem?_cons_zero]
            rfl
          case hqh173 => exact fun _ _ _ h => h
          case hyh173 => exact Or.inl ⟨by kernel_rfl, fun w hSw => by go_simp⟩
          try simp only [Act.put, List.setIfInBounds_toArray, List.set_cons_zero, List.set_cons_succ]
          refine wpAnyH_take (i := 4) (oi := ?oih174) (v := .slice (some ⟨g, 0, none⟩) m c) ?hih174 (by kernel_rfl) (by kernel_rfl) (by kernel_rfl) ?hqh174 ?hyh174 hHeld ?hrh174
          case hih174 =>
            simp only [List.getElem?_toArray, List.getElem?_cons_succ, List.getElem?_cons_zero]
            rfl
          case hqh174 => exact fun _ _ _ h => h
          case hyh174 => exact Or.inl ⟨by kernel_rfl, fun w hSw => by obtain ⟨s1, s2, s3, s4, s5, s6, s7⟩ := hSw; go_simp⟩
          try simp only [Act.put, List.setIfInBounds_toArray, List.set_cons_zero, List.set_cons_succ]
          refine wpAnyH_take (i := 5) (oi := ?oih175) (v := .pointer (some ⟨w.heap.size, 2, none⟩)) ?hih175 (by kernel_rfl) (by kernel_rfl) (by kernel_rfl) ?hqh175 ?hyh175 hHeld ?hrh175
          case hih175 =>
            simp only [List.getElem?_toArray, List.getElem?_cons_succ, List.getElem?_cons_zero]
            rfl
          case hqh175 => exact fun _ _ _ h => h
          case hyh175 => exact Or.inl ⟨by kernel_rfl, fun w hSw => by go_simp⟩
          try simp only [Act.put, List.setIfInBounds_toArray, List.set_cons_zero, List.set_cons_succ]
          refine wpAnyH_take (i := 6) (oi := ?oih176) (v := .int .i64 (j : Int)) ?hih176 (by kernel_rfl) (by kernel_rfl) (by kernel_rfl) ?hqh176 ?hyh176 hHeld ?hrh176
          case hih176 =>
            simp only [List.getElem?_toArray, List.getElem?_cons_succ, List.getElem?_cons_zero]
            rfl
          case hqh176 => exact fun _ _ _ h => h
          case hyh176 => exact Or.inl ⟨by kernel_rfl, fun w hSw => by obtain ⟨s1, s2, s3, s4, s5, s6, s7⟩ := hSw; go_simp⟩
          try simp only [Act.put, List.setIfInBounds_toArray, List.set_cons_zero, List.set_cons_succ]
          refine wpAnyH_take (i := 7) (oi := ?oih177) (v := .slice (some ⟨g, j * 3, none⟩) (m - j) (c - j)) ?hih177 (by kernel_rfl) (by kernel_rfl) (by kernel_rfl) ?hqh177 ?hyh177 hHeld ?hrh177
          case hih177 =>
            simp only [List.getElem?_toArray, List.getElem?_cons_succ, List.getElem?_cons_zero]
            rfl
          case hqh177 => exact fun _ _ _ h => h
          case hyh177 => exact Or.inl ⟨by kernel_rfl, fun w hSw => by go_simp⟩
          try simp only [Act.put, List.setIfInBounds_toArray, List.set_cons_zero, List.set_cons_succ]
          refine wpAnyH_ready (rs := [0]) (by kernel_rfl) (by simp) ?_
          refine (AllReadyH.cons (o := ?ooh170) ?hoh170 (fun K hK => ?hkh170) AllReadyH.nil)
          case hoh170 =>
            simp only [List.getElem?_toArray, List.getElem?_cons_succ, List.getElem?_cons_zero]
            rfl
          case hkh170 =>
            go_simp
            try go_wp2_with fail
            have bz : Below wr.heap.size wr (wr.alloc (.cells #[] 52)).drew := by go_grown
            have Ba : Hid (Below wr.heap.size wr (wr.alloc (.cells #[] 52)).drew) := bz
            have Va : Hid ((wr.alloc (.cells #[] 52)).drew.ownsRow wr.heap.size 52 3 (.slice (some ⟨wr.heap.size, 0, none⟩) 0 0) 0 []) := own_mono (World.ownsRow_made wr #[] 0 (Nat.le_refl _) (by unfold maxLen; omega) rfl) (Nat.le_refl _)
            generalize hz9 : (wr.alloc (.cells #[] 52)).drew = wa at *
            clear hz9 bz
            refine hK.out _ _ ⟨(Ba.out.cell lE).trans e1, (Ba.out.cell lE).trans e2, (Ba.out.cell lE).trans e3, (Ba.out.cell lE).trans e4, (Ba.out.cell lE).trans e5, (Ba.out.cell lP).trans eP, (Ba.out.cell lG).trans eG⟩ (fun hHeld => ?_)
            clear hK K
            try simp only [Act.put, List.setIfInBounds_toArray, List.set_cons_zero, List.set_cons_succ]
            refine wpAnyH_ready (rs := [8]) (by kernel_rfl) (by simp) ?_
            refine (AllReadyH.cons (o := ?ooh178) ?hoh178 (fun K hK => ?hkh178) AllReadyH.nil)
            case hoh178 =>
              simp only [List.getElem?_toArray, List.getElem?_cons_succ, List.getElem?_cons_zero]
              rfl
            case hkh178 =>
              refine step_append_any _ rfl (.tmp 134) (.tmp 141) 61 rfl wr.heap.size 52 i0 (.agg #[.int .i64 0, .int .i64 0, .int .i64 0]) 3 24 Tryz.underlying61 hi0 hz0 hz1 hz2 rfl (by decide) (.slice (some ⟨wr.heap.size, 0, none⟩) 0 0) 0 ([]) rfl Va.out (some ⟨g, j * 3, none⟩) (m - j) (c - j) (cells3 (q.drop j)) rfl HLD.out (fun _ => ⟨_, rfl, own_dropS (own_kept ow4.out Ba.out) j⟩) (cells3_one _) (by unfold maxLen; omega) (by omega) Ba.out.size ?_
              intro v7 w7 own7 grow7 new7
              have V7 : Hid (w7.ownsRow wr.heap.size 52 3 v7 (m - j) (cells3 (q.drop j))) := by (have hh := own7; rw [Nat.zero_add, List.nil_append] at hh; exact hh)
              have B7 : Hid (Below wr.heap.size wr w7) := Ba.out.grown grow7 Ba.out.size (fun k hk => (World.ownsRow.lt Va.out k hk).1)
              clear own7 grow7 new7
              refine hK.out _ _ ⟨(B7.out.cell lE).trans e1, (B7.out.cell lE).trans e2, (B7.out.cell lE).trans e3, (B7.out.cell lE).trans e4, (B7.out.cell lE).trans e5, (B7.out.cell lP).trans eP, (B7.out.cell lG).trans eG⟩ (fun hHeld => ?_)
              clear hK K
              try simp only [Act.put, List.setIfInBounds_toArray, List.set_cons_zero, List.set_cons_succ]
              refine wpAnyH_take (i := 9) (oi := ?oih179) (v := v7) ?hih179 (by kernel_rfl) (by kernel_rfl) (by kernel_rfl) ?hqh179 ?hyh179 hHeld ?hrh179
              case hih179 =>
                simp only [List.getElem?_toArray, List.getElem?_cons_succ, List.getElem?_cons_zero]
                rfl
              case hqh179 => exact fun _ _ _ h => h
              case hyh179 => exact Or.inl ⟨by kernel_rfl, fun w hSw => by go_simp⟩
              try simp only [Act.put, List.setIfInBounds_toArray, List.set_cons_zero, List.set_cons_succ]
              refine wpAnyH_done (by kernel_rfl) ?_ _
              obtain ⟨r, rc, hrv⟩ := own_formS V7.out (by omega)
              subst hrv
              have HD5 : Hid (Do13 w base P G cap 2 i j sk sx sy us (ps.set i (q)) w7) := HD4.out.kept B7.out hbase
              have HREST : Hid (w7.ownsRow wr.heap.size 52 3 (.slice (some ⟨r, 0, none⟩) (m - j) rc) (m - j) (cells3 (q.drop j))) := V7.out
              have ow5 : Hid (w7.ownsRow base 52 3 (.slice (some ⟨g, 0, none⟩) m c) m (cells3 q)) := HD5.out.row (by rw [HN.out]; exact hi) HUI.out HML.out
              clear e0 e1 e2 e3 e4 e5 eP eG fG lE lP lG
              obtain ⟨e0, e1, e2, e3, e4, e5, eP, eG, fG⟩ := HD5.out.cells HUI.out
              rw [List.length_set, HN.out] at eP
              have lE : w.heap.size < w7.heap.size := HD5.out.size
              have lP : P < w7.heap.size := (Array.getElem?_eq_some_iff.1 HD5.out.box).1
              have lG : G < w7.heap.size := (HD5.out.own.row.lt G rfl).2
              go_wp2_with fail
              refine wp_region_late (S := fun w' => w'.cell? ⟨w.heap.size, 1, none⟩ = some (.int .i64 (i : Int)) ∧ w'.cell? ⟨w.heap.size, 2, none⟩ = some (.int .i64 (j : Int)) ∧ w'.cell? ⟨w.heap.size, 3, none⟩ = some (.int .i64 sk) ∧ w'.cell? ⟨w.heap.size, 4, none⟩ = some (.int .i64 sx) ∧ w'.cell? ⟨w.heap.size, 5, none⟩ = some (.int .i64 sy) ∧ w'.cell? ⟨P, 0, none⟩ = some (.slice (some ⟨G, 0, none⟩) n cap) ∧ w'.cell? ⟨G, i, none⟩ = some (.slice (some ⟨g, 0, none⟩) m c)) (late := fun j => j == 18) (by kernel_rfl) ⟨e1, e2, e3, e4, e5, eP, eG⟩ (fun hHeld => ?_)
              refine wpAnyG_take (i := 0) (oi := ?oih180) (v := .pointer (some ⟨G, i, none⟩)) ?hih180 (by kernel_rfl) (by kernel_rfl) (by kernel_rfl) (by kernel_rfl) ?hqh180 ?hyh180 hHeld ?hrh180
              case hih180 =>
                simp only [List.getElem?_toArray, List.getElem?_cons_succ, List.getElem?_cons_zero]
                rfl
              case hqh180 => exact fun _ _ _ h => h
              case hyh180 => exact Or.inl ⟨by kernel_rfl, fun w hSw => by go_simp⟩
              try simp only [Act.put, List.setIfInBounds_toArray, List.set_cons_zero, List.set_cons_succ]
              refine wpAnyG_take (i := 2) (oi := ?oih182) (v := .pointer (some ⟨G, i, none⟩)) ?hih182 (by kernel_rfl) (by kernel_rfl) (by kernel_rfl) (by kernel_rfl) ?hqh182 ?hyh182 hHeld ?hrh182
              case hih182 =>
                simp only [List.getElem?_toArray, List.getElem?_cons_succ, List.getElem?_cons_zero]
                rfl
              case hqh182 => exact fun _ _ _ h => h
              case hyh182 => exact Or.inl ⟨by kernel_rfl, fun w hSw => by go_simp⟩
              try simp only [Act.put, List.setIfInBounds_toArray, List.set_cons_zero, List.set_cons_succ]
              refine wpAnyG_take (i := 3) (oi := ?oih183) (v := .pointer (some ⟨G, i, none⟩)) ?hih183 (by kernel_rfl) (by kernel_rfl) (by kernel_rfl) (by kernel_rfl) ?hqh183 ?hyh183 hHeld ?hrh183
              case hih183 =>
                simp only [List.getElem?_toArray, List.getElem?_cons_succ, List.getElem?_cons_zero]
                rfl
              case hqh183 => exact fun _ _ _ h => h
              case hyh183 => exact Or.inl ⟨by kernel_rfl, fun w hSw => by go_simp⟩
              try simp only [Act.put, List.setIfInBounds_toArray, List.set_cons_zero, List.set_cons_succ]
              refine wpAnyG_take (i := 4) (oi := ?oih184) (v := .pointer (some ⟨G, i, none⟩)) ?hih184 (by kernel_rfl) (by kernel_rfl) (by kernel_rfl) (by kernel_rfl) ?hqh184 ?hyh184 hHeld ?hrh184
              case hih184 =>
                simp only [List.getElem?_toArray, List.getElem?_cons_succ, List.getElem?_cons_zero]
                rfl
              case hqh184 => exact fun _ _ _ h => h
              case hyh184 => exact Or.inl ⟨by kernel_rfl, fun w hSw => by go_simp⟩
              try simp only [Act.put, List.setIfInBounds_toArray, List.set_cons_zero, List.set_cons_succ]
              refine wpAnyG_take (i := 5) (oi := ?oih185) (v := .slice (some ⟨g, 0, none⟩) m c) ?hih185 (by kernel_rfl) (by kernel_rfl) (by kernel_rfl) (by kernel_rfl) ?hqh185 ?hyh185 hHeld ?hrh185
              case hih185 =>
                simp only [List.getElem?_toArray, List.getElem?_cons_succ, List.getElem?_cons_zero]
                rfl
              case hqh185 => exact fun _ _ _ h => h
              case hyh185 => exact Or.inl ⟨by kernel_rfl, fun w hSw => by obtain ⟨s1, s2, s3, s4, s5, s6, s7⟩ := hSw; go_simp⟩
              try simp only [Act.put, List.setIfInBounds_toArray, List.set_cons_zero, List.set_cons_succ]
              refine wpAnyG_take (i := 6) (oi := ?oih186) (v := .pointer (some ⟨w.heap.size, 2, none⟩)) ?hih186 (by kernel_rfl) (by kernel_rfl) (by kernel_rfl) (by kernel_rfl) ?hqh186 ?hyh186 hHeld ?hrh186
              case hih186 =>
                simp only [List.getElem?_toArray, List.getElem?_cons_succ, List.getElem?_cons_zero]
                rfl
              case hqh186 => exact fun _ _ _ h => h
              case hyh186 => exact Or.inl ⟨by kernel_rfl, fun w hSw => by go_simp⟩
              try simp only [Act.put, List.setIfInBounds_toArray, List.set_cons_zero, List.set_cons_succ]
              refine wpAnyG_take (i := 7) (oi := ?oih187) (v := .int .i64 (j : Int)) ?hih187 (by kernel_rfl) (by kernel_rfl) (by kernel_rfl) (by kernel_rfl) ?hqh187 ?hyh187 hHeld ?hrh187
              case hih187 =>
                simp only [List.getElem?_toArray, List.getElem?_cons_succ, List.getElem?_cons_zero]
                rfl
              case hqh187 => exact fun _ _ _ h => h
              case hyh187 => exact Or.inl ⟨by kernel_rfl, fun w hSw => by obtain ⟨s1, s2, s3, s4, s5, s6, s7⟩ := hSw; go_simp⟩
              try simp only [Act.put, List.setIfInBounds_toArray, List.set_cons_zero, List.set_cons_succ]
              refine wpAnyG_take (i := 8) (oi := ?oih188) (v := .slice (some ⟨g, 0, none⟩) j c) ?hih188 (by kernel_rfl) (by kernel_rfl) (by kernel_rfl) (by kernel_rfl) ?hqh188 ?hyh188 hHeld ?hrh188
              case hih188 =>
                simp only [List.getElem?_toArray, List.getElem?_cons_succ, List.getElem?_cons_zero]
                rfl
              case hqh188 => exact fun _ _ _ h => h
              case hyh188 => exact Or.inl ⟨by kernel_rfl, fun w hSw => by go_simp⟩
              try simp only [Act.put, List.setIfInBounds_toArray, List.set_cons_zero, List.set_cons_succ]
              refine wpAnyG_take (i := 10) (oi := ?oih1810) (v := .pointer (some ⟨w.heap.size, 3, none⟩)) ?hih1810 (by kernel_rfl) (by kernel_rfl) (by kernel_rfl) (by kernel_rfl) ?hqh1810 ?hyh1810 hHeld ?hrh1810
              case hih1810 =>
                simp only [List.getElem?_toArray, List.getElem?_cons_succ, List.getElem?_cons_zero]
                rfl
              case hqh1810 => exact fun _ _ _ h => h
              case hyh1810 => exact Or.inl ⟨by kernel_rfl, fun w hSw => by go_simp⟩
              try simp only [Act.put, List.setIfInBounds_toArray, List.set_cons_zero, List.set_cons_succ]
              refine wpAnyG_take (i := 11) (oi := ?oih1811) (v := .agg #[.int .i64 sk, .int .i64 sx, .int .i64 sy]) ?hih1811 (by kernel_rfl) (by kernel_rfl) (by kernel_rfl) (by kernel_rfl) ?hqh1811 ?hyh1811 hHeld ?hrh1811
              case hih1811 =>
                simp only [List.getElem?_toArray, List.getElem?_cons_succ, List.getElem?_cons_zero]
                rfl
              case hqh1811 => exact fun _ _ _ h => h
              case hyh1811 => exact Or.inl ⟨by kernel_rfl, fun w hSw => by obtain ⟨s1, s2, s3, s4, s5, s6, s7⟩ := hSw; go_simp⟩
              try simp only [Act.put, List.setIfInBounds_toArray, List.set_cons_zero, List.set_cons_succ]
              refine wpAnyG_take (i := 14) (oi := ?oih1814) (v := .slice (some ⟨r, 0, none⟩) (m - j) rc) ?hih1814 (by kernel_rfl) (by kernel_rfl) (by kernel_rfl) (by kernel_rfl) ?hqh1814 ?hyh1814 hHeld ?hrh1814
              case hih1814 =>
                simp only [List.getElem?_toArray, List.getElem?_cons_succ, List.getElem?_cons_zero]
                rfl
              case hqh1814 => exact fun _ _ _ h => h
              case hyh1814 => exact Or.inl ⟨by kernel_rfl, fun w hSw => by go_simp⟩
              try simp only [Act.put, List.setIfInBounds_toArray, List.set_cons_zero, List.set_cons_succ]
              refine wpAnyG_ready (rs := [1, 12]) (by kernel_rfl) (by simp) ?_
              refine (AllReadyG.cons (o := ?ooh181) ?hoh181 (fun K hK => ?hkh181) (AllReadyG.cons (o := ?ooh1812) ?hoh1812 (fun K hK => ?hkh1812) AllReadyG.nil))
              case hoh181 =>
                simp only [List.getElem?_toArray, List.getElem?_cons_succ, List.getElem?_cons_zero]
                rfl
              case hoh1812 =>
                simp only [List.getElem?_toArray, List.getElem?_cons_succ, List.getElem?_cons_zero]
                rfl
              case hkh181 =>
                go_simp
                try go_wp2_with fail
                have bz : Below w7.heap.size w7 (w7.alloc (.cells #[] 52)).drew := by go_grown
                have Ba : Hid (Below w7.heap.size w7 (w7.alloc (.cells #[] 52)).drew) := bz
                have Va : Hid ((w7.alloc (.cells #[] 52)).drew.ownsRow w7.heap.size 52 3 (.slice (some ⟨w7.heap.size, 0, none⟩) 0 0) 0 []) := own_mono (World.ownsRow_made w7 #[] 0 (Nat.le_refl _) (by unfold maxLen; omega) rfl) (Nat.le_refl _)
                generalize hz9 : (w7.alloc (.cells #[] 52)).drew = wa at *
                clear hz9 bz
                have qa : w7.heap.size < wa.heap.size := (World.ownsRow.lt Va.out _ rfl).2
                refine hK.out _ _ (Or.inr ⟨(Ba.out.cell lE).trans e1, (Ba.out.cell lE).trans e2, (Ba.out.cell lE).trans e3, (Ba.out.cell lE).trans e4, (Ba.out.cell lE).trans e5, (Ba.out.cell lP).trans eP, (Ba.out.cell lG).trans eG⟩) (fun hHeld => ?_)
                replace hHeld := hHeld.resolve_left (by decide)
                clear hK K
                try simp only [Act.put, List.setIfInBounds_toArray, List.set_cons_zero, List.set_cons_succ]
                refine wpAnyG_ready (rs := [9, 12]) (by kernel_rfl) (by simp) ?_
                refine (AllReadyG.cons (o := ?ooh18a9) ?hoh18a9 (fun K hK => ?hkh18a9) (AllReadyG.cons (o := ?ooh18a12) ?hoh18a12 (fun K hK => ?hkh18a12) AllReadyG.nil))
                case hoh18a9 =>
                  simp only [List.getElem?_toArray, List.getElem?_cons_succ, List.getElem?_cons_zero]
                  rfl
                case hoh18a12 =>
                  simp only [List.getElem?_toArray, List.getElem?_cons_succ, List.getElem?_cons_zero]
                  rfl
                case hkh18a9 =>
                  refine step_append_any _ rfl (.tmp 144) (.tmp 151) 61 rfl w7.heap.size 52 i0 (.agg #[.int .i64 0, .int .i64 0, .int .i64 0]) 3 24 Tryz.underlying61 hi0 hz0 hz1 hz2 rfl (by decide) (.slice (some ⟨w7.heap.size, 0, none⟩) 0 0) 0 ([]) rfl Va.out (some ⟨g, 0, none⟩) (j) (c) (cells3 (q.take j)) rfl HLT.out (fun _ => ⟨_, rfl, own_takeS (own_kept ow5.out Ba.out) j⟩) (cells3_one _) (by unfold maxLen; omega) (by omega) Ba.out.size ?_
                  intro v6 w6 own6 grow6 new6
                  have V6 : Hid (w6.ownsRow w7.heap.size 52 3 v6 j (cells3 (q.take j))) := by (have hh := own6; rw [Nat.zero_add, List.nil_append] at hh; exact hh)
                  have B6 : Hid (Below w7.heap.size w7 w6) := Ba.out.grown grow6 Ba.out.size (fun k hk => (World.ownsRow.lt Va.out k hk).1)
                  clear own6 grow6 new6
                  refine hK.out _ _ (Or.inr ⟨(B6.out.cell lE).trans e1, (B6.out.cell lE).trans e2, (B6.out.cell lE).trans e3, (B6.out.cell lE).trans e4, (B6.out.cell lE).trans e5, (B6.out.cell lP).trans eP, (B6.out.cell lG).trans eG⟩) (fun hHeld => ?_)
                  replace hHeld := hHeld.resolve_left (by decide)
                  clear hK K
                  try simp only [Act.put, List.setIfInBounds_toArray, List.set_cons_zero, List.set_cons_succ]
                  refine wpAnyG_ready (rs := [12]) (by kernel_rfl) (by simp) ?_
                  refine (AllReadyG.cons (o := ?ooh18aa12) ?hoh18aa12 (fun K hK => ?hkh18aa12) AllReadyG.nil)
                  case hoh18aa12 =>
                    simp only [List.getElem?_toArray, List.getElem?_cons_succ, List.getElem?_cons_zero]
                    rfl
                  case hkh18aa12 =>
                    go_simp
                    try go_wp2_with fail
                    have bz : Below w6.heap.size w6 (w6.alloc (.cells #[.int .i64 sk, .int .i64 sx, .int .i64 sy] 52)) := by go_grown
                    have Bl : Hid (Below w7.heap.size w7 (w6.alloc (.cells #[.int .i64 sk, .int .i64 sx, .int .i64 sy] 52))) := Below.trans B6.out (bz.mono B6.out.size)
                    have Ll : Hid ((w6.alloc (.cells #[.int .i64 sk, .int .i64 sx, .int .i64 sy] 52)).heap[w6.heap.size]? = some (.cells #[.int .i64 sk, .int .i64 sx, .int .i64 sy] 52 (0, 0))) := heap_alloc_new w6 _
                    have Vl : Hid ((w6.alloc (.cells #[.int .i64 sk, .int .i64 sx, .int .i64 sy] 52)).ownsRow w7.heap.size 52 3 (v6) j (cells3 (q.take j))) := own_kept V6.out bz
                    generalize hz9 : (w6.alloc (.cells #[.int .i64 sk, .int .i64 sx, .int .i64 sy] 52)) = wl at *
                    clear hz9 bz
                    refine hK.out _ _ (Or.inr ⟨(Bl.out.cell lE).trans e1, (Bl.out.cell lE).trans e2, (Bl.out.cell lE).trans e3, (Bl.out.cell lE).trans e4, (Bl.out.cell lE).trans e5, (Bl.out.cell lP).trans eP, (Bl.out.cell lG).trans eG⟩) (fun hHeld => ?_)
                    replace hHeld := hHeld.resolve_left (by decide)
                    clear hK K
                    try simp only [Act.put, List.setIfInBounds_toArray, List.set_cons_zero, List.set_cons_succ]
                    refine wpAnyG_ready (rs := [13]) (by kernel_rfl) (by simp) ?_
                    refine (AllReadyG.cons (o := ?ooh18aa13) ?hoh18aa13 (fun K hK => ?hkh18aa13) AllReadyG.nil)
                    case hoh18aa13 =>
                      simp only [List.getElem?_toArray, List.getElem?_cons_succ, List.getElem?_cons_zero]
                      rfl
                    case hkh18aa13 =>
                      refine step_append_any _ rfl (.tmp 152) (.tmp 155) 61 rfl w7.heap.size 52 i0 (.agg #[.int .i64 0, .int .i64 0, .int .i64 0]) 3 24 Tryz.underlying61 hi0 hz0 hz1 hz2 rfl (by decide) (v6) j (cells3 (q.take j)) rfl Vl.out (some ⟨w6.heap.size, 0, none⟩) (1) (1) (cells3 [⟨sk, sx, sy⟩]) rfl rfl (fun _ => ⟨_, rfl, lit_cells Ll.out⟩) (cells3_one _) (by unfold maxLen; omega) (by omega) Bl.out.size ?_
                      intro v9 w9 own9 grow9 new9
                      have V9 : Hid (w9.ownsRow w7.heap.size 52 3 v9 (j + 1) (cells3 (q.take j) ++ cells3 [⟨sk, sx, sy⟩])) := own9
                      have B9 : Hid (Below w7.heap.size w7 w9) := Bl.out.grown grow9 Bl.out.size (fun k hk => (World.ownsRow.lt Vl.out k hk).1)
                      clear own9 grow9 new9
                      refine hK.out _ _ (Or.inr ⟨(B9.out.cell lE).trans e1, (B9.out.cell lE).trans e2, (B9.out.cell lE).trans e3, (B9.out.cell lE).trans e4, (B9.out.cell lE).trans e5, (B9.out.cell lP).trans eP, (B9.out.cell lG).trans eG⟩) (fun hHeld => ?_)
                      replace hHeld := hHeld.resolve_left (by decide)
                      clear hK K
                      try simp only [Act.put, List.setIfInBounds_toArray, List.set_cons_zero, List.set_cons_succ]
                      refine wpAnyG_ready (rs := [15]) (by kernel_rfl) (by simp) ?_
                      refine (AllReadyG.cons (o := ?ooh18aa15) ?hoh18aa15 (fun K hK => ?hkh18aa15) AllReadyG.nil)
                      case hoh18aa15 =>
                        simp only [List.getElem?_toArray, List.getElem?_cons_succ, List.getElem?_cons_zero]
                        rfl
                      case hkh18aa15 =>
                        refine step_append_any _ rfl (.tmp 156) (.tmp 157) 61 rfl w7.heap.size 52 i0 (.agg #[.int .i64 0, .int .i64 0, .int .i64 0]) 3 24 Tryz.underlying61 hi0 hz0 hz1 hz2 rfl (by decide) (v9) (j + 1) (cells3 (q.take j) ++ cells3 [⟨sk, sx, sy⟩]) rfl V9.out (some ⟨r, 0, none⟩) (m - j) (rc) (cells3 (q.drop j)) rfl HLD.out (fun _ => ⟨_, rfl, own_cellsS (own_kept HREST.out B9.out)⟩) (cells3_one _) (by unfold maxLen; omega) (by omega) B9.out.size ?_
                        intro v10 w10 own10 grow10 new10
                        have V10 : Hid (w10.ownsRow w7.heap.size 52 3 v10 (m + 1) (cells3 (edAdd p j ⟨sk, sx, sy⟩))) := by (have hh := own10; rw [HLS.out, HEA.out] at hh; exact hh)
                        have B10 : Hid (Below w7.heap.size w7 w10) := B9.out.grown grow10 B9.out.size (fun k hk => (World.ownsRow.lt V9.out k hk).1)
                        clear own10 grow10 new10
                        obtain ⟨qv, cv, hqv⟩ := own_formS V10.out (by omega)
                        subst hqv
                        refine hK.out _ _ (Or.inr ⟨(B10.out.cell lE).trans e1, (B10.out.cell lE).trans e2, (B10.out.cell lE).trans e3, (B10.out.cell lE).trans e4, (B10.out.cell lE).trans e5, (B10.out.cell lP).trans eP, (B10.out.cell lG).trans eG⟩) (fun hHeld => ?_)
                        replace hHeld := hHeld.resolve_left (by decide)
                        clear hK K
                        try simp only [Act.put, List.setIfInBounds_toArray, List.set_cons_zero, List.set_cons_succ]
                        refine wpAnyG_ready (rs := [16]) (by kernel_rfl) (by simp) ?_
                        refine (AllReadyG.cons (o := ?ooh18aa16) ?hoh18aa16 (fun K hK => ?hkh18aa16) AllReadyG.nil)
                        case hoh18aa16 =>
                          simp only [List.getElem?_toArray, List.getElem?_cons_succ, List.getElem?_cons_zero]
                          rfl
                        case hkh18aa16 =>
                          go_simp
                          have fG9 : w10.frozen? ⟨G, i, none⟩ = false := World.ownsRow.frozenAt (own_kept HD5.out.own.row B10.out) i
                          have eG9 : w10.cell? ⟨G, i, none⟩ = some (.slice (some ⟨g, 0, none⟩) m c) := (B10.out.cell lG).trans eG
                          try go_wp2_with fail
                          refine hK.out _ _ (Or.inr ⟨(B10.out.cell lE).trans e1, (B10.out.cell lE).trans e2, (B10.out.cell lE).trans e3, (B10.out.cell lE).trans e4, (B10.out.cell lE).trans e5, (B10.out.cell lP).trans eP, (B10.out.cell lG).trans eG⟩) (fun hHeld => ?_)
                          replace hHeld := hHeld.resolve_left (by decide)
                          clear hK K
                          try simp only [Act.put, List.setIfInBounds_toArray, List.set_cons_zero, List.set_cons_succ]
                          refine wpAnyG_ready (rs := [17]) (by kernel_rfl) (by simp) ?_
                          refine (AllReadyG.cons (o := ?ooh18aa17) ?hoh18aa17 (fun K hK => ?hkh18aa17) AllReadyG.nil)
                          case hoh18aa17 =>
                            simp only [List.getElem?_toArray, List.getElem?_cons_succ, List.getElem?_cons_zero]
                            rfl
                          case hkh18aa17 =>
                            go_simp
                            try go_wp2_with fail
                            refine hK.out _ _ (Or.inr ⟨(B10.out.cell lE).trans e1, (B10.out.cell lE).trans e2, (B10.out.cell lE).trans e3, (B10.out.cell lE).trans e4, (B10.out.cell lE).trans e5, (B10.out.cell lP).trans eP, (B10.out.cell lG).trans eG⟩) (fun hHeld => ?_)
                            replace hHeld := hHeld.resolve_left (by decide)
                            clear hK K
                            try simp only [Act.put, List.setIfInBounds_toArray, List.set_cons_zero, List.set_cons_succ]
                            refine wpAnyG_ready (rs := [18]) (by kernel_rfl) (by simp) ?_
                            refine (AllReadyG.cons (o := ?ooh18aa18) ?hoh18aa18 (fun K hK => ?hkh18aa18) AllReadyG.nil)
                            case hoh18aa18 =>
                              simp only [List.getElem?_toArray, List.getElem?_cons_succ, List.getElem?_cons_zero]
                              rfl
                            case hkh18aa18 =>
                              go_simp
                              try go_wp2_with fail
                              refine hK.out _ _ (Or.inl rfl) (fun _ => ?_)
                              clear hK K
                              try simp only [Act.put, List.setIfInBounds_toArray, List.set_cons_zero, List.set_cons_succ]
                              refine wpAnyG_done (by kernel_rfl) ?_ _
                              have HF : Hid (Own13 (w10.setCell ⟨G, i, none⟩ (.slice (some ⟨qv, 0, none⟩) (m + 1) cv)) base (.slice (some ⟨G, 0, none⟩) (ps.set i q).length cap) (us.set i (.slice (some ⟨qv, 0, none⟩) (m + 1) cv)) ((ps.set i q).set i (edAdd p j ⟨sk, sx, sy⟩))) := by
                                have h7 := Own13.spl (R := edAdd p j ⟨sk, sx, sy⟩) HD5.out.own (by simp [HN.out]; exact hi) HUI.out (grown_of_below B10.out (some g)) (c' := cv) (q := qv) (by rw [HRL.out]; exact own_mono V10.out (Nat.le_trans hbase (Nat.le_of_lt lE))) (.inr (World.ownsRow.lt V10.out qv rfl).1)
                                rw [HRL.out] at h7
                                exact h7
                              have HBX : Hid ((w10.setCell ⟨G, i, none⟩ (.slice (some ⟨qv, 0, none⟩) (m + 1) cv)).heap[P]? = some (.cells #[.slice (some ⟨G, 0, none⟩) n cap] 26 (0, 0))) := by
                                have h8 := HD5.out.box
                                rw [List.length_set, HN.out] at h8
                                exact (Below.heap_setCell _ _ _ _ (by show P ≠ G; exact HPG.out)).trans ((B10.out.block P lP).trans h8)
                              have HBB : Hid (Below base w (w10.setCell ⟨G, i, none⟩ (.slice (some ⟨qv, 0, none⟩) (m + 1) cv))) := (HD5.out.below.trans (B10.out.mono (Nat.le_trans hbase (Nat.le_of_lt lE)))).setCell hGb _
                              generalize w10.setCell ⟨G, i, none⟩ (.slice (some ⟨qv, 0, none⟩) (m + 1) cv) = wf at *
                              have HFF : Hid (Own13 wf base (.slice (some ⟨G, 0, none⟩) n cap) (us.set i (.slice (some ⟨qv, 0, none⟩) (m + 1) cv)) (ps.set i (edAdd p j ⟨sk, sx, sy⟩))) := by (have h7 := HF.out; rw [List.set_set, List.length_set, HN.out] at h7; exact h7)
                              go_wp2
                              go_ret
                              exact ⟨rfl, _, HBX.out, HFF.out, HBB.out⟩
                case hkh18a12 =>
                  go_simp
                  try go_wp2_with fail
                  have bz : Below wa.heap.size wa (wa.alloc (.cells #[.int .i64 sk, .int .i64 sx, .int .i64 sy] 52)) := by go_grown
                  have Bl : Hid (Below w7.heap.size w7 (wa.alloc (.cells #[.int .i64 sk, .int .i64 sx, .int .i64 sy] 52))) := Below.trans Ba.out (bz.mono Ba.out.size)
                  have Ll : Hid ((wa.alloc (.cells #[.int .i64 sk, .int .i64 sx, .int .i64 sy] 52)).heap[wa.heap.size]? = some (.cells #[.int .i64 sk, .int .i64 sx, .int .i64 sy] 52 (0, 0))) := heap_alloc_new wa _
                  have Vl : Hid ((wa.alloc (.cells #[.int .i64 sk, .int .i64 sx, .int .i64 sy] 52)).ownsRow w7.heap.size 52 3 (.slice (some ⟨w7.heap.size, 0, none⟩) 0 0) 0 ([])) := own_kept Va.out bz
                  generalize hz9 : (wa.alloc (.cells #[.int .i64 sk, .int .i64 sx, .int .i64 sy] 52)) = wl at *
                  clear hz9 bz
                  refine hK.out _ _ (Or.inr ⟨(Bl.out.cell lE).trans e1, (Bl.out.cell lE).trans e2, (Bl.out.cell lE).trans e3, (Bl.out.cell lE).trans e4, (Bl.out.cell lE).trans e5, (Bl.out.cell lP).trans eP, (Bl.out.cell lG).trans eG⟩) (fun hHeld => ?_)
                  replace hHeld := hHeld.resolve_left (by decide)
                  clear hK K
                  try simp only [Act.put, List.setIfInBounds_toArray, List.set_cons_zero, List.set_cons_succ]
                  refine wpAnyG_ready (rs := [9]) (by kernel_rfl) (by simp) ?_
                  refine (AllReadyG.cons (o := ?ooh18ab9) ?hoh18ab9 (fun K hK => ?hkh18ab9) AllReadyG.nil)
                  case hoh18ab9 =>
                    simp only [List.getElem?_toArray, List.getElem?_cons_succ, List.getElem?_cons_zero]
                    rfl
                  case hkh18ab9 =>
                    refine step_append_any _ rfl (.tmp 144) (.tmp 151) 61 rfl w7.heap.size 52 i0 (.agg #[.int .i64 0, .int .i64 0, .int .i64 0]) 3 24 Tryz.underlying61 hi0 hz0 hz1 hz2 rfl (by decide) (.slice (some ⟨w7.heap.size, 0, none⟩) 0 0) 0 ([]) rfl Vl.out (some ⟨g, 0, none⟩) (j) (c) (cells3 (q.take j)) rfl HLT.out (fun _ => ⟨_, rfl, own_takeS (own_kept ow5.out Bl.out) j⟩) (cells3_one _) (by unfold maxLen; omega) (by omega) Bl.out.size ?_
                    intro v6 w6 own6 grow6 new6
                    have V6 : Hid (w6.ownsRow w7.heap.size 52 3 v6 j (cells3 (q.take j))) := by (have hh := own6; rw [Nat.zero_add, List.nil_append] at hh; exact hh)
                    have B6 : Hid (Below w7.heap.size w7 w6) := Bl.out.grown grow6 Bl.out.size (fun k hk => (World.ownsRow.lt Vl.out k hk).1)
                    have L6 : Hid (w6.heap[wa.heap.size]? = some (.cells #[.int .i64 sk, .int .i64 sx, .int .i64 sy] 52 (0, 0))) := (grow6.block _ (Array.getElem?_eq_some_iff.1 Ll.out).1 (fun e => absurd (Option.some.inj (show some (wa.heap.size) = some (w7.heap.size) from e)) (by omega))).trans Ll.out
                    clear own6 grow6 new6
                    refine hK.out _ _ (Or.inr ⟨(B6.out.cell lE).trans e1, (B6.out.cell lE).trans e2, (B6.out.cell lE).trans e3, (B6.out.cell lE).trans e4, (B6.out.cell lE).trans e5, (B6.out.cell lP).trans eP, (B6.out.cell lG).trans eG⟩) (fun hHeld => ?_)
                    replace hHeld := hHeld.resolve_left (by decide)
                    clear hK K
                    try simp only [Act.put, List.setIfInBounds_toArray, List.set_cons_zero, List.set_cons_succ]
                    refine wpAnyG_ready (rs := [13]) (by kernel_rfl) (by simp) ?_
                    refine (AllReadyG.cons (o := ?ooh18ab13) ?hoh18ab13 (fun K hK => ?hkh18ab13) AllReadyG.nil)
                    case hoh18ab13 =>
                      simp only [List.getElem?_toArray, List.getElem?_cons_succ, List.getElem?_cons_zero]
                      rfl
                    case hkh18ab13 =>
                      refine step_append_any _ rfl (.tmp 152) (.tmp 155) 61 rfl w7.heap.size 52 i0 (.agg #[.int .i64 0, .int .i64 0, .int .i64 0]) 3 24 Tryz.underlying61 hi0 hz0 hz1 hz2 rfl (by decide) (v6) j (cells3 (q.take j)) rfl V6.out (some ⟨wa.heap.size, 0, none⟩) (1) (1) (cells3 [⟨sk, sx, sy⟩]) rfl rfl (fun _ => ⟨_, rfl, lit_cells L6.out⟩) (cells3_one _) (by unfold maxLen; omega) (by omega) B6.out.size ?_
                      intro v9 w9 own9 grow9 new9
                      have V9 : Hid (w9.ownsRow w7.heap.size 52 3 v9 (j + 1) (cells3 (q.take j) ++ cells3 [⟨sk, sx, sy⟩])) := own9
                      have B9 : Hid (Below w7.heap.size w7 w9) := B6.out.grown grow9 B6.out.size (fun k hk => (World.ownsRow.lt V6.out k hk).1)
                      clear own9 grow9 new9
                      refine hK.out _ _ (Or.inr ⟨(B9.out.cell lE).trans e1, (B9.out.cell lE).trans e2, (B9.out.cell lE).trans e3, (B9.out.cell lE).trans e4, (B9.out.cell lE).trans e5, (B9.out.cell lP).trans eP, (B9.out.cell lG).trans eG⟩) (fun hHeld => ?_)
                      replace hHeld := hHeld.resolve_left (by decide)
                      clear hK K
                      try simp only [Act.put, List.setIfInBounds_toArray, List.set_cons_zero, List.set_cons_succ]
                      refine wpAnyG_ready (rs := [15]) (by kernel_rfl) (by simp) ?_
                      refine (AllReadyG.cons (o := ?ooh18ab15) ?hoh18ab15 (fun K hK => ?hkh18ab15) AllReadyG.nil)
                      case hoh18ab15 =>
                        simp only [List.getElem?_toArray, List.getElem?_cons_succ, List.getElem?_cons_zero]
                        rfl
                      case hkh18ab15 =>
                        refine step_append_any _ rfl (.tmp 156) (.tmp 157) 61 rfl w7.heap.size 52 i0 (.agg #[.int .i64 0, .int .i64 0, .int .i64 0]) 3 24 Tryz.underlying61 hi0 hz0 hz1 hz2 rfl (by decide) (v9) (j + 1) (cells3 (q.take j) ++ cells3 [⟨sk, sx, sy⟩]) rfl V9.out (some ⟨r, 0, none⟩) (m - j) (rc) (cells3 (q.drop j)) rfl HLD.out (fun _ => ⟨_, rfl, own_cellsS (own_kept HREST.out B9.out)⟩) (cells3_one _) (by unfold maxLen; omega) (by omega) B9.out.size ?_
                        intro v10 w10 own10 grow10 new10
                        have V10 : Hid (w10.ownsRow w7.heap.size 52 3 v10 (m + 1) (cells3 (edAdd p j ⟨sk, sx, sy⟩))) := by (have hh := own10; rw [HLS.out, HEA.out] at hh; exact hh)
                        have B10 : Hid (Below w7.heap.size w7 w10) := B9.out.grown grow10 B9.out.size (fun k hk => (World.ownsRow.lt V9.out k hk).1)
                        clear own10 grow10 new10
                        obtain ⟨qv, cv, hqv⟩ := own_formS V10.out (by omega)
                        subst hqv
                        refine hK.out _ _ (Or.inr ⟨(B10.out.cell lE).trans e1, (B10.out.cell lE).trans e2, (B10.out.cell lE).trans e3, (B10.out.cell lE).trans e4, (B10.out.cell lE).trans e5, (B10.out.cell lP).trans eP, (B10.out.cell lG).trans eG⟩) (fun hHeld => ?_)
                        replace hHeld := hHeld.resolve_left (by decide)
                        clear hK K
                        try simp only [Act.put, List.setIfInBounds_toArray, List.set_cons_zero, List.set_cons_succ]
                        refine wpAnyG_ready (rs := [16]) (by kernel_rfl) (by simp) ?_
                        refine (AllReadyG.cons (o := ?ooh18ab16) ?hoh18ab16 (fun K hK => ?hkh18ab16) AllReadyG.nil)
                        case hoh18ab16 =>
                          simp only [List.getElem?_toArray, List.getElem?_cons_succ, List.getElem?_cons_zero]
                          rfl
                        case hkh18ab16 =>
                          go_simp
                          have fG9 : w10.frozen? ⟨G, i, none⟩ = false := World.ownsRow.frozenAt (own_kept HD5.out.own.row B10.out) i
                          have eG9 : w10.cell? ⟨G, i, none⟩ = some (.slice (some ⟨g, 0, none⟩) m c) := (B10.out.cell lG).trans eG
                          try go_wp2_with fail
                          refine hK.out _ _ (Or.inr ⟨(B10.out.cell lE).trans e1, (B10.out.cell lE).trans e2, (B10.out.cell lE).trans e3, (B10.out.cell lE).trans e4, (B10.out.cell lE).trans e5, (B10.out.cell lP).trans eP, (B10.out.cell lG).trans eG⟩) (fun hHeld => ?_)
                          replace hHeld := hHeld.resolve_left (by decide)
                          clear hK K
                          try simp only [Act.put, List.setIfInBounds_toArray, List.set_cons_zero, List.set_cons_succ]
                          refine wpAnyG_ready (rs := [17]) (by kernel_rfl) (by simp) ?_
                          refine (AllReadyG.cons (o := ?ooh18ab17) ?hoh18ab17 (fun K hK => ?hkh18ab17) AllReadyG.nil)
                          case hoh18ab17 =>
                            simp only [List.getElem?_toArray, List.getElem?_cons_succ, List.getElem?_cons_zero]
                            rfl
                          case hkh18ab17 =>
                            go_simp
                            try go_wp2_with fail
                            refine hK.out _ _ (Or.inr ⟨(B10.out.cell lE).trans e1, (B10.out.cell lE).trans e2, (B10.out.cell lE).trans e3, (B10.out.cell lE).trans e4, (B10.out.cell lE).trans e5, (B10.out.cell lP).trans eP, (B10.out.cell lG).trans eG⟩) (fun hHeld => ?_)
                            replace hHeld := hHeld.resolve_left (by decide)
                            clear hK K
                            try simp only [Act.put, List.setIfInBounds_toArray, List.set_cons_zero, List.set_cons_succ]
                            refine wpAnyG_ready (rs := [18]) (by kernel_rfl) (by simp) ?_
                            refine (AllReadyG.cons (o := ?ooh18ab18) ?hoh18ab18 (fun K hK => ?hkh18ab18) AllReadyG.nil)
                            case hoh18ab18 =>
                              simp only [List.getElem?_toArray, List.getElem?_cons_succ, List.getElem?_cons_zero]
                              rfl
                            case hkh18ab18 =>
                              go_simp
                              try go_wp2_with fail
                              refine hK.out _ _ (Or.inl rfl) (fun _ => ?_)
                              clear hK K
                              try simp only [Act.put, List.setIfInBounds_toArray, List.set_cons_zero, List.set_cons_succ]
                              refine wpAnyG_done (by kernel_rfl) ?_ _
                              have HF : Hid (Own13 (w10.setCell ⟨G, i, none⟩ (.slice (some ⟨qv, 0, none⟩) (m + 1) cv)) base (.slice (some ⟨G, 0, none⟩) (ps.set i q).length cap) (us.set i (.slice (some ⟨qv, 0, none⟩) (m + 1) cv)) ((ps.set i q).set i (edAdd p j ⟨sk, sx, sy⟩))) := by
                                have h7 := Own13.spl (R := edAdd p j ⟨sk, sx, sy⟩) HD5.out.own (by simp [HN.out]; exact hi) HUI.out (grown_of_below B10.out (some g)) (c' := cv) (q := qv) (by rw [HRL.out]; exact own_mono V10.out (Nat.le_trans hbase (Nat.le_of_lt lE))) (.inr (World.ownsRow.lt V10.out qv rfl).1)
                                rw [HRL.out] at h7
                                exact h7
                              have HBX : Hid ((w10.setCell ⟨G, i, none⟩ (.slice (some ⟨qv, 0, none⟩) (m + 1) cv)).heap[P]? = some (.cells #[.slice (some ⟨G, 0, none⟩) n cap] 26 (0, 0))) := by
                                have h8 := HD5.out.box
                                rw [List.length_set, HN.out] at h8
                                exact (Below.heap_setCell _ _ _ _ (by show P ≠ G; exact HPG.out)).trans ((B10.out.block P lP).trans h8)
                              have HBB : Hid (Below base w (w10.setCell ⟨G, i, none⟩ (.slice (some ⟨qv, 0, none⟩) (m + 1) cv))) := (HD5.out.below.trans (B10.out.mono (Nat.le_trans hbase (Nat.le_of_lt lE)))).setCell hGb _
                              generalize w10.setCell ⟨G, i, none⟩ (.slice (some ⟨qv, 0, none⟩) (m + 1) cv) = wf at *
                              have HFF : Hid (Own13 wf base (.slice (some ⟨G, 0, none⟩) n cap) (us.set i (.slice (some ⟨qv, 0, none⟩) (m + 1) cv)) (ps.set i (edAdd p j ⟨sk, sx, sy⟩))) := by (have h7 := HF.out; rw [List.set_set, List.length_set, HN.out] at h7; exact h7)
                              go_wp2
                              go_ret
                              exact ⟨rfl, _, HBX.out, HFF.out, HBB.out⟩
              case hkh1812 =>
                go_simp
                try go_wp2_with fail
                have bz : Below w7.heap.size w7 (w7.alloc (.cells #[.int .i64 sk, .int .i64 sx, .int .i64 sy] 52)).drew := by go_grown
                have Bl : Hid (Below w7.heap.size w7 (w7.alloc (.cells #[.int .i64 sk, .int .i64 sx, .int .i64 sy] 52)).drew) := bz
                have Ll : Hid ((w7.alloc (.cells #[.int .i64 sk, .int .i64 sx, .int .i64 sy] 52)).drew.heap[w7.heap.size]? = some (.cells #[.int .i64 sk, .int .i64 sx, .int .i64 sy] 52 (0, 0))) := heap_alloc_new w7 _
                generalize hz9 : (w7.alloc (.cells #[.int .i64 sk, .int .i64 sx, .int .i64 sy] 52)).drew = wl at *
                clear hz9 bz
                have ql : w7.heap.size < wl.heap.size := (Array.getElem?_eq_some_iff.1 Ll.out).1
                refine hK.out _ _ (Or.inr ⟨(Bl.out.cell lE).trans e1, (Bl.out.cell lE).trans e2, (Bl.out.cell lE).trans e3, (Bl.out.cell lE).trans e4, (Bl.out.cell lE).trans e5, (Bl.out.cell lP).trans eP, (Bl.out.cell lG).trans eG⟩) (fun hHeld => ?_)
                replace hHeld := hHeld.resolve_left (by decide)
                clear hK K
                try simp only [Act.put, List.setIfInBounds_toArray, List.set_cons_zero, List.set_cons_succ]
                refine wpAnyG_ready (rs := [1]) (by kernel_rfl) (by simp) ?_
                refine (AllReadyG.cons (o := ?ooh18b1) ?hoh18b1 (fun K hK => ?hkh18b1) AllReadyG.nil)
                case hoh18b1 =>
                  simp only [List.getElem?_toArray, List.getElem?_cons_succ, List.getElem?_cons_zero]
                  rfl
                case hkh18b1 =>
                  go_simp
                  try go_wp2_with fail
                  have bz : Below wl.heap.size wl (wl.alloc (.cells #[] 52)) := by go_grown
                  have Ba : Hid (Below w7.heap.size w7 (wl.alloc (.cells #[] 52))) := Below.trans Bl.out (bz.mono Bl.out.size)
                  have Va : Hid ((wl.alloc (.cells #[] 52)).ownsRow w7.heap.size 52 3 (.slice (some ⟨wl.heap.size, 0, none⟩) 0 0) 0 []) := own_mono (World.ownsRow_made wl #[] 0 (Nat.le_refl _) (by unfold maxLen; omega) rfl) Bl.out.size
                  have La : Hid ((wl.alloc (.cells #[] 52)).heap[w7.heap.size]? = some (.cells #[.int .i64 sk, .int .i64 sx, .int .i64 sy] 52 (0, 0))) := (bz.block _ (Array.getElem?_eq_some_iff.1 Ll.out).1).trans Ll.out
                  generalize hz9 : (wl.alloc (.cells #[] 52)) = wa at *
                  clear hz9 bz
                  refine hK.out _ _ (Or.inr ⟨(Ba.out.cell lE).trans e1, (Ba.out.cell lE).trans e2, (Ba.out.cell lE).trans e3, (Ba.out.cell lE).trans e4, (Ba.out.cell lE).trans e5, (Ba.out.cell lP).trans eP, (Ba.out.cell lG).trans eG⟩) (fun hHeld => ?_)
                  replace hHeld := hHeld.resolve_left (by decide)
                  clear hK K
                  try simp only [Act.put, List.setIfInBounds_toArray, List.set_cons_zero, List.set_cons_succ]
                  refine wpAnyG_ready (rs := [9]) (by kernel_rfl) (by simp) ?_
                  refine (AllReadyG.cons (o := ?ooh18b9) ?hoh18b9 (fun K hK => ?hkh18b9) AllReadyG.nil)
                  case hoh18b9 =>
                    simp only [List.getElem?_toArray, List.getElem?_cons_succ, List.getElem?_cons_zero]
                    rfl
                  case hkh18b9 =>
                    refine step_append_any _ rfl (.tmp 144) (.tmp 151) 61 rfl w7.heap.size 52 i0 (.agg #[.int .i64 0, .int .i64 0, .int .i64 0]) 3 24 Tryz.underlying61 hi0 hz0 hz1 hz2 rfl (by decide) (.slice (some ⟨wl.heap.size, 0, none⟩) 0 0) 0 ([]) rfl Va.out (some ⟨g, 0, none⟩) (j) (c) (cells3 (q.take j)) rfl HLT.out (fun _ => ⟨_, rfl, own_takeS (own_kept ow5.out Ba.out) j⟩) (cells3_one _) (by unfold maxLen; omega) (by omega) Ba.out.size ?_
                    intro v6 w6 own6 grow6 new6
                    have V6 : Hid (w6.ownsRow w7.heap.size 52 3 v6 j (cells3 (q.take j))) := by (have hh := own6; rw [Nat.zero_add, List.nil_append] at hh; exact hh)
                    have B6 : Hid (Below w7.heap.size w7 w6) := Ba.out.grown grow6 Ba.out.size (fun k hk => (World.ownsRow.lt Va.out k hk).1)
                    have L6 : Hid (w6.heap[w7.heap.size]? = some (.cells #[.int .i64 sk, .int .i64 sx, .int .i64 sy] 52 (0, 0))) := (grow6.block _ (Array.getElem?_eq_some_iff.1 La.out).1 (fun e => absurd (Option.some.inj (show some (w7.heap.size) = some (wl.heap.size) from e)) (by omega))).trans La.out
                    clear own6 grow6 new6
                    refine hK.out _ _ (Or.inr ⟨(B6.out.cell lE).trans e1, (B6.out.cell lE).trans e2, (B6.out.cell lE).trans e3, (B6.out.cell lE).trans e4, (B6.out.cell lE).trans e5, (B6.out.cell lP).trans eP, (B6.out.cell lG).trans eG⟩) (fun hHeld => ?_)
                    replace hHeld := hHeld.resolve_left (by decide)
                    clear hK K
                    try simp only [Act.put, List.setIfInBounds_toArray, List.set_cons_zero, List.set_cons_succ]
                    refine wpAnyG_ready (rs := [13]) (by kernel_rfl) (by simp) ?_
                    refine (AllReadyG.cons (o := ?ooh18b13) ?hoh18b13 (fun K hK => ?hkh18b13) AllReadyG.nil)
                    case hoh18b13 =>
                      simp only [List.getElem?_toArray, List.getElem?_cons_succ, List.getElem?_cons_zero]
                      rfl
                    case hkh18b13 =>
                      refine step_append_any _ rfl (.tmp 152) (.tmp 155) 61 rfl w7.heap.size 52 i0 (.agg #[.int .i64 0, .int .i64 0, .int .i64 0]) 3 24 Tryz.underlying61 hi0 hz0 hz1 hz2 rfl (by decide) (v6) j (cells3 (q.take j)) rfl V6.out (some ⟨w7.heap.size, 0, none⟩) (1) (1) (cells3 [⟨sk, sx, sy⟩]) rfl rfl (fun _ => ⟨_, rfl, lit_cells L6.out⟩) (cells3_one _) (by unfold maxLen; omega) (by omega) B6.out.size ?_
                      intro v9 w9 own9 grow9 new9
                      have V9 : Hid (w9.ownsRow w7.heap.size 52 3 v9 (j + 1) (cells3 (q.take j) ++ cells3 [⟨sk, sx, sy⟩])) := own9
                      have B9 : Hid (Below w7.heap.size w7 w9) := B6.out.grown grow9 B6.out.size (fun k hk => (World.ownsRow.lt V6.out k hk).1)
                      clear own9 grow9 new9
                      refine hK.out _ _ (Or.inr ⟨(B9.out.cell lE).trans e1, (B9.out.cell lE).trans e2, (B9.out.cell lE).trans e3, (B9.out.cell lE).trans e4, (B9.out.cell lE).trans e5, (B9.out.cell lP).trans eP, (B9.out.cell lG).trans eG⟩) (fun hHeld => ?_)
                      replace hHeld := hHeld.resolve_left (by decide)
                      clear hK K
                      try simp only [Act.put, List.setIfInBounds_toArray, List.set_cons_zero, List.set_cons_succ]
                      refine wpAnyG_ready (rs := [15]) (by kernel_rfl) (by simp) ?_
                      refine (AllReadyG.cons (o := ?ooh18b15) ?hoh18b15 (fun K hK => ?hkh18b15) AllReadyG.nil)
                      case hoh18b15 =>
                        simp only [List.getElem?_toArray, List.getElem?_cons_succ, List.getElem?_cons_zero]
                        rfl
                      case hkh18b15 =>
                        refine step_append_any _ rfl (.tmp 156) (.tmp 157) 61 rfl w7.heap.size 52 i0 (.agg #[.int .i64 0, .int .i64 0, .int .i64 0]) 3 24 Tryz.underlying61 hi0 hz0 hz1 hz2 rfl (by decide) (v9) (j + 1) (cells3 (q.take j) ++ cells3 [⟨sk, sx, sy⟩]) rfl V9.out (some ⟨r, 0, none⟩) (m - j) (rc) (cells3 (q.drop j)) rfl HLD.out (fun _ => ⟨_, rfl, own_cellsS (own_kept HREST.out B9.out)⟩) (cells3_one _) (by unfold maxLen; omega) (by omega) B9.out.size ?_
                        intro v10 w10 own10 grow10 new10
                        have V10 : Hid (w10.ownsRow w7.heap.size 52 3 v10 (m + 1) (cells3 (edAdd p j ⟨sk, sx, sy⟩))) := by (have hh := own10; rw [HLS.out, HEA.out] at hh; exact hh)
                        have B10 : Hid (Below w7.heap.size w7 w10) := B9.out.grown grow10 B9.out.size (fun k hk => (World.ownsRow.lt V9.out k hk).1)
                        clear own10 grow10 new10
                        obtain ⟨qv, cv, hqv⟩ := own_formS V10.out (by omega)
                        subst hqv
                        refine hK.out _ _ (Or.inr ⟨(B10.out.cell lE).trans e1, (B10.out.cell lE).trans e2, (B10.out.cell lE).trans e3, (B10.out.cell lE).trans e4, (B10.out.cell lE).trans e5, (B10.out.cell lP).trans eP, (B10.out.cell lG).trans eG⟩) (fun hHeld => ?_)
                        replace hHeld := hHeld.resolve_left (by decide)
                        clear hK K
                        try simp only [Act.put, List.setIfInBounds_toArray, List.set_cons_zero, List.set_cons_succ]
                        refine wpAnyG_ready (rs := [16]) (by kernel_rfl) (by simp) ?_
                        refine (AllReadyG.cons (o := ?ooh18b16) ?hoh18b16 (fun K hK => ?hkh18b16) AllReadyG.nil)
                        case hoh18b16 =>
                          simp only [List.getElem?_toArray, List.getElem?_cons_succ, List.getElem?_cons_zero]
                          rfl
                        case hkh18b16 =>
                          go_simp
                          have fG9 : w10.frozen? ⟨G, i, none⟩ = false := World.ownsRow.frozenAt (own_kept HD5.out.own.row B10.out) i
                          have eG9 : w10.cell? ⟨G, i, none⟩ = some (.slice (some ⟨g, 0, none⟩) m c) := (B10.out.cell lG).trans eG
                          try go_wp2_with fail
                          refine hK.out _ _ (Or.inr ⟨(B10.out.cell lE).trans e1, (B10.out.cell lE).trans e2, (B10.out.cell lE).trans e3, (B10.out.cell lE).trans e4, (B10.out.cell lE).trans e5, (B10.out.cell lP).trans eP, (B10.out.cell lG).trans eG⟩) (fun hHeld => ?_)
                          replace hHeld := hHeld.resolve_left (by decide)
                          clear hK K
                          try simp only [Act.put, List.setIfInBounds_toArray, List.set_cons_zero, List.set_cons_succ]
                          refine wpAnyG_ready (rs := [17]) (by kernel_rfl) (by simp) ?_
                          refine (AllReadyG.cons (o := ?ooh18b17) ?hoh18b17 (fun K hK => ?hkh18b17) AllReadyG.nil)
                          case hoh18b17 =>
                            simp only [List.getElem?_toArray, List.getElem?_cons_succ, List.getElem?_cons_zero]
                            rfl
                          case hkh18b17 =>
                            go_simp
                            try go_wp2_with fail
                            refine hK.out _ _ (Or.inr ⟨(B10.out.cell lE).trans e1, (B10.out.cell lE).trans e2, (B10.out.cell lE).trans e3, (B10.out.cell lE).trans e4, (B10.out.cell lE).trans e5, (B10.out.cell lP).trans eP, (B10.out.cell lG).trans eG⟩) (fun hHeld => ?_)
                            replace hHeld := hHeld.resolve_left (by decide)
                            clear hK K
                            try simp only [Act.put, List.setIfInBounds_toArray, List.set_cons_zero, List.set_cons_succ]
                            refine wpAnyG_ready (rs := [18]) (by kernel_rfl) (by simp) ?_
                            refine (AllReadyG.cons (o := ?ooh18b18) ?hoh18b18 (fun K hK => ?hkh18b18) AllReadyG.nil)
                            case hoh18b18 =>
                              simp only [List.getElem?_toArray, List.getElem?_cons_succ, List.getElem?_cons_zero]
                              rfl
                            case hkh18b18 =>
                              go_simp
                              try go_wp2_with fail
                              refine hK.out _ _ (Or.inl rfl) (fun _ => ?_)
                              clear hK K
                              try simp only [Act.put, List.setIfInBounds_toArray, List.set_cons_zero, List.set_cons_succ]
                              refine wpAnyG_done (by kernel_rfl) ?_ _
                              have HF : Hid (Own13 (w10.setCell ⟨G, i, none⟩ (.slice (some ⟨qv, 0, none⟩) (m + 1) cv)) base (.slice (some ⟨G, 0, none⟩) (ps.set i q).length cap) (us.set i (.slice (some ⟨qv, 0, none⟩) (m + 1) cv)) ((ps.set i q).set i (edAdd p j ⟨sk, sx, sy⟩))) := by
                                have h7 := Own13.spl (R := edAdd p j ⟨sk, sx, sy⟩) HD5.out.own (by simp [HN.out]; exact hi) HUI.out (grown_of_below B10.out (some g)) (c' := cv) (q := qv) (by rw [HRL.out]; exact own_mono V10.out (Nat.le_trans hbase (Nat.le_of_lt lE))) (.inr (World.ownsRow.lt V10.out qv rfl).1)
                                rw [HRL.out] at h7
                                exact h7
                              have HBX : Hid ((w10.setCell ⟨G, i, none⟩ (.slice (some ⟨qv, 0, none⟩) (m + 1) cv)).heap[P]? = some (.cells #[.slice (some ⟨G, 0, none⟩) n cap] 26 (0, 0))) := by
                                have h8 := HD5.out.box
                                rw [List.length_set, HN.out] at h8
                                exact (Below.heap_setCell _ _ _ _ (by show P ≠ G; exact HPG.out)).trans ((B10.out.block P lP).trans h8)
                              have HBB : Hid (Below base w (w10.setCell ⟨G, i, none⟩ (.slice (some ⟨qv, 0, none⟩) (m + 1) cv))) := (HD5.out.below.trans (B10.out.mono (Nat.le_trans hbase (Nat.le_of_lt lE)))).setCell hGb _
                              generalize w10.setCell ⟨G, i, none⟩ (.slice (some ⟨qv, 0, none⟩) (m + 1) cv) = wf at *
                              have HFF : Hid (Own13 wf base (.slice (some ⟨G, 0, none⟩) n cap) (us.set i (.slice (some ⟨qv, 0, none⟩) (m + 1) cv)) (ps.set i (edAdd p j ⟨sk, sx, sy⟩))) := by (have h7 := HF.out; rw [List.set_set, List.length_set, HN.out] at h7; exact h7)
                              go_wp2
                              go_ret
                              exact ⟨rfl, _, HBX.out, HFF.out, HBB.out⟩

end Go.Proofs.YtldagpfeaabcdaaGreatDoor
