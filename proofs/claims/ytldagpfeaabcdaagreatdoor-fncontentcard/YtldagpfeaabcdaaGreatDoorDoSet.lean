/-
  spec.l13Do: a statement in place of another.
-/
import Derived.Test.YtldagpfeaabcdaaGreatDoorG05Do13M
import Derived.BigRegion
namespace Go.Proofs.YtldagpfeaabcdaaGreatDoor
open Go.RowKit
set_option linter.unusedVariables false
set_option linter.unusedSimpArgs false
set_option maxHeartbeats 8000000
set_option maxRecDepth 20000

theorem cells3_set3 : ∀ (L : List Stm) (j : Nat) (k x y : Int), j < L.length → (((cells3 L).set (j * 3) (.int .i64 k)).set (j * 3 + 1) (.int .i64 x)).set (j * 3 + 2) (.int .i64 y) = cells3 (L.set j ⟨k, x, y⟩)
  | [], j, k, x, y, h => by simp at h
  | t :: L, 0, k, x, y, h => rfl
  | t :: L, j + 1, k, x, y, h => by
    have ih := cells3_set3 L j k x y (by simpa using h)
    have e1 : (j + 1) * 3 = j * 3 + 1 + 1 + 1 := by omega
    have e2 : (j + 1) * 3 + 1 = j * 3 + 1 + 1 + 1 + 1 := by omega
    have e3 : (j + 1) * 3 + 2 = j * 3 + 2 + 1 + 1 + 1 := by omega
    rw [e2, e3, e1]
    simp only [cells3, List.set_cons_succ, ih]

theorem edSet_eq (p : List Stm) (j : Nat) (s : Stm) (h : j < p.length) : edSet p j s = p.set j s := by
  unfold edSet
  rw [List.set_eq_take_append_cons_drop, if_pos h]

theorem own_set3 {w : World} {base g m c j : Nat} {p : List Stm} (h : w.ownsRow base 52 3 (.slice (some ⟨g, 0, none⟩) m c) m (cells3 p)) (hm : p.length = m) (hj : j < m) (k x y : Int) :
    (((w.setCell ⟨g, j * 3, none⟩ (.int .i64 k)).setCell ⟨g, j * 3 + 1, none⟩ (.int .i64 x)).setCell ⟨g, j * 3 + 2, none⟩ (.int .i64 y)).ownsRow base 52 3 (.slice (some ⟨g, 0, none⟩) m c) m (cells3 (edSet p j ⟨k, x, y⟩)) := by
  have h3 := (((h.stored (j * 3) (.int .i64 k)).1.stored (j * 3 + 1) (.int .i64 x)).1.stored (j * 3 + 2) (.int .i64 y)).1
  rw [cells3_set3 p j k x y (by omega)] at h3
  rw [edSet_eq _ _ _ (by omega)]
  exact h3

theorem l13DoSet (ps : List (List Stm)) (p : List Stm) (sk sx sy : Int) (i j n m P base G cap g c : Nat) (us : List Value) (w : World) (hn : ps.length = n) (hl : n ≤ 100) (hi : i < n) (hp : ps[i]? = some p) (hm : p.length = m) (hm1 : m ≤ 100) (hj : j < m) (hui : us[i]? = some (.slice (some ⟨g, 0, none⟩) m c)) (hbP : base ≤ P) (hbase : base ≤ w.heap.size)
    (hP : w.heap[P]? = some (.cells #[.slice (some ⟨G, 0, none⟩) n cap] 26 (0, 0))) (hO : Own13 w base (.slice (some ⟨G, 0, none⟩) n cap) us ps) :
    Calls Tryz.prog 50 #[.pointer (some ⟨P, 0, none⟩), .agg #[.int .i64 1, .int .i64 (i : Int), .int .i64 (j : Int), .int .i64 sk, .int .i64 sx, .int .i64 sy]] w fun r w' => r = .returned (.bool true) ∧ ∃ vs, w'.heap[P]? = some (.cells #[.slice (some ⟨G, 0, none⟩) n cap] 26 (0, 0)) ∧ Own13 w' base (.slice (some ⟨G, 0, none⟩) n cap) vs (ps.set i (edSet p j ⟨sk, sx, sy⟩)) ∧ Below base w w' := by
  subst hn
  obtain ⟨i0, hi0, hz0, hz1, hz2⟩ := info_parts infoStmt
  have hbA : Below w.heap.size w (w.alloc (.cells #[.int .i64 1, .int .i64 (i : Int), .int .i64 (j : Int), .int .i64 sk, .int .i64 sx, .int .i64 sy] 54)) := by go_grown
  have hPl : P < w.heap.size := (Array.getElem?_eq_some_iff.1 hP).1
  have D0 : Do13 w base P G cap 1 i j sk sx sy us ps (w.alloc (.cells #[.int .i64 1, .int .i64 (i : Int), .int .i64 (j : Int), .int .i64 sk, .int .i64 sx, .int .i64 sy] 54)) := ⟨heap_alloc_new w _, (hbA.block P hPl).trans hP, hO.kept hbA, hbA.mono hbase, by simp⟩
  have hoi := hO.each i _ p hui hp
  rw [hm] at hoi
  have hgb : base ≤ g := (hoi.lt g rfl).1
  obtain ⟨_, _, _, hmc, hcm, _⟩ := own_open hoi
  unfold maxLen at hcm
  have hGb : base ≤ G := (hO.row.lt G rfl).1
  have hGg : G ≠ g := fun e => kind13 hoi hO.row (by decide) g rfl (by rw [e]; rfl)
  have hEg : w.heap.size ≠ g := by have := (hoi.lt g rfl).2; omega
  obtain ⟨W0, hW0⟩ : ∃ W0, w.alloc (.cells #[.int .i64 1, .int .i64 (i : Int), .int .i64 (j : Int), .int .i64 sk, .int .i64 sx, .int .i64 sy] 54) = W0 := ⟨_, rfl⟩
  rw [hW0] at D0
  have hin1 := l1In (i : Int) 0 ((ps.length : Int) - 1)
  rw [show inB (i : Int) 0 ((ps.length : Int) - 1) = true by simp [inB]; omega] at hin1
  have hin2 := l1In (j : Int) 0 ((m : Int) - 1)
  rw [show inB (j : Int) 0 ((m : Int) - 1) = true by simp [inB]; omega] at hin2
  have hiI : (i : Int) < (ps.length : Int) := by omega
  have hjI : (j : Int) < (m : Int) := by omega
  have hmcI : (m : Int) ≤ (c : Int) := by omega
  have HPM : Hid (p.length = m) := hm
  have HPI : Hid (ps[i]? = some p) := hp
  have HUI : Hid (us[i]? = some (.slice (some ⟨g, 0, none⟩) m c)) := hui
  have hwn : IntKind.i64.wrap ((ps.length : Int) - 1) = (ps.length : Int) - 1 := IntWalk.i64_in _ (by omega)
  have hwm : IntKind.i64.wrap ((m : Int) - 1) = (m : Int) - 1 := IntWalk.i64_in _ (by omega)
  obtain ⟨e0, e1, e2, e3, e4, e5, eP, eG, fG⟩ := D0.cells hui
  have HD0 : Hid (Do13 w base P G cap 1 i j sk sx sy us ps W0) := D0
  clear D0 hoi hui hm hp hO hP hbA
  obtain ⟨n, hN⟩ : ∃ n, ps.length = n := ⟨_, rfl⟩
  rw [hN] at hin1 hiI hwn eP hl hi ⊢
  have HN : Hid (ps.length = n) := hN
  clear hN
  have HEL : Hid ((edSet p j ⟨sk, sx, sy⟩).length = m) := by (show _ = _; rw [edSet_eq _ _ _ (by rw [HPM.out]; exact hj), List.length_set, HPM.out])
  go_enter Tryz.func50, Tryz.ntmps50
  go_wp2_with fail
  refine wp_region_held_drew (S := fun w' => w'.cell? ⟨w.heap.size, 1, none⟩ = some (.int .i64 (i : Int)) ∧ w'.cell? ⟨w.heap.size, 2, none⟩ = some (.int .i64 (j : Int)) ∧ w'.cell? ⟨w.heap.size, 3, none⟩ = some (.int .i64 sk) ∧ w'.cell? ⟨w.heap.size, 4, none⟩ = some (.int .i64 sx) ∧ w'.cell? ⟨w.heap.size, 5, none⟩ = some (.int .i64 sy) ∧ w'.cell? ⟨P, 0, none⟩ = some (.slice (some ⟨G, 0, none⟩) n cap) ∧ w'.cell? ⟨G, i, none⟩ = some (.slice (some ⟨g, 0, none⟩) m c)) (by kernel_rfl) ⟨e1, e2, e3, e4, e5, eP, eG⟩ (fun hHeld => ?_)
  refine wpAnyH_take (i := 0) (oi := ?oir40) (v := .pointer (some ⟨w.heap.size, 1, none⟩)) ?hir40 (by kernel_rfl) (by kernel_rfl) (by kernel_rfl) ?hqr40 ?hyr40 hHeld ?hrr40
  case hir40 =>
    simp only [List.getElem?_toArray, List.getElem?_cons_succ, List.getElem?_cons_zero]
    rfl
  case hqr40 => exact fun _ _ _ h => h
  case hyr40 => exact Or.inl ⟨by kernel_rfl, fun w hSw => by go_simp⟩
  try simp only [Act.put, List.setIfInBounds_toArray, List.set_cons_zero, List.set_cons_succ]
  refine wpAnyH_take (i := 1) (oi := ?oir41) (v := .int .i64 (i : Int)) ?hir41 (by kernel_rfl) (by kernel_rfl) (by kernel_rfl) ?hqr41 ?hyr41 hHeld ?hrr41
  case hir41 =>
    simp only [List.getElem?_toArray, List.getElem?_cons_succ, List.getElem?_cons_zero]
    rfl
  case hqr41 => exact fun _ _ _ h => h
  case hyr41 => exact Or.inl ⟨by kernel_rfl, fun w hSw => by obtain ⟨s1, s2, s3, s4, s5, s6, s7⟩ := hSw; go_simp⟩
  try simp only [Act.put, List.setIfInBounds_toArray, List.set_cons_zero, List.set_cons_succ]
  refine wpAnyH_take (i := 2) (oi := ?oir42) (v := .pointer (some ⟨P, 0, none⟩)) ?hir42 (by kernel_rfl) (by kernel_rfl) (by kernel_rfl) ?hqr42 ?hyr42 hHeld ?hrr42
  case hir42 =>
    simp only [List.getElem?_toArray, List.getElem?_cons_succ, List.getElem?_cons_zero]
    rfl
  case hqr42 => exact fun _ _ _ h => h
  case hyr42 => exact Or.inl ⟨by kernel_rfl, fun w hSw => by go_simp⟩
  try simp only [Act.put, List.setIfInBounds_toArray, List.set_cons_zero, List.set_cons_succ]
  refine wpAnyH_take (i := 3) (oi := ?oir43) (v := .pointer (some ⟨P, 0, none⟩)) ?hir43 (by kernel_rfl) (by kernel_rfl) (by kernel_rfl) ?hqr43 ?hyr43 hHeld ?hrr43
  case hir43 =>
    simp only [List.getElem?_toArray, List.getElem?_cons_succ, List.getElem?_cons_zero]
    rfl
  case hqr43 => exact fun _ _ _ h => h
  case hyr43 => exact Or.inl ⟨by kernel_rfl, fun w hSw => by go_simp⟩
  try simp only [Act.put, List.setIfInBounds_toArray, List.set_cons_zero, List.set_cons_succ]
  refine wpAnyH_take (i := 4) (oi := ?oir44) (v := .pointer (some ⟨P, 0, none⟩)) ?hir44 (by kernel_rfl) (by kernel_rfl) (by kernel_rfl) ?hqr44 ?hyr44 hHeld ?hrr44
  case hir44 =>
    simp only [List.getElem?_toArray, List.getElem?_cons_succ, List.getElem?_cons_zero]
    rfl
  case hqr44 => exact fun _ _ _ h => h
  case hyr44 => exact Or.inl ⟨by kernel_rfl, fun w hSw => by go_simp⟩
  try simp only [Act.put, List.setIfInBounds_toArray, List.set_cons_zero, List.set_cons_succ]
  refine wpAnyH_take (i := 5) (oi := ?oir45) (v := .slice (some ⟨G, 0, none⟩) n cap) ?hir45 (by kernel_rfl) (by kernel_rfl) (by kernel_rfl) ?hqr45 ?hyr45 hHeld ?hrr45
  case hir45 =>
    simp only [List.getElem?_toArray, List.getElem?_cons_succ, List.getElem?_cons_zero]
    rfl
  case hqr45 => exact fun _ _ _ h => h
  case hyr45 => exact Or.inl ⟨by kernel_rfl, fun w hSw => by obtain ⟨s1, s2, s3, s4, s5, s6, s7⟩ := hSw; go_simp⟩
  try simp only [Act.put, List.setIfInBounds_toArray, List.set_cons_zero, List.set_cons_succ]
  refine wpAnyH_take (i := 6) (oi := ?oir46) (v := .int .i64 (n : Int)) ?hir46 (by kernel_rfl) (by kernel_rfl) (by kernel_rfl) ?hqr46 ?hyr46 hHeld ?hrr46
  case hir46 =>
    simp only [List.getElem?_toArray, List.getElem?_cons_succ, List.getElem?_cons_zero]
    rfl
  case hqr46 => exact fun _ _ _ h => h
  case hyr46 => exact Or.inl ⟨by kernel_rfl, fun w hSw => by go_simp⟩
  try simp only [Act.put, List.setIfInBounds_toArray, List.set_cons_zero, List.set_cons_succ]
  refine wpAnyH_take (i := 7) (oi := ?oir47) (v := .int .i64 ((n : Int) - 1)) ?hir47 (by kernel_rfl) (by kernel_rfl) (by kernel_rfl) ?hqr47 ?hyr47 hHeld ?hrr47
  case hir47 =>
    simp only [List.getElem?_toArray, List.getElem?_cons_succ, List.getElem?_cons_zero]
    rfl
  case hqr47 => exact fun _ _ _ h => h
  case hyr47 => exact Or.inl ⟨by kernel_rfl, fun w hSw => by go_simp⟩
  try simp only [Act.put, List.setIfInBounds_toArray, List.set_cons_zero, List.set_cons_succ]
  refine wpAnyH_ready (rs := [8]) (by kernel_rfl) (by simp) ?_
  refine (AllReadyH.cons (o := ?oor48) ?hor48 (fun K hK => ?hkr48) AllReadyH.nil)
  case hor48 =>
    simp only [List.getElem?_toArray, List.getElem?_cons_succ, List.getElem?_cons_zero]
    rfl
  case hkr48 =>
    go_simp
    go_at_call 59
    refine (hin1 _).mono ?_
    rintro r wz ⟨rfl, rfl⟩
    try go_wp2_with fail
    refine hK.out _ _ ⟨e1, e2, e3, e4, e5, eP, eG⟩ (fun hHeld => ?_)
    clear hK K
    try simp only [Act.put, List.setIfInBounds_toArray, List.set_cons_zero, List.set_cons_succ]
    refine wpAnyH_take (i := 9) (oi := ?oir49) (v := .bool false) ?hir49 (by kernel_rfl) (by kernel_rfl) (by kernel_rfl) ?hqr49 ?hyr49 hHeld ?hrr49
    case hir49 =>
      simp only [List.getElem?_toArray, List.getElem?_cons_succ, List.getElem?_cons_zero]
      rfl
    case hqr49 => exact fun _ _ _ h => h
    case hyr49 => exact Or.inl ⟨by kernel_rfl, fun w hSw => by go_simp⟩
    try simp only [Act.put, List.setIfInBounds_toArray, List.set_cons_zero, List.set_cons_succ]
    refine wpAnyH_take (i := 10) (oi := ?oir410) (v := .bool false) ?hir410 (by kernel_rfl) (by kernel_rfl) (by kernel_rfl) ?hqr410 ?hyr410 hHeld ?hrr410
    case hir410 =>
      simp only [List.getElem?_toArray, List.getElem?_cons_succ, List.getElem?_cons_zero]
      rfl
    case hqr410 => exact fun _ _ _ h => h
    case hyr410 => exact Or.inl ⟨by kernel_rfl, fun w hSw => by go_simp⟩
    try simp only [Act.put, List.setIfInBounds_toArray, List.set_cons_zero, List.set_cons_succ]
    refine wpAnyH_take (i := 11) (oi := ?oir411) (v := .pointer (some ⟨w.heap.size, 2, none⟩)) ?hir411 (by kernel_rfl) (by kernel_rfl) (by kernel_rfl) ?hqr411 ?hyr411 hHeld ?hrr411
    case hir411 =>
      simp only [List.getElem?_toArray, List.getElem?_cons_succ, List.getElem?_cons_zero]
      rfl
    case hqr411 => exact fun _ _ _ h => h
    case hyr411 => exact Or.inl ⟨by kernel_rfl, fun w hSw => by go_simp⟩
    try simp only [Act.put, List.setIfInBounds_toArray, List.set_cons_zero, List.set_cons_succ]
    refine wpAnyH_take (i := 12) (oi := ?oir412) (v := .int .i64 (j : Int)) ?hir412 (by kernel_rfl) (by kernel_rfl) (by kernel_rfl) ?hqr412 ?hyr412 hHeld ?hrr412
    case hir412 =>
      simp only [List.getElem?_toArray, List.getElem?_cons_succ, List.getElem?_cons_zero]
      rfl
    case hqr412 => exact fun _ _ _ h => h
    case hyr412 => exact Or.inl ⟨by kernel_rfl, fun w hSw => by obtain ⟨s1, s2, s3, s4, s5, s6, s7⟩ := hSw; go_simp⟩
    try simp only [Act.put, List.setIfInBounds_toArray, List.set_cons_zero, List.set_cons_succ]
    refine wpAnyH_take (i := 13) (oi := ?oir413) (v := .pointer (some ⟨P, 0, none⟩)) ?hir413 (by kernel_rfl) (by kernel_rfl) (by kernel_rfl) ?hqr413 ?hyr413 hHeld ?hrr413
    case hir413 =>
      simp only [List.getElem?_toArray, List.getElem?_cons_succ, List.getElem?_cons_zero]
      rfl
    case hqr413 => exact fun _ _ _ h => h
    case hyr413 => exact Or.inl ⟨by kernel_rfl, fun w hSw => by go_simp⟩
    try simp only [Act.put, List.setIfInBounds_toArray, List.set_cons_zero, List.set_cons_succ]
    refine wpAnyH_take (i := 14) (oi := ?oir414) (v := .pointer (some ⟨P, 0, none⟩)) ?hir414 (by kernel_rfl) (by kernel_rfl) (by kernel_rfl) ?hqr414 ?hyr414 hHeld ?hrr414
    case hir414 =>
      simp only [List.getElem?_toArray, List.getElem?_cons_succ, List.getElem?_cons_zero]
      rfl
    case hqr414 => exact fun _ _ _ h => h
    case hyr414 => exact Or.inl ⟨by kernel_rfl, fun w hSw => by go_simp⟩
    try simp only [Act.put, List.setIfInBounds_toArray, List.set_cons_zero, List.set_cons_succ]
    refine wpAnyH_take (i := 15) (oi := ?oir415) (v := .pointer (some ⟨P, 0, none⟩)) ?hir415 (by kernel_rfl) (by kernel_rfl) (by kernel_rfl) ?hqr415 ?hyr415 hHeld ?hrr415
    case hir415 =>
      simp only [List.getElem?_toArray, List.getElem?_cons_succ, List.getElem?_cons_zero]
      rfl
    case hqr415 => exact fun _ _ _ h => h
    case hyr415 => exact Or.inl ⟨by kernel_rfl, fun w hSw => by go_simp⟩
    try simp only [Act.put, List.setIfInBounds_toArray, List.set_cons_zero, List.set_cons_succ]
    refine wpAnyH_take (i := 16) (oi := ?oir416) (v := .slice (some ⟨G, 0, none⟩) n cap) ?hir416 (by kernel_rfl) (by kernel_rfl) (by kernel_rfl) ?hqr416 ?hyr416 hHeld ?hrr416
    case hir416 =>
      simp only [List.getElem?_toArray, List.getElem?_cons_succ, List.getElem?_cons_zero]
      rfl
    case hqr416 => exact fun _ _ _ h => h
    case hyr416 => exact Or.inl ⟨by kernel_rfl, fun w hSw => by obtain ⟨s1, s2, s3, s4, s5, s6, s7⟩ := hSw; go_simp⟩
    try simp only [Act.put, List.setIfInBounds_toArray, List.set_cons_zero, List.set_cons_succ]
    refine wpAnyH_take (i := 17) (oi := ?oir417) (v := .pointer (some ⟨w.heap.size, 1, none⟩)) ?hir417 (by kernel_rfl) (by kernel_rfl) (by kernel_rfl) ?hqr417 ?hyr417 hHeld ?hrr417
    case hir417 =>
      simp only [List.getElem?_toArray, List.getElem?_cons_succ, List.getElem?_cons_zero]
      rfl
    case hqr417 => exact fun _ _ _ h => h
    case hyr417 => exact Or.inl ⟨by kernel_rfl, fun w hSw => by go_simp⟩
    try simp only [Act.put, List.setIfInBounds_toArray, List.set_cons_zero, List.set_cons_succ]
    refine wpAnyH_take (i := 18) (oi := ?oir418) (v := .int .i64 (i : Int)) ?hir418 (by kernel_rfl) (by kernel_rfl) (by kernel_rfl) ?hqr418 ?hyr418 hHeld ?hrr418
    case hir418 =>
      simp only [List.getElem?_toArray, List.getElem?_cons_succ, List.getElem?_cons_zero]
      rfl
    case hqr418 => exact fun _ _ _ h => h
    case hyr418 => exact Or.inl ⟨by kernel_rfl, fun w hSw => by obtain ⟨s1, s2, s3, s4, s5, s6, s7⟩ := hSw; go_simp⟩
    try simp only [Act.put, List.setIfInBounds_toArray, List.set_cons_zero, List.set_cons_succ]
    refine wpAnyH_take (i := 19) (oi := ?oir419) (v := .pointer (some ⟨G, i, none⟩)) ?hir419 (by kernel_rfl) (by kernel_rfl) (by kernel_rfl) ?hqr419 ?hyr419 hHeld ?hrr419
    case hir419 =>
      simp only [List.getElem?_toArray, List.getElem?_cons_succ, List.getElem?_cons_zero]
      rfl
    case hqr419 => exact fun _ _ _ h => h
    case hyr419 => exact Or.inl ⟨by kernel_rfl, fun w hSw => by go_simp⟩
    try simp only [Act.put, List.setIfInBounds_toArray, List.set_cons_zero, List.set_cons_succ]
    refine wpAnyH_take (i := 20) (oi := ?oir420) (v := .pointer (some ⟨G, i, none⟩)) ?hir420 (by kernel_rfl) (by kernel_rfl) (by kernel_rfl) ?hqr420 ?hyr420 hHeld ?hrr420
    case hir420 =>
      simp only [List.getElem?_toArray, List.getElem?_cons_succ, List.getElem?_cons_zero]
      rfl
    case hqr420 => exact fun _ _ _ h => h
    case hyr420 => exact Or.inl ⟨by kernel_rfl, fun w hSw => by go_simp⟩
    try simp only [Act.put, List.setIfInBounds_toArray, List.set_cons_zero, List.set_cons_succ]
    refine wpAnyH_take (i := 21) (oi := ?oir421) (v := .slice (some ⟨g, 0, none⟩) m c) ?hir421 (by kernel_rfl) (by kernel_rfl) (by kernel_rfl) ?hqr421 ?hyr421 hHeld ?hrr421
    case hir421 =>
      simp only [List.getElem?_toArray, List.getElem?_cons_succ, List.getElem?_cons_zero]
      rfl
    case hqr421 => exact fun _ _ _ h => h
    case hyr421 => exact Or.inl ⟨by kernel_rfl, fun w hSw => by obtain ⟨s1, s2, s3, s4, s5, s6, s7⟩ := hSw; go_simp⟩
    try simp only [Act.put, List.setIfInBounds_toArray, List.set_cons_zero, List.set_cons_succ]
    refine wpAnyH_take (i := 22) (oi := ?oir422) (v := .int .i64 (m : Int)) ?hir422 (by kernel_rfl) (by kernel_rfl) (by kernel_rfl) ?hqr422 ?hyr422 hHeld ?hrr422
    case hir422 =>
      simp only [List.getElem?_toArray, List.getElem?_cons_succ, List.getElem?_cons_zero]
      rfl
    case hqr422 => exact fun _ _ _ h => h
    case hyr422 => exact Or.inl ⟨by kernel_rfl, fun w hSw => by go_simp⟩
    try simp only [Act.put, List.setIfInBounds_toArray, List.set_cons_zero, List.set_cons_succ]
    refine wpAnyH_take (i := 23) (oi := ?oir423) (v := .int .i64 ((m : Int) - 1)) ?hir423 (by kernel_rfl) (by kernel_rfl) (by kernel_rfl) ?hqr423 ?hyr423 hHeld ?hrr423
    case hir423 =>
      simp only [List.getElem?_toArray, List.getElem?_cons_succ, List.getElem?_cons_zero]
      rfl
    case hqr423 => exact fun _ _ _ h => h
    case hyr423 => exact Or.inl ⟨by kernel_rfl, fun w hSw => by go_simp⟩
    try simp only [Act.put, List.setIfInBounds_toArray, List.set_cons_zero, List.set_cons_succ]
    refine wpAnyH_ready (rs := [24]) (by kernel_rfl) (by simp) ?_
    refine (AllReadyH.cons (o := ?oor424) ?hor424 (fun K hK => ?hkr424) AllReadyH.nil)
    case hor424 =>
      simp only [List.getElem?_toArray, List.getElem?_cons_succ, List.getElem?_cons_zero]
      rfl
    case hkr424 =>
      go_simp
      go_at_call 59
      refine (hin2 _).mono ?_
      rintro r wz ⟨rfl, rfl⟩
      try go_wp2_with fail
      refine hK.out _ _ ⟨e1, e2, e3, e4, e5, eP, eG⟩ (fun hHeld => ?_)
      clear hK K
      try simp only [Act.put, List.setIfInBounds_toArray, List.set_cons_zero, List.set_cons_succ]
      refine wpAnyH_take (i := 25) (oi := ?oir425) (v := .bool false) ?hir425 (by kernel_rfl) (by kernel_rfl) (by kernel_rfl) ?hqr425 ?hyr425 hHeld ?hrr425
      case hir425 =>
        simp only [List.getElem?_toArray, List.getElem?_cons_succ, List.getElem?_cons_zero]
        rfl
      case hqr425 => exact fun _ _ _ h => h
      case hyr425 => exact Or.inl ⟨by kernel_rfl, fun w hSw => by go_simp⟩
      try simp only [Act.put, List.setIfInBounds_toArray, List.set_cons_zero, List.set_cons_succ]
      refine wpAnyH_take (i := 26) (oi := ?oir426) (v := .bool false) ?hir426 (by kernel_rfl) (by kernel_rfl) (by kernel_rfl) ?hqr426 ?hyr426 hHeld ?hrr426
      case hir426 =>
        simp only [List.getElem?_toArray, List.getElem?_cons_succ, List.getElem?_cons_zero]
        rfl
      case hqr426 => exact fun _ _ _ h => h
      case hyr426 => exact Or.inl ⟨by kernel_rfl, fun w hSw => by go_simp⟩
      try simp only [Act.put, List.setIfInBounds_toArray, List.set_cons_zero, List.set_cons_succ]
      refine wpAnyH_done (by kernel_rfl) ?_ _
      have HD1 : Hid (Do13 w base P G cap 1 i j sk sx sy us (ps) W0.drew) := HD0.out.drew
      clear e0 e1 e2 e3 e4 e5 eP eG fG
      obtain ⟨W1, hW1⟩ : ∃ W1, W0.drew = W1 := ⟨_, rfl⟩
      rw [hW1] at HD1 ⊢
      clear hW1 hin1 hin2
      obtain ⟨e0, e1, e2, e3, e4, e5, eP, eG, fG⟩ := HD1.out.cells HUI.out
      rw [HN.out] at eP
      go_wp2_with fail
      refine wp_region_held_drew (S := fun w' => w'.cell? ⟨w.heap.size, 1, none⟩ = some (.int .i64 (i : Int)) ∧ w'.cell? ⟨w.heap.size, 2, none⟩ = some (.int .i64 (j : Int)) ∧ w'.cell? ⟨w.heap.size, 3, none⟩ = some (.int .i64 sk) ∧ w'.cell? ⟨w.heap.size, 4, none⟩ = some (.int .i64 sx) ∧ w'.cell? ⟨w.heap.size, 5, none⟩ = some (.int .i64 sy) ∧ w'.cell? ⟨P, 0, none⟩ = some (.slice (some ⟨G, 0, none⟩) n cap) ∧ w'.cell? ⟨G, i, none⟩ = some (.slice (some ⟨g, 0, none⟩) m c)) (by kernel_rfl) ⟨e1, e2, e3, e4, e5, eP, eG⟩ (fun hHeld => ?_)
      refine wpAnyH_take (i := 0) (oi := ?oir60) (v := .pointer (some ⟨P, 0, none⟩)) ?hir60 (by kernel_rfl) (by kernel_rfl) (by kernel_rfl) ?hqr60 ?hyr60 hHeld ?hrr60
      case hir60 =>
        simp only [List.getElem?_toArray, List.getElem?_cons_succ, List.getElem?_cons_zero]
        rfl
      case hqr60 => exact fun _ _ _ h => h
      case hyr60 => exact Or.inl ⟨by kernel_rfl, fun w hSw => by go_simp⟩
      try simp only [Act.put, List.setIfInBounds_toArray, List.set_cons_zero, List.set_cons_succ]
      refine wpAnyH_take (i := 1) (oi := ?oir61) (v := .pointer (some ⟨P, 0, none⟩)) ?hir61 (by kernel_rfl) (by kernel_rfl) (by kernel_rfl) ?hqr61 ?hyr61 hHeld ?hrr61
      case hir61 =>
        simp only [List.getElem?_toArray, List.getElem?_cons_succ, List.getElem?_cons_zero]
        rfl
      case hqr61 => exact fun _ _ _ h => h
      case hyr61 => exact Or.inl ⟨by kernel_rfl, fun w hSw => by go_simp⟩
      try simp only [Act.put, List.setIfInBounds_toArray, List.set_cons_zero, List.set_cons_succ]
      refine wpAnyH_take (i := 2) (oi := ?oir62) (v := .pointer (some ⟨P, 0, none⟩)) ?hir62 (by kernel_rfl) (by kernel_rfl) (by kernel_rfl) ?hqr62 ?hyr62 hHeld ?hrr62
      case hir62 =>
        simp only [List.getElem?_toArray, List.getElem?_cons_succ, List.getElem?_cons_zero]
        rfl
      case hqr62 => exact fun _ _ _ h => h
      case hyr62 => exact Or.inl ⟨by kernel_rfl, fun w hSw => by go_simp⟩
      try simp only [Act.put, List.setIfInBounds_toArray, List.set_cons_zero, List.set_cons_succ]
      refine wpAnyH_take (i := 3) (oi := ?oir63) (v := .slice (some ⟨G, 0, none⟩) n cap) ?hir63 (by kernel_rfl) (by kernel_rfl) (by kernel_rfl) ?hqr63 ?hyr63 hHeld ?hrr63
      case hir63 =>
        simp only [List.getElem?_toArray, List.getElem?_cons_succ, List.getElem?_cons_zero]
        rfl
      case hqr63 => exact fun _ _ _ h => h
      case hyr63 => exact Or.inl ⟨by kernel_rfl, fun w hSw => by obtain ⟨s1, s2, s3, s4, s5, s6, s7⟩ := hSw; go_simp⟩
      try simp only [Act.put, List.setIfInBounds_toArray, List.set_cons_zero, List.set_cons_succ]
      refine wpAnyH_take (i := 4) (oi := ?oir64) (v := .pointer (some ⟨w.heap.size, 1, none⟩)) ?hir64 (by kernel_rfl) (by kernel_rfl) (by kernel_rfl) ?hqr64 ?hyr64 hHeld ?hrr64
      case hir64 =>
        simp only [List.getElem?_toArray, List.getElem?_cons_succ, List.getElem?_cons_zero]
        rfl
      case hqr64 => exact fun _ _ _ h => h
      case hyr64 => exact Or.inl ⟨by kernel_rfl, fun w hSw => by go_simp⟩
      try simp only [Act.put, List.setIfInBounds_toArray, List.set_cons_zero, List.set_cons_succ]
      refine wpAnyH_take (i := 5) (oi := ?oir65) (v := .int .i64 (i : Int)) ?hir65 (by kernel_rfl) (by kernel_rfl) (by kernel_rfl) ?hqr65 ?hyr65 hHeld ?hrr65
      case hir65 =>
        simp only [List.getElem?_toArray, List.getElem?_cons_succ, List.getElem?_cons_zero]
        rfl
      case hqr65 => exact fun _ _ _ h => h
      case hyr65 => exact Or.inl ⟨by kernel_rfl, fun w hSw => by obtain ⟨s1, s2, s3, s4, s5, s6, s7⟩ := hSw; go_simp⟩
      try simp only [Act.put, List.setIfInBounds_toArray, List.set_cons_zero, List.set_cons_succ]
      refine wpAnyH_take (i := 6) (oi := ?oir66) (v := .pointer (some ⟨G, i, none⟩)) ?hir66 (by kernel_rfl) (by kernel_rfl) (by kernel_rfl) ?hqr66 ?hyr66 hHeld ?hrr66
      case hir66 =>
        simp only [List.getElem?_toArray, List.getElem?_cons_succ, List.getElem?_cons_zero]
        rfl
      case hqr66 => exact fun _ _ _ h => h
      case hyr66 => exact Or.inl ⟨by kernel_rfl, fun w hSw => by go_simp⟩
      try simp only [Act.put, List.setIfInBounds_toArray, List.set_cons_zero, List.set_cons_succ]
      refine wpAnyH_take (i := 7) (oi := ?oir67) (v := .pointer (some ⟨G, i, none⟩)) ?hir67 (by kernel_rfl) (by kernel_rfl) (by kernel_rfl) ?hqr67 ?hyr67 hHeld ?hrr67
      case hir67 =>
        simp only [List.getElem?_toArray, List.getElem?_cons_succ, List.getElem?_cons_zero]
        rfl
      case hqr67 => exact fun _ _ _ h => h
      case hyr67 => exact Or.inl ⟨by kernel_rfl, fun w hSw => by go_simp⟩
      try simp only [Act.put, List.setIfInBounds_toArray, List.set_cons_zero, List.set_cons_succ]
      refine wpAnyH_done (by kernel_rfl) ?_ _
      have HD2 : Hid (Do13 w base P G cap 1 i j sk sx sy us (ps) W1.drew) := HD1.out.drew
      clear e0 e1 e2 e3 e4 e5 eP eG fG
      obtain ⟨W2, hW2⟩ : ∃ W2, W1.drew = W2 := ⟨_, rfl⟩
      rw [hW2] at HD2 ⊢
      clear hW2
      obtain ⟨e0, e1, e2, e3, e4, e5, eP, eG, fG⟩ := HD2.out.cells HUI.out
      rw [HN.out] at eP
      go_wp2_with fail
      have ow : Hid (W2.drew.ownsRow base 52 3 (.slice (some ⟨g, 0, none⟩) m c) m (cells3 p)) := by (have hh := HD2.out.drew.own.each i _ p HUI.out HPI.out; rw [HPM.out] at hh; exact hh)
      have owB : Hid (W2.ownsRow base 52 3 (.slice (some ⟨g, 0, none⟩) m c) m (cells3 p)) := by (have hh := HD2.out.own.each i _ p HUI.out HPI.out; rw [HPM.out] at hh; exact hh)
      obtain ⟨y0, a0⟩ := own_cell owB.out (j * 3) (by omega)
      obtain ⟨y1, a1⟩ := own_cell owB.out (j * 3 + 1) (by omega)
      obtain ⟨y2, a2⟩ := own_cell owB.out (j * 3 + 2) (by omega)
      have f0 := World.ownsRow.frozenAt owB.out (j * 3)
      have f1 := World.ownsRow.frozenAt owB.out (j * 3 + 1)
      have f2 := World.ownsRow.frozenAt owB.out (j * 3 + 2)
      have HO3 : Hid _ := own_set3 owB.out HPM.out hj sk sx sy
      have HG3 : Hid (W2.grownBy (((W2.setCell ⟨g, j * 3, none⟩ (.int .i64 sk)).setCell ⟨g, j * 3 + 1, none⟩ (.int .i64 sx)).setCell ⟨g, j * 3 + 2, none⟩ (.int .i64 sy)) (some g)) := grown_trans (grown_trans (grown_setRow13 _ _ _ _) (grown_setRow13 _ _ _ _)) (grown_setRow13 _ _ _ _)
      refine wp_region_late (S := fun w' => w'.cell? ⟨w.heap.size, 1, none⟩ = some (.int .i64 (i : Int)) ∧ w'.cell? ⟨w.heap.size, 2, none⟩ = some (.int .i64 (j : Int)) ∧ w'.cell? ⟨w.heap.size, 3, none⟩ = some (.int .i64 sk) ∧ w'.cell? ⟨w.heap.size, 4, none⟩ = some (.int .i64 sx) ∧ w'.cell? ⟨w.heap.size, 5, none⟩ = some (.int .i64 sy) ∧ w'.cell? ⟨P, 0, none⟩ = some (.slice (some ⟨G, 0, none⟩) n cap) ∧ w'.cell? ⟨G, i, none⟩ = some (.slice (some ⟨g, 0, none⟩) m c)) (late := fun j => j == 9) (by kernel_rfl) ⟨e1, e2, e3, e4, e5, eP, eG⟩ (fun hHeld => ?_)
      refine wpAnyG_take (i := 0) (oi := ?oir90) (v := .pointer (some ⟨G, i, none⟩)) ?hir90 (by kernel_rfl) (by kernel_rfl) (by kernel_rfl) (by kernel_rfl) ?hqr90 ?hyr90 hHeld ?hrr90
      case hir90 =>
        simp only [List.getElem?_toArray, List.getElem?_cons_succ, List.getElem?_cons_zero]
        rfl
      case hqr90 => exact fun _ _ _ h => h
      case hyr90 => exact Or.inl ⟨by kernel_rfl, fun w hSw => by go_simp⟩
      try simp only [Act.put, List.setIfInBounds_toArray, List.set_cons_zero, List.set_cons_succ]
      refine wpAnyG_take (i := 1) (oi := ?oir91) (v := .pointer (some ⟨G, i, none⟩)) ?hir91 (by kernel_rfl) (by kernel_rfl) (by kernel_rfl) (by kernel_rfl) ?hqr91 ?hyr91 hHeld ?hrr91
      case hir91 =>
        simp only [List.getElem?_toArray, List.getElem?_cons_succ, List.getElem?_cons_zero]
        rfl
      case hqr91 => exact fun _ _ _ h => h
      case hyr91 => exact Or.inl ⟨by kernel_rfl, fun w hSw => by go_simp⟩
      try simp only [Act.put, List.setIfInBounds_toArray, List.set_cons_zero, List.set_cons_succ]
      refine wpAnyG_take (i := 2) (oi := ?oir92) (v := .pointer (some ⟨G, i, none⟩)) ?hir92 (by kernel_rfl) (by kernel_rfl) (by kernel_rfl) (by kernel_rfl) ?hqr92 ?hyr92 hHeld ?hrr92
      case hir92 =>
        simp only [List.getElem?_toArray, List.getElem?_cons_succ, List.getElem?_cons_zero]
        rfl
      case hqr92 => exact fun _ _ _ h => h
      case hyr92 => exact Or.inl ⟨by kernel_rfl, fun w hSw => by go_simp⟩
      try simp only [Act.put, List.setIfInBounds_toArray, List.set_cons_zero, List.set_cons_succ]
      refine wpAnyG_take (i := 3) (oi := ?oir93) (v := .slice (some ⟨g, 0, none⟩) m c) ?hir93 (by kernel_rfl) (by kernel_rfl) (by kernel_rfl) (by kernel_rfl) ?hqr93 ?hyr93 hHeld ?hrr93
      case hir93 =>
        simp only [List.getElem?_toArray, List.getElem?_cons_succ, List.getElem?_cons_zero]
        rfl
      case hqr93 => exact fun _ _ _ h => h
      case hyr93 => exact Or.inl ⟨by kernel_rfl, fun w hSw => by obtain ⟨s1, s2, s3, s4, s5, s6, s7⟩ := hSw; go_simp⟩
      try simp only [Act.put, List.setIfInBounds_toArray, List.set_cons_zero, List.set_cons_succ]
      refine wpAnyG_take (i := 4) (oi := ?oir94) (v := .pointer (some ⟨w.heap.size, 2, none⟩)) ?hir94 (by kernel_rfl) (by kernel_rfl) (by kernel_rfl) (by kernel_rfl) ?hqr94 ?hyr94 hHeld ?hrr94
      case hir94 =>
        simp only [List.getElem?_toArray, List.getElem?_cons_succ, List.getElem?_cons_zero]
        rfl
      case hqr94 => exact fun _ _ _ h => h
      case hyr94 => exact Or.inl ⟨by kernel_rfl, fun w hSw => by go_simp⟩
      try simp only [Act.put, List.setIfInBounds_toArray, List.set_cons_zero, List.set_cons_succ]
      refine wpAnyG_take (i := 5) (oi := ?oir95) (v := .int .i64 (j : Int)) ?hir95 (by kernel_rfl) (by kernel_rfl) (by kernel_rfl) (by kernel_rfl) ?hqr95 ?hyr95 hHeld ?hrr95
      case hir95 =>
        simp only [List.getElem?_toArray, List.getElem?_cons_succ, List.getElem?_cons_zero]
        rfl
      case hqr95 => exact fun _ _ _ h => h
      case hyr95 => exact Or.inl ⟨by kernel_rfl, fun w hSw => by obtain ⟨s1, s2, s3, s4, s5, s6, s7⟩ := hSw; go_simp⟩
      try simp only [Act.put, List.setIfInBounds_toArray, List.set_cons_zero, List.set_cons_succ]
      refine wpAnyG_take (i := 6) (oi := ?oir96) (v := .pointer (some ⟨w.heap.size, 3, none⟩)) ?hir96 (by kernel_rfl) (by kernel_rfl) (by kernel_rfl) (by kernel_rfl) ?hqr96 ?hyr96 hHeld ?hrr96
      case hir96 =>
        simp only [List.getElem?_toArray, List.getElem?_cons_succ, List.getElem?_cons_zero]
        rfl
      case hqr96 => exact fun _ _ _ h => h
      case hyr96 => exact Or.inl ⟨by kernel_rfl, fun w hSw => by go_simp⟩
      try simp only [Act.put, List.setIfInBounds_toArray, List.set_cons_zero, List.set_cons_succ]
      refine wpAnyG_take (i := 7) (oi := ?oir97) (v := .agg #[.int .i64 sk, .int .i64 sx, .int .i64 sy]) ?hir97 (by kernel_rfl) (by kernel_rfl) (by kernel_rfl) (by kernel_rfl) ?hqr97 ?hyr97 hHeld ?hrr97
      case hir97 =>
        simp only [List.getElem?_toArray, List.getElem?_cons_succ, List.getElem?_cons_zero]
        rfl
      case hqr97 => exact fun _ _ _ h => h
      case hyr97 => exact Or.inl ⟨by kernel_rfl, fun w hSw => by obtain ⟨s1, s2, s3, s4, s5, s6, s7⟩ := hSw; go_simp⟩
      try simp only [Act.put, List.setIfInBounds_toArray, List.set_cons_zero, List.set_cons_succ]
      refine wpAnyG_ready (rs := [8]) (by kernel_rfl) (by simp) ?_
      refine (AllReadyG.cons (o := ?oor98) ?hor98 (fun K hK => ?hkr98) AllReadyG.nil)
      case hor98 =>
        simp only [List.getElem?_toArray, List.getElem?_cons_succ, List.getElem?_cons_zero]
        rfl
      case hkr98 =>
        go_simp
        try go_wp2_with fail
        refine hK.out _ _ (Or.inr ⟨e1, e2, e3, e4, e5, eP, eG⟩) (fun hHeld => ?_)
        replace hHeld := hHeld.resolve_left (by decide)
        clear hK K
        try simp only [Act.put, List.setIfInBounds_toArray, List.set_cons_zero, List.set_cons_succ]
        refine wpAnyG_ready (rs := [9]) (by kernel_rfl) (by simp) ?_
        refine (AllReadyG.cons (o := ?oor99) ?hor99 (fun K hK => ?hkr99) AllReadyG.nil)
        case hor99 =>
          simp only [List.getElem?_toArray, List.getElem?_cons_succ, List.getElem?_cons_zero]
          rfl
        case hkr99 =>
          go_simp
          try go_wp2_with fail
          refine hK.out _ _ (Or.inl rfl) (fun _ => ?_)
          clear hK K
          try simp only [Act.put, List.setIfInBounds_toArray, List.set_cons_zero, List.set_cons_succ]
          refine wpAnyG_done (by kernel_rfl) ?_ _
          have HF := (HD2.out.upd (by rw [HN.out]; exact hi) HUI.out hbase hgb HG3.out (by rw [show (edSet p j ⟨sk, sx, sy⟩).length = m from HEL.out]; exact HO3.out)).drew
          have HFO : Hid _ := HF
          clear HF a0 a1 a2 f0 f1 f2
          generalize (((W2.setCell ⟨g, j * 3, none⟩ (.int .i64 sk)).setCell ⟨g, j * 3 + 1, none⟩ (.int .i64 sx)).setCell ⟨g, j * 3 + 2, none⟩ (.int .i64 sy)).drew = W3 at *
          go_wp2
          go_ret
          refine ⟨rfl, us, ?_, ?_, HFO.out.below⟩
          · have hb := HFO.out.box
            rw [List.length_set, HN.out] at hb
            exact hb
          · have hb := HFO.out.own
            rw [List.length_set, HN.out] at hb
            exact hb

end Go.Proofs.YtldagpfeaabcdaaGreatDoor
