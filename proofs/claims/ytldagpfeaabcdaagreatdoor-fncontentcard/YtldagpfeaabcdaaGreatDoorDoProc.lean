/-
  spec.l13Do: a procedure more; where there is no such place.
-/
import Derived.Test.YtldagpfeaabcdaaGreatDoorDo13N
import Derived.BigRegion
namespace Go.Proofs.YtldagpfeaabcdaaGreatDoor
open Go.RowKit
set_option linter.unusedVariables false
set_option linter.unusedSimpArgs false
set_option maxHeartbeats 8000000
set_option maxRecDepth 20000

theorem l13DoProc (ps : List (List Stm)) (pr a sk sx sy : Int) (P base G cap : Nat) (us : List Value) (w : World) (hl : ps.length ≤ 100) (hbP : base ≤ P) (hbase : base ≤ w.heap.size)
    (hP : w.heap[P]? = some (.cells #[.slice (some ⟨G, 0, none⟩) ps.length cap] 26 (0, 0))) (hO : Own13 w base (.slice (some ⟨G, 0, none⟩) ps.length cap) us ps) :
    Calls Tryz.prog 50 #[.pointer (some ⟨P, 0, none⟩), .agg #[.int .i64 4, .int .i64 pr, .int .i64 a, .int .i64 sk, .int .i64 sx, .int .i64 sy]] w fun r w' => r = .returned (.bool (decide (pr = 0) && decide (a = 0) && zeroS ⟨sk, sx, sy⟩)) ∧ ∃ u vs, w'.heap[P]? = some (.cells #[u] 26 (0, 0)) ∧ Own13 w' base u vs (ps ++ [[⟨9, 0, 0⟩]]) ∧ Below base w w' := by
  obtain ⟨j0, hj0, hy0, hy1, hy2⟩ := info_parts infoProc
  have hbA : Below w.heap.size w (w.alloc (.cells #[.int .i64 4, .int .i64 pr, .int .i64 a, .int .i64 sk, .int .i64 sx, .int .i64 sy] 54)) := by go_grown
  have hPl : P < w.heap.size := (Array.getElem?_eq_some_iff.1 hP).1
  have D0 : Do13 w base P G cap 4 pr a sk sx sy us ps (w.alloc (.cells #[.int .i64 4, .int .i64 pr, .int .i64 a, .int .i64 sk, .int .i64 sx, .int .i64 sy] 54)) := ⟨heap_alloc_new w _, (hbA.block P hPl).trans hP, hO.kept hbA, hbA.mono hbase, by simp⟩
  obtain ⟨W0, hW0⟩ : ∃ W0, w.alloc (.cells #[.int .i64 4, .int .i64 pr, .int .i64 a, .int .i64 sk, .int .i64 sx, .int .i64 sy] 54) = W0 := ⟨_, rfl⟩
  rw [hW0] at D0
  obtain ⟨e0, e1, e2⟩ := edit_cells0 D0.edit
  obtain ⟨e3, e4, e5⟩ := edit_cells D0.edit
  obtain ⟨eP, fP⟩ := one_cell D0.box
  obtain ⟨W2, hW2⟩ : ∃ W2, (W0.alloc (.cells #[.int .i64 9, .int .i64 0, .int .i64 0] 52)).alloc (.cells #[.slice (some ⟨W0.heap.size, 0, none⟩) 1 1] 63) = W2 := ⟨_, rfl⟩
  have b2 : Below W0.heap.size W0 W2 := by rw [← hW2]; go_grown
  have z2 : W2.heap.size = W0.heap.size + 2 := by rw [← hW2]; simp
  have L1 : W2.heap[W0.heap.size]? = some (.cells #[.int .i64 9, .int .i64 0, .int .i64 0] 52 (0, 0)) := by rw [← hW2, old_block (by simp)]; exact heap_alloc_new W0 _
  have L2 : W2.heap[W0.heap.size + 1]? = some (.cells #[.slice (some ⟨W0.heap.size, 0, none⟩) 1 1] 63 (0, 0)) := by
    rw [← hW2]
    have := heap_alloc_new (W0.alloc (.cells #[.int .i64 9, .int .i64 0, .int .i64 0] 52)) (.cells #[.slice (some ⟨W0.heap.size, 0, none⟩) 1 1] 63)
    simpa using this
  have hbs : base ≤ W0.heap.size := Nat.le_trans hbase (Nat.le_of_lt D0.size)
  have D2 := D0.kept b2 hbase
  have hrow2 := D2.own.row
  have hnew : W2.ownsRow base 52 3 (.slice (some ⟨W0.heap.size, 0, none⟩) 1 1) ([⟨9, 0, 0⟩] : List Stm).length (cells3 [⟨9, 0, 0⟩]) := ⟨rfl, .inr ⟨W0.heap.size, 1, _, rfl, hbs, L1, Nat.le_refl _, by unfold maxLen; omega, rfl, rfl⟩⟩
  have hcs : ∀ (j : Nat) (u : Value), [Value.slice (some ⟨W0.heap.size, 0, none⟩) 1 1][j]? = some u → W2.cell? ((⟨W0.heap.size + 1, 0, none⟩ : Addr).add j) = some u := fun j u hj => by
    rw [Addr.add_lit, Nat.zero_add, cell_of_row W2 _ j _ _ (0, 0) L2, ← hj]
    simp
  have HD2 : Hid (Do13 w base P G cap 4 pr a sk sx sy us ps W2) := D2
  have HNEW : Hid _ := hnew
  have hz2l : base ≤ W2.heap.size := by omega
  have HFR : Hid (∀ y ∈ us, ∀ k, y.ownBlock = some k → (Value.slice (some ⟨W0.heap.size, 0, none⟩) 1 1).ownBlock ≠ some k) := fun y hy k hk e => by
    have h1 := D0.own.lts y hy k hk
    have h2 : W0.heap.size = k := Option.some.inj e
    omega
  have hGb : base ≤ G := (hO.row.lt G rfl).1
  have HGP : Hid (P ≠ G) := fun e => row_ne13 D0.own.row D0.box (by decide) (by rw [e]; rfl)
  have HGE : Hid (w.heap.size ≠ G) := fun e => row_ne13 D0.own.row D0.edit (by decide) (by rw [e]; rfl)
  have HEP : Hid (w.heap.size ≠ P) := by show _ ≠ _; omega
  clear D0 D2 hnew hO hP hbA L1 L2 b2 z2
  go_enter Tryz.func50, Tryz.ntmps50
  go_wp2_with (first
    | (at_builtin; refine wpList_append_own _ rfl (.tmp 16) (.tmp 20) 24 rfl base 63 j0 (.agg #[.slice none 0 0]) 1 24 Tryz.underlying24 hj0 hy0 hy1 hy2 rfl (by decide) _ ps.length us rfl hrow2 ⟨W0.heap.size + 1, 0, none⟩ 1 1 [.slice (some ⟨W0.heap.size, 0, none⟩) 1 1] rfl rfl hcs (by simp [Value.oneCell']) (by unfold maxLen; omega) (by omega) hz2l ?_; intro v3 w3 own3 grow3 _; refine stop13 ?_)
    | go_in)
  unfold Stop13
  have HO5 : Hid (Own13 w3 base v3 (us ++ [.slice (some ⟨W0.heap.size, 0, none⟩) 1 1]) (ps ++ [[⟨9, 0, 0⟩]])) := Own13.app HD2.out.own HNEW.out HFR.out grow3 own3
  have HB5 : Hid (Below base w w3) := HD2.out.below.grown grow3 hz2l (fun q hq => by have : G = q := Option.some.inj hq; omega)
  rcases own3.2 with ⟨_, hn0⟩ | ⟨q, c3, cur, rfl, _⟩
  · omega
  have HE3 := (grow3.block _ HD2.out.size (fun e => HGE.out (Option.some.inj e))).trans HD2.out.edit
  have HP3 := (grow3.block P (Array.getElem?_eq_some_iff.1 HD2.out.box).1 (fun e => HGP.out (Option.some.inj e))).trans HD2.out.box
  have HE4 := (Below.heap_setCell w3 ⟨P, 0, none⟩ (.slice (some ⟨q, 0, none⟩) (ps.length + 1) c3) w.heap.size (by show w.heap.size ≠ P; exact HEP.out)).trans HE3
  have HP4 : Hid _ := one_set HP3 (.slice (some ⟨q, 0, none⟩) (ps.length + 1) c3)
  obtain ⟨p0, p1⟩ := one_cell HP3
  clear e0 e1 e2 e3 e4 e5 eP fP
  obtain ⟨e0, e1, e2⟩ := edit_cells0 HE4
  obtain ⟨e3, e4, e5⟩ := edit_cells HE4
  have HO6 : Hid (Own13 (w3.setCell ⟨P, 0, none⟩ (.slice (some ⟨q, 0, none⟩) (ps.length + 1) c3)) base (.slice (some ⟨q, 0, none⟩) (ps.length + 1) c3) (us ++ [.slice (some ⟨W0.heap.size, 0, none⟩) 1 1]) (ps ++ [[⟨9, 0, 0⟩]])) := HO5.out.grown (grown_setRow13 _ _ _ _) (fun k hk => by (obtain rfl := Option.some.inj hk; exact .inr ⟨_, _, _, HP3, by decide, by decide⟩))
  have HB6 : Hid (Below base w (w3.setCell ⟨P, 0, none⟩ (.slice (some ⟨q, 0, none⟩) (ps.length + 1) c3))) := HB5.out.setCell hbP _
  clear own3 grow3 hcs HE3 HE4 HP3
  go_wp2
  all_goals
    go_ret
    exact ⟨by simp [zeroS, *], _, _, HP4.out, HO6.out, HB6.out⟩

theorem l13DoNo1 (ps : List (List Stm)) (k pr a sk sx sy : Int) (n P base G cap : Nat) (us : List Value) (w : World) (hn : ps.length = n) (hl : n ≤ 100) (hp100 : ∀ p ∈ ps, p.length ≤ 100) (h4 : k ≠ 4) (hno : wiB pr ps.length = false) (hbP : base ≤ P) (hbase : base ≤ w.heap.size)
    (hP : w.heap[P]? = some (.cells #[.slice (some ⟨G, 0, none⟩) n cap] 26 (0, 0))) (hO : Own13 w base (.slice (some ⟨G, 0, none⟩) n cap) us ps) :
    Calls Tryz.prog 50 #[.pointer (some ⟨P, 0, none⟩), .agg #[.int .i64 k, .int .i64 pr, .int .i64 a, .int .i64 sk, .int .i64 sx, .int .i64 sy]] w fun r w' => r = .returned (.bool false) ∧ Below base w w' := by
  have hbA : Below w.heap.size w (w.alloc (.cells #[.int .i64 k, .int .i64 pr, .int .i64 a, .int .i64 sk, .int .i64 sx, .int .i64 sy] 54)) := by go_grown
  have hPl : P < w.heap.size := (Array.getElem?_eq_some_iff.1 hP).1
  subst hn
  have D0 : Do13 w base P G cap k pr a sk sx sy us ps (w.alloc (.cells #[.int .i64 k, .int .i64 pr, .int .i64 a, .int .i64 sk, .int .i64 sx, .int .i64 sy] 54)) := ⟨heap_alloc_new w _, (hbA.block P hPl).trans hP, hO.kept hbA, hbA.mono hbase, by simp⟩
  obtain ⟨W0, hW0⟩ : ∃ W0, w.alloc (.cells #[.int .i64 k, .int .i64 pr, .int .i64 a, .int .i64 sk, .int .i64 sx, .int .i64 sy] 54) = W0 := ⟨_, rfl⟩
  rw [hW0] at D0
  obtain ⟨e0, e1, e2⟩ := edit_cells0 D0.edit
  obtain ⟨e3, e4, e5⟩ := edit_cells D0.edit
  obtain ⟨eP, fP⟩ := one_cell D0.box
  have h4' : (k == 4) = false := by simpa using h4
  have hin1 := l1In pr 0 ((ps.length : Int) - 1)
  rw [show inB pr 0 ((ps.length : Int) - 1) = wiB pr ps.length by rw [inB_wi]; congr 1; omega] at hin1
  have hwn : IntKind.i64.wrap ((ps.length : Int) - 1) = (ps.length : Int) - 1 := IntWalk.i64_in _ (by omega)
  have HD0 : Hid (Do13 w base P G cap k pr a sk sx sy us ps W0) := D0
  have HB0 : Hid (Below base w W0.drew) := D0.below.drew
  rw [hno] at hin1
  clear D0 hO hP hbA
  go_enter Tryz.func50, Tryz.ntmps50
  go_wp2_with fail
  refine wp_region_held_drew (S := fun w' => w'.cell? ⟨w.heap.size, 1, none⟩ = some (.int .i64 pr) ∧ w'.cell? ⟨P, 0, none⟩ = some (.slice (some ⟨G, 0, none⟩) ps.length cap)) (by kernel_rfl) ⟨e1, eP⟩ (fun hHeld => ?_)
  refine wpAnyH_take (i := 0) (oi := ?oin10) (v := .pointer (some ⟨w.heap.size, 1, none⟩)) ?hin10 (by kernel_rfl) (by kernel_rfl) (by kernel_rfl) ?hqn10 ?hyn10 hHeld ?hrn10
  case hin10 =>
    simp only [List.getElem?_toArray, List.getElem?_cons_succ, List.getElem?_cons_zero]
    rfl
  case hqn10 => exact fun _ _ _ h => h
  case hyn10 => exact Or.inl ⟨by kernel_rfl, fun w hSw => by go_simp⟩
  try simp only [Act.put, List.setIfInBounds_toArray, List.set_cons_zero, List.set_cons_succ]
  refine wpAnyH_take (i := 1) (oi := ?oin11) (v := .int .i64 pr) ?hin11 (by kernel_rfl) (by kernel_rfl) (by kernel_rfl) ?hqn11 ?hyn11 hHeld ?hrn11
  case hin11 =>
    simp only [List.getElem?_toArray, List.getElem?_cons_succ, List.getElem?_cons_zero]
    rfl
  case hqn11 => exact fun _ _ _ h => h
  case hyn11 => exact Or.inl ⟨by kernel_rfl, fun w hSw => by obtain ⟨s1, s6⟩ := hSw; go_simp⟩
  try simp only [Act.put, List.setIfInBounds_toArray, List.set_cons_zero, List.set_cons_succ]
  refine wpAnyH_take (i := 2) (oi := ?oin12) (v := .pointer (some ⟨P, 0, none⟩)) ?hin12 (by kernel_rfl) (by kernel_rfl) (by kernel_rfl) ?hqn12 ?hyn12 hHeld ?hrn12
  case hin12 =>
    simp only [List.getElem?_toArray, List.getElem?_cons_succ, List.getElem?_cons_zero]
    rfl
  case hqn12 => exact fun _ _ _ h => h
  case hyn12 => exact Or.inl ⟨by kernel_rfl, fun w hSw => by go_simp⟩
  try simp only [Act.put, List.setIfInBounds_toArray, List.set_cons_zero, List.set_cons_succ]
  refine wpAnyH_take (i := 3) (oi := ?oin13) (v := .pointer (some ⟨P, 0, none⟩)) ?hin13 (by kernel_rfl) (by kernel_rfl) (by kernel_rfl) ?hqn13 ?hyn13 hHeld ?hrn13
  case hin13 =>
    simp only [List.getElem?_toArray, List.getElem?_cons_succ, List.getElem?_cons_zero]
    rfl
  case hqn13 => exact fun _ _ _ h => h
  case hyn13 => exact Or.inl ⟨by kernel_rfl, fun w hSw => by go_simp⟩
  try simp only [Act.put, List.setIfInBounds_toArray, List.set_cons_zero, List.set_cons_succ]
  refine wpAnyH_take (i := 4) (oi := ?oin14) (v := .pointer (some ⟨P, 0, none⟩)) ?hin14 (by kernel_rfl) (by kernel_rfl) (by kernel_rfl) ?hqn14 ?hyn14 hHeld ?hrn14
  case hin14 =>
    simp only [List.getElem?_toArray, List.getElem?_cons_succ, List.getElem?_cons_zero]
    rfl
  case hqn14 => exact fun _ _ _ h => h
  case hyn14 => exact Or.inl ⟨by kernel_rfl, fun w hSw => by go_simp⟩
  try simp only [Act.put, List.setIfInBounds_toArray, List.set_cons_zero, List.set_cons_succ]
  refine wpAnyH_take (i := 5) (oi := ?oin15) (v := .slice (some ⟨G, 0, none⟩) ps.length cap) ?hin15 (by kernel_rfl) (by kernel_rfl) (by kernel_rfl) ?hqn15 ?hyn15 hHeld ?hrn15
  case hin15 =>
    simp only [List.getElem?_toArray, List.getElem?_cons_succ, List.getElem?_cons_zero]
    rfl
  case hqn15 => exact fun _ _ _ h => h
  case hyn15 => exact Or.inl ⟨by kernel_rfl, fun w hSw => by obtain ⟨s1, s6⟩ := hSw; go_simp⟩
  try simp only [Act.put, List.setIfInBounds_toArray, List.set_cons_zero, List.set_cons_succ]
  refine wpAnyH_take (i := 6) (oi := ?oin16) (v := .int .i64 (ps.length : Int)) ?hin16 (by kernel_rfl) (by kernel_rfl) (by kernel_rfl) ?hqn16 ?hyn16 hHeld ?hrn16
  case hin16 =>
    simp only [List.getElem?_toArray, List.getElem?_cons_succ, List.getElem?_cons_zero]
    rfl
  case hqn16 => exact fun _ _ _ h => h
  case hyn16 => exact Or.inl ⟨by kernel_rfl, fun w hSw => by go_simp⟩
  try simp only [Act.put, List.setIfInBounds_toArray, List.set_cons_zero, List.set_cons_succ]
  refine wpAnyH_take (i := 7) (oi := ?oin17) (v := .int .i64 ((ps.length : Int) - 1)) ?hin17 (by kernel_rfl) (by kernel_rfl) (by kernel_rfl) ?hqn17 ?hyn17 hHeld ?hrn17
  case hin17 =>
    simp only [List.getElem?_toArray, List.getElem?_cons_succ, List.getElem?_cons_zero]
    rfl
  case hqn17 => exact fun _ _ _ h => h
  case hyn17 => exact Or.inl ⟨by kernel_rfl, fun w hSw => by go_simp⟩
  try simp only [Act.put, List.setIfInBounds_toArray, List.set_cons_zero, List.set_cons_succ]
  refine wpAnyH_ready (rs := [8]) (by kernel_rfl) (by simp) ?_
  refine (AllReadyH.cons (o := ?oon18) ?hon18 (fun K hK => ?hkn18) AllReadyH.nil)
  case hon18 =>
    simp only [List.getElem?_toArray, List.getElem?_cons_succ, List.getElem?_cons_zero]
    rfl
  case hkn18 =>
    go_simp
    go_at_call 59
    refine (hin1 _).mono ?_
    rintro r wz ⟨rfl, rfl⟩
    try go_wp2_with fail
    refine hK.out _ _ ⟨e1, eP⟩ (fun hHeld => ?_)
    clear hK K
    try simp only [Act.put, List.setIfInBounds_toArray, List.set_cons_zero, List.set_cons_succ]
    refine wpAnyH_take (i := 9) (oi := ?oin19) (v := .bool true) ?hin19 (by kernel_rfl) (by kernel_rfl) (by kernel_rfl) ?hqn19 ?hyn19 hHeld ?hrn19
    case hin19 =>
      simp only [List.getElem?_toArray, List.getElem?_cons_succ, List.getElem?_cons_zero]
      rfl
    case hqn19 => exact fun _ _ _ h => h
    case hyn19 => exact Or.inl ⟨by kernel_rfl, fun w hSw => by go_simp⟩
    try simp only [Act.put, List.setIfInBounds_toArray, List.set_cons_zero, List.set_cons_succ]
    refine wpAnyH_take (i := 10) (oi := ?oin110) (v := .bool true) ?hin110 (by kernel_rfl) (by kernel_rfl) (by kernel_rfl) ?hqn110 ?hyn110 hHeld ?hrn110
    case hin110 =>
      simp only [List.getElem?_toArray, List.getElem?_cons_succ, List.getElem?_cons_zero]
      rfl
    case hqn110 => exact fun _ _ _ h => h
    case hyn110 => exact Or.inl ⟨by kernel_rfl, fun w hSw => by go_simp⟩
    try simp only [Act.put, List.setIfInBounds_toArray, List.set_cons_zero, List.set_cons_succ]
    refine wpAnyH_take (i := 11) (oi := ?oin111) (v := undef) ?hin111 (by kernel_rfl) (by kernel_rfl) (by kernel_rfl) ?hqn111 ?hyn111 hHeld ?hrn111
    case hin111 =>
      simp only [List.getElem?_toArray, List.getElem?_cons_succ, List.getElem?_cons_zero]
      rfl
    case hqn111 => exact fun _ _ _ h => h
    case hyn111 => exact Or.inr ⟨by kernel_rfl, rfl⟩
    try simp only [Act.put, List.setIfInBounds_toArray, List.set_cons_zero, List.set_cons_succ]
    refine wpAnyH_take (i := 12) (oi := ?oin112) (v := undef) ?hin112 (by kernel_rfl) (by kernel_rfl) (by kernel_rfl) ?hqn112 ?hyn112 hHeld ?hrn112
    case hin112 =>
      simp only [List.getElem?_toArray, List.getElem?_cons_succ, List.getElem?_cons_zero]
      rfl
    case hqn112 => exact fun _ _ _ h => h
    case hyn112 => exact Or.inr ⟨by kernel_rfl, rfl⟩
    try simp only [Act.put, List.setIfInBounds_toArray, List.set_cons_zero, List.set_cons_succ]
    refine wpAnyH_take (i := 13) (oi := ?oin113) (v := undef) ?hin113 (by kernel_rfl) (by kernel_rfl) (by kernel_rfl) ?hqn113 ?hyn113 hHeld ?hrn113
    case hin113 =>
      simp only [List.getElem?_toArray, List.getElem?_cons_succ, List.getElem?_cons_zero]
      rfl
    case hqn113 => exact fun _ _ _ h => h
    case hyn113 => exact Or.inr ⟨by kernel_rfl, rfl⟩
    try simp only [Act.put, List.setIfInBounds_toArray, List.set_cons_zero, List.set_cons_succ]
    refine wpAnyH_take (i := 14) (oi := ?oin114) (v := undef) ?hin114 (by kernel_rfl) (by kernel_rfl) (by kernel_rfl) ?hqn114 ?hyn114 hHeld ?hrn114
    case hin114 =>
      simp only [List.getElem?_toArray, List.getElem?_cons_succ, List.getElem?_cons_zero]
      rfl
    case hqn114 => exact fun _ _ _ h => h
    case hyn114 => exact Or.inr ⟨by kernel_rfl, rfl⟩
    try simp only [Act.put, List.setIfInBounds_toArray, List.set_cons_zero, List.set_cons_succ]
    refine wpAnyH_take (i := 15) (oi := ?oin115) (v := undef) ?hin115 (by kernel_rfl) (by kernel_rfl) (by kernel_rfl) ?hqn115 ?hyn115 hHeld ?hrn115
    case hin115 =>
      simp only [List.getElem?_toArray, List.getElem?_cons_succ, List.getElem?_cons_zero]
      rfl
    case hqn115 => exact fun _ _ _ h => h
    case hyn115 => exact Or.inr ⟨by kernel_rfl, rfl⟩
    try simp only [Act.put, List.setIfInBounds_toArray, List.set_cons_zero, List.set_cons_succ]
    refine wpAnyH_take (i := 16) (oi := ?oin116) (v := undef) ?hin116 (by kernel_rfl) (by kernel_rfl) (by kernel_rfl) ?hqn116 ?hyn116 hHeld ?hrn116
    case hin116 =>
      simp only [List.getElem?_toArray, List.getElem?_cons_succ, List.getElem?_cons_zero]
      rfl
    case hqn116 => exact fun _ _ _ h => h
    case hyn116 => exact Or.inr ⟨by kernel_rfl, rfl⟩
    try simp only [Act.put, List.setIfInBounds_toArray, List.set_cons_zero, List.set_cons_succ]
    refine wpAnyH_take (i := 17) (oi := ?oin117) (v := undef) ?hin117 (by kernel_rfl) (by kernel_rfl) (by kernel_rfl) ?hqn117 ?hyn117 hHeld ?hrn117
    case hin117 =>
      simp only [List.getElem?_toArray, List.getElem?_cons_succ, List.getElem?_cons_zero]
      rfl
    case hqn117 => exact fun _ _ _ h => h
    case hyn117 => exact Or.inr ⟨by kernel_rfl, rfl⟩
    try simp only [Act.put, List.setIfInBounds_toArray, List.set_cons_zero, List.set_cons_succ]
    refine wpAnyH_take (i := 18) (oi := ?oin118) (v := undef) ?hin118 (by kernel_rfl) (by kernel_rfl) (by kernel_rfl) ?hqn118 ?hyn118 hHeld ?hrn118
    case hin118 =>
      simp only [List.getElem?_toArray, List.getElem?_cons_succ, List.getElem?_cons_zero]
      rfl
    case hqn118 => exact fun _ _ _ h => h
    case hyn118 => exact Or.inr ⟨by kernel_rfl, rfl⟩
    try simp only [Act.put, List.setIfInBounds_toArray, List.set_cons_zero, List.set_cons_succ]
    refine wpAnyH_take (i := 19) (oi := ?oin119) (v := undef) ?hin119 (by kernel_rfl) (by kernel_rfl) (by kernel_rfl) ?hqn119 ?hyn119 hHeld ?hrn119
    case hin119 =>
      simp only [List.getElem?_toArray, List.getElem?_cons_succ, List.getElem?_cons_zero]
      rfl
    case hqn119 => exact fun _ _ _ h => h
    case hyn119 => exact Or.inr ⟨by kernel_rfl, rfl⟩
    try simp only [Act.put, List.setIfInBounds_toArray, List.set_cons_zero, List.set_cons_succ]
    refine wpAnyH_take (i := 20) (oi := ?oin120) (v := undef) ?hin120 (by kernel_rfl) (by kernel_rfl) (by kernel_rfl) ?hqn120 ?hyn120 hHeld ?hrn120
    case hin120 =>
      simp only [List.getElem?_toArray, List.getElem?_cons_succ, List.getElem?_cons_zero]
      rfl
    case hqn120 => exact fun _ _ _ h => h
    case hyn120 => exact Or.inr ⟨by kernel_rfl, rfl⟩
    try simp only [Act.put, List.setIfInBounds_toArray, List.set_cons_zero, List.set_cons_succ]
    refine wpAnyH_take (i := 21) (oi := ?oin121) (v := undef) ?hin121 (by kernel_rfl) (by kernel_rfl) (by kernel_rfl) ?hqn121 ?hyn121 hHeld ?hrn121
    case hin121 =>
      simp only [List.getElem?_toArray, List.getElem?_cons_succ, List.getElem?_cons_zero]
      rfl
    case hqn121 => exact fun _ _ _ h => h
    case hyn121 => exact Or.inr ⟨by kernel_rfl, rfl⟩
    try simp only [Act.put, List.setIfInBounds_toArray, List.set_cons_zero, List.set_cons_succ]
    refine wpAnyH_take (i := 22) (oi := ?oin122) (v := undef) ?hin122 (by kernel_rfl) (by kernel_rfl) (by kernel_rfl) ?hqn122 ?hyn122 hHeld ?hrn122
    case hin122 =>
      simp only [List.getElem?_toArray, List.getElem?_cons_succ, List.getElem?_cons_zero]
      rfl
    case hqn122 => exact fun _ _ _ h => h
    case hyn122 => exact Or.inr ⟨by kernel_rfl, rfl⟩
    try simp only [Act.put, List.setIfInBounds_toArray, List.set_cons_zero, List.set_cons_succ]
    refine wpAnyH_take (i := 23) (oi := ?oin123) (v := undef) ?hin123 (by kernel_rfl) (by kernel_rfl) (by kernel_rfl) ?hqn123 ?hyn123 hHeld ?hrn123
    case hin123 =>
      simp only [List.getElem?_toArray, List.getElem?_cons_succ, List.getElem?_cons_zero]
      rfl
    case hqn123 => exact fun _ _ _ h => h
    case hyn123 => exact Or.inr ⟨by kernel_rfl, rfl⟩
    try simp only [Act.put, List.setIfInBounds_toArray, List.set_cons_zero, List.set_cons_succ]
    refine wpAnyH_take (i := 24) (oi := ?oin124) (v := undef) ?hin124 (by kernel_rfl) (by kernel_rfl) (by kernel_rfl) ?hqn124 ?hyn124 hHeld ?hrn124
    case hin124 =>
      simp only [List.getElem?_toArray, List.getElem?_cons_succ, List.getElem?_cons_zero]
      rfl
    case hqn124 => exact fun _ _ _ h => h
    case hyn124 => exact Or.inr ⟨by kernel_rfl, rfl⟩
    try simp only [Act.put, List.setIfInBounds_toArray, List.set_cons_zero, List.set_cons_succ]
    refine wpAnyH_take (i := 25) (oi := ?oin125) (v := undef) ?hin125 (by kernel_rfl) (by kernel_rfl) (by kernel_rfl) ?hqn125 ?hyn125 hHeld ?hrn125
    case hin125 =>
      simp only [List.getElem?_toArray, List.getElem?_cons_succ, List.getElem?_cons_zero]
      rfl
    case hqn125 => exact fun _ _ _ h => h
    case hyn125 => exact Or.inr ⟨by kernel_rfl, rfl⟩
    try simp only [Act.put, List.setIfInBounds_toArray, List.set_cons_zero, List.set_cons_succ]
    refine wpAnyH_take (i := 26) (oi := ?oin126) (v := .bool true) ?hin126 (by kernel_rfl) (by kernel_rfl) (by kernel_rfl) ?hqn126 ?hyn126 hHeld ?hrn126
    case hin126 =>
      simp only [List.getElem?_toArray, List.getElem?_cons_succ, List.getElem?_cons_zero]
      rfl
    case hqn126 => exact fun _ _ _ h => h
    case hyn126 => exact Or.inl ⟨by kernel_rfl, fun w hSw => by go_simp⟩
    try simp only [Act.put, List.setIfInBounds_toArray, List.set_cons_zero, List.set_cons_succ]
    refine wpAnyH_done (by kernel_rfl) ?_ _
    generalize W0.drew = W1 at *
    go_wp2
    go_ret
    exact ⟨rfl, HB0.out⟩

theorem l13DoNo2 (ps : List (List Stm)) (k pr a sk sx sy : Int) (n P base G cap : Nat) (us : List Value) (w : World) (hn : ps.length = n) (hl : n ≤ 100) (hp100 : ∀ p ∈ ps, p.length ≤ 100) (h4 : k ≠ 4) (hyes : wiB pr ps.length = true) (hno : wiB a (ps.getD pr.toNat []).length = false) (hbP : base ≤ P) (hbase : base ≤ w.heap.size)
    (hP : w.heap[P]? = some (.cells #[.slice (some ⟨G, 0, none⟩) n cap] 26 (0, 0))) (hO : Own13 w base (.slice (some ⟨G, 0, none⟩) n cap) us ps) :
    Calls Tryz.prog 50 #[.pointer (some ⟨P, 0, none⟩), .agg #[.int .i64 k, .int .i64 pr, .int .i64 a, .int .i64 sk, .int .i64 sx, .int .i64 sy]] w fun r w' => r = .returned (.bool false) ∧ Below base w w' := by
  have hbA : Below w.heap.size w (w.alloc (.cells #[.int .i64 k, .int .i64 pr, .int .i64 a, .int .i64 sk, .int .i64 sx, .int .i64 sy] 54)) := by go_grown
  have hPl : P < w.heap.size := (Array.getElem?_eq_some_iff.1 hP).1
  subst hn
  have D0 : Do13 w base P G cap k pr a sk sx sy us ps (w.alloc (.cells #[.int .i64 k, .int .i64 pr, .int .i64 a, .int .i64 sk, .int .i64 sx, .int .i64 sy] 54)) := ⟨heap_alloc_new w _, (hbA.block P hPl).trans hP, hO.kept hbA, hbA.mono hbase, by simp⟩
  obtain ⟨W0, hW0⟩ : ∃ W0, w.alloc (.cells #[.int .i64 k, .int .i64 pr, .int .i64 a, .int .i64 sk, .int .i64 sx, .int .i64 sy] 54) = W0 := ⟨_, rfl⟩
  rw [hW0] at D0
  obtain ⟨e0, e1, e2⟩ := edit_cells0 D0.edit
  obtain ⟨e3, e4, e5⟩ := edit_cells D0.edit
  obtain ⟨eP, fP⟩ := one_cell D0.box
  have h4' : (k == 4) = false := by simpa using h4
  have hin1 := l1In pr 0 ((ps.length : Int) - 1)
  rw [show inB pr 0 ((ps.length : Int) - 1) = wiB pr ps.length by rw [inB_wi]; congr 1; omega] at hin1
  have hwn : IntKind.i64.wrap ((ps.length : Int) - 1) = (ps.length : Int) - 1 := IntWalk.i64_in _ (by omega)
  have HD0 : Hid (Do13 w base P G cap k pr a sk sx sy us ps W0) := D0
  have HB0 : Hid (Below base w W0.drew) := D0.below.drew
  rw [hyes] at hin1
  obtain ⟨y0, y1⟩ := wiB_true hyes
  obtain ⟨i, rfl⟩ : ∃ i : Nat, pr = i := ⟨pr.toNat, by omega⟩
  have hi : i < ps.length := by omega
  have hgd : ps.getD i [] = ps[i] := by simp [List.getD, hi]
  simp only [Int.toNat_natCast, hgd] at hno
  have hpi : ps[i]? = some ps[i] := by simp [hi]
  have hpl := hp100 ps[i] (List.getElem_mem hi)
  obtain ⟨x, hui⟩ : ∃ x, us[i]? = some x := ⟨us[i]'(by rw [hO.len]; exact hi), by simp⟩
  have hox := hO.each i x ps[i] hui hpi
  have hxf : ∃ ao c, x = .slice ao ps[i].length c := by
    rcases hox.2 with ⟨rfl, h0⟩ | ⟨g, cap', cur, rfl, _⟩
    · exact ⟨none, 0, by rw [h0]⟩
    · exact ⟨_, _, rfl⟩
  obtain ⟨ao, c, rfl⟩ := hxf
  have eG : W0.cell? ⟨G, i, none⟩ = some (.slice ao ps[i].length c) := by rw [D0.own.row.cellAt i (by omega)]; exact hui
  have hin2 := l1In a 0 ((ps[i].length : Int) - 1)
  rw [show inB a 0 ((ps[i].length : Int) - 1) = wiB a ps[i].length by rw [inB_wi]; congr 1; omega, hno] at hin2
  have hiI : (i : Int) < (ps.length : Int) := by omega
  clear hox hui hpi hgd hno
  generalize ps[i].length = m at *
  have hwm : IntKind.i64.wrap ((m : Int) - 1) = (m : Int) - 1 := IntWalk.i64_in _ (by omega)
  clear D0 hO hP hbA
  go_enter Tryz.func50, Tryz.ntmps50
  go_wp2_with fail
  refine wp_region_held_drew (S := fun w' => w'.cell? ⟨w.heap.size, 1, none⟩ = some (.int .i64 (i : Int)) ∧ w'.cell? ⟨w.heap.size, 2, none⟩ = some (.int .i64 a) ∧ w'.cell? ⟨P, 0, none⟩ = some (.slice (some ⟨G, 0, none⟩) ps.length cap) ∧ w'.cell? ⟨G, i, none⟩ = some (.slice ao m c)) (by kernel_rfl) ⟨e1, e2, eP, eG⟩ (fun hHeld => ?_)
  refine wpAnyH_take (i := 0) (oi := ?oin20) (v := .pointer (some ⟨w.heap.size, 1, none⟩)) ?hin20 (by kernel_rfl) (by kernel_rfl) (by kernel_rfl) ?hqn20 ?hyn20 hHeld ?hrn20
  case hin20 =>
    simp only [List.getElem?_toArray, List.getElem?_cons_succ, List.getElem?_cons_zero]
    rfl
  case hqn20 => exact fun _ _ _ h => h
  case hyn20 => exact Or.inl ⟨by kernel_rfl, fun w hSw => by go_simp⟩
  try simp only [Act.put, List.setIfInBounds_toArray, List.set_cons_zero, List.set_cons_succ]
  refine wpAnyH_take (i := 1) (oi := ?oin21) (v := .int .i64 (i : Int)) ?hin21 (by kernel_rfl) (by kernel_rfl) (by kernel_rfl) ?hqn21 ?hyn21 hHeld ?hrn21
  case hin21 =>
    simp only [List.getElem?_toArray, List.getElem?_cons_succ, List.getElem?_cons_zero]
    rfl
  case hqn21 => exact fun _ _ _ h => h
  case hyn21 => exact Or.inl ⟨by kernel_rfl, fun w hSw => by obtain ⟨s1, s2, s6, s7⟩ := hSw; go_simp⟩
  try simp only [Act.put, List.setIfInBounds_toArray, List.set_cons_zero, List.set_cons_succ]
  refine wpAnyH_take (i := 2) (oi := ?oin22) (v := .pointer (some ⟨P, 0, none⟩)) ?hin22 (by kernel_rfl) (by kernel_rfl) (by kernel_rfl) ?hqn22 ?hyn22 hHeld ?hrn22
  case hin22 =>
    simp only [List.getElem?_toArray, List.getElem?_cons_succ, List.getElem?_cons_zero]
    rfl
  case hqn22 => exact fun _ _ _ h => h
  case hyn22 => exact Or.inl ⟨by kernel_rfl, fun w hSw => by go_simp⟩
  try simp only [Act.put, List.setIfInBounds_toArray, List.set_cons_zero, List.set_cons_succ]
  refine wpAnyH_take (i := 3) (oi := ?oin23) (v := .pointer (some ⟨P, 0, none⟩)) ?hin23 (by kernel_rfl) (by kernel_rfl) (by kernel_rfl) ?hqn23 ?hyn23 hHeld ?hrn23
  case hin23 =>
    simp only [List.getElem?_toArray, List.getElem?_cons_succ, List.getElem?_cons_zero]
    rfl
  case hqn23 => exact fun _ _ _ h => h
  case hyn23 => exact Or.inl ⟨by kernel_rfl, fun w hSw => by go_simp⟩
  try simp only [Act.put, List.setIfInBounds_toArray, List.set_cons_zero, List.set_cons_succ]
  refine wpAnyH_take (i := 4) (oi := ?oin24) (v := .pointer (some ⟨P, 0, none⟩)) ?hin24 (by kernel_rfl) (by kernel_rfl) (by kernel_rfl) ?hqn24 ?hyn24 hHeld ?hrn24
  case hin24 =>
    simp only [List.getElem?_toArray, List.getElem?_cons_succ, List.getElem?_cons_zero]
    rfl
  case hqn24 => exact fun _ _ _ h => h
  case hyn24 => exact Or.inl ⟨by kernel_rfl, fun w hSw => by go_simp⟩
  try simp only [Act.put, List.setIfInBounds_toArray, List.set_cons_zero, List.set_cons_succ]
  refine wpAnyH_take (i := 5) (oi := ?oin25) (v := .slice (some ⟨G, 0, none⟩) ps.length cap) ?hin25 (by kernel_rfl) (by kernel_rfl) (by kernel_rfl) ?hqn25 ?hyn25 hHeld ?hrn25
  case hin25 =>
    simp only [List.getElem?_toArray, List.getElem?_cons_succ, List.getElem?_cons_zero]
    rfl
  case hqn25 => exact fun _ _ _ h => h
  case hyn25 => exact Or.inl ⟨by kernel_rfl, fun w hSw => by obtain ⟨s1, s2, s6, s7⟩ := hSw; go_simp⟩
  try simp only [Act.put, List.setIfInBounds_toArray, List.set_cons_zero, List.set_cons_succ]
  refine wpAnyH_take (i := 6) (oi := ?oin26) (v := .int .i64 (ps.length : Int)) ?hin26 (by kernel_rfl) (by kernel_rfl) (by kernel_rfl) ?hqn26 ?hyn26 hHeld ?hrn26
  case hin26 =>
    simp only [List.getElem?_toArray, List.getElem?_cons_succ, List.getElem?_cons_zero]
    rfl
  case hqn26 => exact fun _ _ _ h => h
  case hyn26 => exact Or.inl ⟨by kernel_rfl, fun w hSw => by go_simp⟩
  try simp only [Act.put, List.setIfInBounds_toArray, List.set_cons_zero, List.set_cons_succ]
  refine wpAnyH_take (i := 7) (oi := ?oin27) (v := .int .i64 ((ps.length : Int) - 1)) ?hin27 (by kernel_rfl) (by kernel_rfl) (by kernel_rfl) ?hqn27 ?hyn27 hHeld ?hrn27
  case hin27 =>
    simp only [List.getElem?_toArray, List.getElem?_cons_succ, List.getElem?_cons_zero]
    rfl
  case hqn27 => exact fun _ _ _ h => h
  case hyn27 => exact Or.inl ⟨by kernel_rfl, fun w hSw => by go_simp⟩
  try simp only [Act.put, List.setIfInBounds_toArray, List.set_cons_zero, List.set_cons_succ]
  refine wpAnyH_ready (rs := [8]) (by kernel_rfl) (by simp) ?_
  refine (AllReadyH.cons (o := ?oon28) ?hon28 (fun K hK => ?hkn28) AllReadyH.nil)
  case hon28 =>
    simp only [List.getElem?_toArray, List.getElem?_cons_succ, List.getElem?_cons_zero]
    rfl
  case hkn28 =>
    go_simp
    go_at_call 59
    refine (hin1 _).mono ?_
    rintro r wz ⟨rfl, rfl⟩
    try go_wp2_with fail
    refine hK.out _ _ ⟨e1, e2, eP, eG⟩ (fun hHeld => ?_)
    clear hK K
    try simp only [Act.put, List.setIfInBounds_toArray, List.set_cons_zero, List.set_cons_succ]
    refine wpAnyH_take (i := 9) (oi := ?oin29) (v := .bool false) ?hin29 (by kernel_rfl) (by kernel_rfl) (by kernel_rfl) ?hqn29 ?hyn29 hHeld ?hrn29
    case hin29 =>
      simp only [List.getElem?_toArray, List.getElem?_cons_succ, List.getElem?_cons_zero]
      rfl
    case hqn29 => exact fun _ _ _ h => h
    case hyn29 => exact Or.inl ⟨by kernel_rfl, fun w hSw => by go_simp⟩
    try simp only [Act.put, List.setIfInBounds_toArray, List.set_cons_zero, List.set_cons_succ]
    refine wpAnyH_take (i := 10) (oi := ?oin210) (v := .bool false) ?hin210 (by kernel_rfl) (by kernel_rfl) (by kernel_rfl) ?hqn210 ?hyn210 hHeld ?hrn210
    case hin210 =>
      simp only [List.getElem?_toArray, List.getElem?_cons_succ, List.getElem?_cons_zero]
      rfl
    case hqn210 => exact fun _ _ _ h => h
    case hyn210 => exact Or.inl ⟨by kernel_rfl, fun w hSw => by go_simp⟩
    try simp only [Act.put, List.setIfInBounds_toArray, List.set_cons_zero, List.set_cons_succ]
    refine wpAnyH_take (i := 11) (oi := ?oin211) (v := .pointer (some ⟨w.heap.size, 2, none⟩)) ?hin211 (by kernel_rfl) (by kernel_rfl) (by kernel_rfl) ?hqn211 ?hyn211 hHeld ?hrn211
    case hin211 =>
      simp only [List.getElem?_toArray, List.getElem?_cons_succ, List.getElem?_cons_zero]
      rfl
    case hqn211 => exact fun _ _ _ h => h
    case hyn211 => exact Or.inl ⟨by kernel_rfl, fun w hSw => by go_simp⟩
    try simp only [Act.put, List.setIfInBounds_toArray, List.set_cons_zero, List.set_cons_succ]
    refine wpAnyH_take (i := 12) (oi := ?oin212) (v := .int .i64 a) ?hin212 (by kernel_rfl) (by kernel_rfl) (by kernel_rfl) ?hqn212 ?hyn212 hHeld ?hrn212
    case hin212 =>
      simp only [List.getElem?_toArray, List.getElem?_cons_succ, List.getElem?_cons_zero]
      rfl
    case hqn212 => exact fun _ _ _ h => h
    case hyn212 => exact Or.inl ⟨by kernel_rfl, fun w hSw => by obtain ⟨s1, s2, s6, s7⟩ := hSw; go_simp⟩
    try simp only [Act.put, List.setIfInBounds_toArray, List.set_cons_zero, List.set_cons_succ]
    refine wpAnyH_take (i := 13) (oi := ?oin213) (v := .pointer (some ⟨P, 0, none⟩)) ?hin213 (by kernel_rfl) (by kernel_rfl) (by kernel_rfl) ?hqn213 ?hyn213 hHeld ?hrn213
    case hin213 =>
      simp only [List.getElem?_toArray, List.getElem?_cons_succ, List.getElem?_cons_zero]
      rfl
    case hqn213 => exact fun _ _ _ h => h
    case hyn213 => exact Or.inl ⟨by kernel_rfl, fun w hSw => by go_simp⟩
    try simp only [Act.put, List.setIfInBounds_toArray, List.set_cons_zero, List.set_cons_succ]
    refine wpAnyH_take (i := 14) (oi := ?oin214) (v := .pointer (some ⟨P, 0, none⟩)) ?hin214 (by kernel_rfl) (by kernel_rfl) (by kernel_rfl) ?hqn214 ?hyn214 hHeld ?hrn214
    case hin214 =>
      simp only [List.getElem?_toArray, List.getElem?_cons_succ, List.getElem?_cons_zero]
      rfl
    case hqn214 => exact fun _ _ _ h => h
    case hyn214 => exact Or.inl ⟨by kernel_rfl, fun w hSw => by go_simp⟩
    try simp only [Act.put, List.setIfInBounds_toArray, List.set_cons_zero, List.set_cons_succ]
    refine wpAnyH_take (i := 15) (oi := ?oin215) (v := .pointer (some ⟨P, 0, none⟩)) ?hin215 (by kernel_rfl) (by kernel_rfl) (by kernel_rfl) ?hqn215 ?hyn215 hHeld ?hrn215
    case hin215 =>
      simp only [List.getElem?_toArray, List.getElem?_cons_succ, List.getElem?_cons_zero]
      rfl
    case hqn215 => exact fun _ _ _ h => h
    case hyn215 => exact Or.inl ⟨by kernel_rfl, fun w hSw => by go_simp⟩
    try simp only [Act.put, List.setIfInBounds_toArray, List.set_cons_zero, List.set_cons_succ]
    refine wpAnyH_take (i := 16) (oi := ?oin216) (v := .slice (some ⟨G, 0, none⟩) ps.length cap) ?hin216 (by kernel_rfl) (by kernel_rfl) (by kernel_rfl) ?hqn216 ?hyn216 hHeld ?hrn216
    case hin216 =>
      simp only [List.getElem?_toArray, List.getElem?_cons_succ, List.getElem?_cons_zero]
      rfl
    case hqn216 => exact fun _ _ _ h => h
    case hyn216 => exact Or.inl ⟨by kernel_rfl, fun w hSw => by obtain ⟨s1, s2, s6, s7⟩ := hSw; go_simp⟩
    try simp only [Act.put, List.setIfInBounds_toArray, List.set_cons_zero, List.set_cons_succ]
    refine wpAnyH_take (i := 17) (oi := ?oin217) (v := .pointer (some ⟨w.heap.size, 1, none⟩)) ?hin217 (by kernel_rfl) (by kernel_rfl) (by kernel_rfl) ?hqn217 ?hyn217 hHeld ?hrn217
    case hin217 =>
      simp only [List.getElem?_toArray, List.getElem?_cons_succ, List.getElem?_cons_zero]
      rfl
    case hqn217 => exact fun _ _ _ h => h
    case hyn217 => exact Or.inl ⟨by kernel_rfl, fun w hSw => by go_simp⟩
    try simp only [Act.put, List.setIfInBounds_toArray, List.set_cons_zero, List.set_cons_succ]
    refine wpAnyH_take (i := 18) (oi := ?oin218) (v := .int .i64 (i : Int)) ?hin218 (by kernel_rfl) (by kernel_rfl) (by kernel_rfl) ?hqn218 ?hyn218 hHeld ?hrn218
    case hin218 =>
      simp only [List.getElem?_toArray, List.getElem?_cons_succ, List.getElem?_cons_zero]
      rfl
    case hqn218 => exact fun _ _ _ h => h
    case hyn218 => exact Or.inl ⟨by kernel_rfl, fun w hSw => by obtain ⟨s1, s2, s6, s7⟩ := hSw; go_simp⟩
    try simp only [Act.put, List.setIfInBounds_toArray, List.set_cons_zero, List.set_cons_succ]
    refine wpAnyH_take (i := 19) (oi := ?oin219) (v := .pointer (some ⟨G, i, none⟩)) ?hin219 (by kernel_rfl) (by kernel_rfl) (by kernel_rfl) ?hqn219 ?hyn219 hHeld ?hrn219
    case hin219 =>
      simp only [List.getElem?_toArray, List.getElem?_cons_succ, List.getElem?_cons_zero]
      rfl
    case hqn219 => exact fun _ _ _ h => h
    case hyn219 => exact Or.inl ⟨by kernel_rfl, fun w hSw => by go_simp⟩
    try simp only [Act.put, List.setIfInBounds_toArray, List.set_cons_zero, List.set_cons_succ]
    refine wpAnyH_take (i := 20) (oi := ?oin220) (v := .pointer (some ⟨G, i, none⟩)) ?hin220 (by kernel_rfl) (by kernel_rfl) (by kernel_rfl) ?hqn220 ?hyn220 hHeld ?hrn220
    case hin220 =>
      simp only [List.getElem?_toArray, List.getElem?_cons_succ, List.getElem?_cons_zero]
      rfl
    case hqn220 => exact fun _ _ _ h => h
    case hyn220 => exact Or.inl ⟨by kernel_rfl, fun w hSw => by go_simp⟩
    try simp only [Act.put, List.setIfInBounds_toArray, List.set_cons_zero, List.set_cons_succ]
    refine wpAnyH_take (i := 21) (oi := ?oin221) (v := .slice ao m c) ?hin221 (by kernel_rfl) (by kernel_rfl) (by kernel_rfl) ?hqn221 ?hyn221 hHeld ?hrn221
    case hin221 =>
      simp only [List.getElem?_toArray, List.getElem?_cons_succ, List.getElem?_cons_zero]
      rfl
    case hqn221 => exact fun _ _ _ h => h
    case hyn221 => exact Or.inl ⟨by kernel_rfl, fun w hSw => by obtain ⟨s1, s2, s6, s7⟩ := hSw; go_simp⟩
    try simp only [Act.put, List.setIfInBounds_toArray, List.set_cons_zero, List.set_cons_succ]
    refine wpAnyH_take (i := 22) (oi := ?oin222) (v := .int .i64 (m : Int)) ?hin222 (by kernel_rfl) (by kernel_rfl) (by kernel_rfl) ?hqn222 ?hyn222 hHeld ?hrn222
    case hin222 =>
      simp only [List.getElem?_toArray, List.getElem?_cons_succ, List.getElem?_cons_zero]
      rfl
    case hqn222 => exact fun _ _ _ h => h
    case hyn222 => exact Or.inl ⟨by kernel_rfl, fun w hSw => by go_simp⟩
    try simp only [Act.put, List.setIfInBounds_toArray, List.set_cons_zero, List.set_cons_succ]
    refine wpAnyH_take (i := 23) (oi := ?oin223) (v := .int .i64 ((m : Int) - 1)) ?hin223 (by kernel_rfl) (by kernel_rfl) (by kernel_rfl) ?hqn223 ?hyn223 hHeld ?hrn223
    case hin223 =>
      simp only [List.getElem?_toArray, List.getElem?_cons_succ, List.getElem?_cons_zero]
      rfl
    case hqn223 => exact fun _ _ _ h => h
    case hyn223 => exact Or.inl ⟨by kernel_rfl, fun w hSw => by go_simp⟩
    try simp only [Act.put, List.setIfInBounds_toArray, List.set_cons_zero, List.set_cons_succ]
    refine wpAnyH_ready (rs := [24]) (by kernel_rfl) (by simp) ?_
    refine (AllReadyH.cons (o := ?oon224) ?hon224 (fun K hK => ?hkn224) AllReadyH.nil)
    case hon224 =>
      simp only [List.getElem?_toArray, List.getElem?_cons_succ, List.getElem?_cons_zero]
      rfl
    case hkn224 =>
      go_simp
      go_at_call 59
      refine (hin2 _).mono ?_
      rintro r wz ⟨rfl, rfl⟩
      try go_wp2_with fail
      refine hK.out _ _ ⟨e1, e2, eP, eG⟩ (fun hHeld => ?_)
      clear hK K
      try simp only [Act.put, List.setIfInBounds_toArray, List.set_cons_zero, List.set_cons_succ]
      refine wpAnyH_take (i := 25) (oi := ?oin225) (v := .bool true) ?hin225 (by kernel_rfl) (by kernel_rfl) (by kernel_rfl) ?hqn225 ?hyn225 hHeld ?hrn225
      case hin225 =>
        simp only [List.getElem?_toArray, List.getElem?_cons_succ, List.getElem?_cons_zero]
        rfl
      case hqn225 => exact fun _ _ _ h => h
      case hyn225 => exact Or.inl ⟨by kernel_rfl, fun w hSw => by go_simp⟩
      try simp only [Act.put, List.setIfInBounds_toArray, List.set_cons_zero, List.set_cons_succ]
      refine wpAnyH_take (i := 26) (oi := ?oin226) (v := .bool true) ?hin226 (by kernel_rfl) (by kernel_rfl) (by kernel_rfl) ?hqn226 ?hyn226 hHeld ?hrn226
      case hin226 =>
        simp only [List.getElem?_toArray, List.getElem?_cons_succ, List.getElem?_cons_zero]
        rfl
      case hqn226 => exact fun _ _ _ h => h
      case hyn226 => exact Or.inl ⟨by kernel_rfl, fun w hSw => by go_simp⟩
      try simp only [Act.put, List.setIfInBounds_toArray, List.set_cons_zero, List.set_cons_succ]
      refine wpAnyH_done (by kernel_rfl) ?_ _
      generalize W0.drew = W1 at *
      go_wp2
      go_ret
      exact ⟨rfl, HB0.out⟩

theorem l13DoNo3 (ps : List (List Stm)) (k pr a sk sx sy : Int) (n P base G cap : Nat) (us : List Value) (w : World) (hn : ps.length = n) (hl : n ≤ 100) (hp100 : ∀ p ∈ ps, p.length ≤ 100) (h4 : k ≠ 4) (h1 : k ≠ 1) (h2 : k ≠ 2) (h3 : k ≠ 3) (hyes : wiB pr ps.length = true) (hno : wiB a (ps.getD pr.toNat []).length = true) (hbP : base ≤ P) (hbase : base ≤ w.heap.size)
    (hP : w.heap[P]? = some (.cells #[.slice (some ⟨G, 0, none⟩) n cap] 26 (0, 0))) (hO : Own13 w base (.slice (some ⟨G, 0, none⟩) n cap) us ps) :
    Calls Tryz.prog 50 #[.pointer (some ⟨P, 0, none⟩), .agg #[.int .i64 k, .int .i64 pr, .int .i64 a, .int .i64 sk, .int .i64 sx, .int .i64 sy]] w fun r w' => r = .returned (.bool false) ∧ Below base w w' := by
  have hbA : Below w.heap.size w (w.alloc (.cells #[.int .i64 k, .int .i64 pr, .int .i64 a, .int .i64 sk, .int .i64 sx, .int .i64 sy] 54)) := by go_grown
  have hPl : P < w.heap.size := (Array.getElem?_eq_some_iff.1 hP).1
  subst hn
  have D0 : Do13 w base P G cap k pr a sk sx sy us ps (w.alloc (.cells #[.int .i64 k, .int .i64 pr, .int .i64 a, .int .i64 sk, .int .i64 sx, .int .i64 sy] 54)) := ⟨heap_alloc_new w _, (hbA.block P hPl).trans hP, hO.kept hbA, hbA.mono hbase, by simp⟩
  obtain ⟨W0, hW0⟩ : ∃ W0, w.alloc (.cells #[.int .i64 k, .int .i64 pr, .int .i64 a, .int .i64 sk, .int .i64 sx, .int .i64 sy] 54) = W0 := ⟨_, rfl⟩
  rw [hW0] at D0
  obtain ⟨e0, e1, e2⟩ := edit_cells0 D0.edit
  obtain ⟨e3, e4, e5⟩ := edit_cells D0.edit
  obtain ⟨eP, fP⟩ := one_cell D0.box
  have h4' : (k == 4) = false := by simpa using h4
  have hin1 := l1In pr 0 ((ps.length : Int) - 1)
  rw [show inB pr 0 ((ps.length : Int) - 1) = wiB pr ps.length by rw [inB_wi]; congr 1; omega] at hin1
  have hwn : IntKind.i64.wrap ((ps.length : Int) - 1) = (ps.length : Int) - 1 := IntWalk.i64_in _ (by omega)
  have HD0 : Hid (Do13 w base P G cap k pr a sk sx sy us ps W0) := D0
  have HB0 : Hid (Below base w W0.drew) := D0.below.drew
  rw [hyes] at hin1
  obtain ⟨y0, y1⟩ := wiB_true hyes
  obtain ⟨i, rfl⟩ : ∃ i : Nat, pr = i := ⟨pr.toNat, by omega⟩
  have hi : i < ps.length := by omega
  have hgd : ps.getD i [] = ps[i] := by simp [List.getD, hi]
  simp only [Int.toNat_natCast, hgd] at hno
  have hpi : ps[i]? = some ps[i] := by simp [hi]
  have hpl := hp100 ps[i] (List.getElem_mem hi)
  obtain ⟨x, hui⟩ : ∃ x, us[i]? = some x := ⟨us[i]'(by rw [hO.len]; exact hi), by simp⟩
  have hox := hO.each i x ps[i] hui hpi
  have hxf : ∃ ao c, x = .slice ao ps[i].length c := by
    rcases hox.2 with ⟨rfl, h0⟩ | ⟨g, cap', cur, rfl, _⟩
    · exact ⟨none, 0, by rw [h0]⟩
    · exact ⟨_, _, rfl⟩
  obtain ⟨ao, c, rfl⟩ := hxf
  have eG : W0.cell? ⟨G, i, none⟩ = some (.slice ao ps[i].length c) := by rw [D0.own.row.cellAt i (by omega)]; exact hui
  have hin2 := l1In a 0 ((ps[i].length : Int) - 1)
  rw [show inB a 0 ((ps[i].length : Int) - 1) = wiB a ps[i].length by rw [inB_wi]; congr 1; omega, hno] at hin2
  have hiI : (i : Int) < (ps.length : Int) := by omega
  clear hox hui hpi hgd hno
  generalize ps[i].length = m at *
  have hwm : IntKind.i64.wrap ((m : Int) - 1) = (m : Int) - 1 := IntWalk.i64_in _ (by omega)
  have h1' : (k == 1) = false := by simpa using h1
  have h2' : (k == 2) = false := by simpa using h2
  have h3' : (k == 3) = false := by simpa using h3
  have HE1 : Hid (W0.drew.cell? ⟨w.heap.size, 0, none⟩ = some (.int .i64 k) ∧ W0.drew.cell? ⟨w.heap.size, 1, none⟩ = some (.int .i64 (i : Int)) ∧ W0.drew.cell? ⟨w.heap.size, 2, none⟩ = some (.int .i64 a) ∧ W0.drew.cell? ⟨P, 0, none⟩ = some (.slice (some ⟨G, 0, none⟩) ps.length cap) ∧ W0.drew.cell? ⟨G, i, none⟩ = some (.slice ao m c)) := ⟨e0, e1, e2, eP, eG⟩
  clear D0 hO hP hbA
  go_enter Tryz.func50, Tryz.ntmps50
  go_wp2_with fail
  refine wp_region_held_drew (S := fun w' => w'.cell? ⟨w.heap.size, 1, none⟩ = some (.int .i64 (i : Int)) ∧ w'.cell? ⟨w.heap.size, 2, none⟩ = some (.int .i64 a) ∧ w'.cell? ⟨P, 0, none⟩ = some (.slice (some ⟨G, 0, none⟩) ps.length cap) ∧ w'.cell? ⟨G, i, none⟩ = some (.slice ao m c)) (by kernel_rfl) ⟨e1, e2, eP, eG⟩ (fun hHeld => ?_)
  refine wpAnyH_take (i := 0) (oi := ?oin30) (v := .pointer (some ⟨w.heap.size, 1, none⟩)) ?hin30 (by kernel_rfl) (by kernel_rfl) (by kernel_rfl) ?hqn30 ?hyn30 hHeld ?hrn30
  case hin30 =>
    simp only [List.getElem?_toArray, List.getElem?_cons_succ, List.getElem?_cons_zero]
    rfl
  case hqn30 => exact fun _ _ _ h => h
  case hyn30 => exact Or.inl ⟨by kernel_rfl, fun w hSw => by go_simp⟩
  try simp only [Act.put, List.setIfInBounds_toArray, List.set_cons_zero, List.set_cons_succ]
  refine wpAnyH_take (i := 1) (oi := ?oin31) (v := .int .i64 (i : Int)) ?hin31 (by kernel_rfl) (by kernel_rfl) (by kernel_rfl) ?hqn31 ?hyn31 hHeld ?hrn31
  case hin31 =>
    simp only [List.getElem?_toArray, List.getElem?_cons_succ, List.getElem?_cons_zero]
    rfl
  case hqn31 => exact fun _ _ _ h => h
  case hyn31 => exact Or.inl ⟨by kernel_rfl, fun w hSw => by obtain ⟨s1, s2, s6, s7⟩ := hSw; go_simp⟩
  try simp only [Act.put, List.setIfInBounds_toArray, List.set_cons_zero, List.set_cons_succ]
  refine wpAnyH_take (i := 2) (oi := ?oin32) (v := .pointer (some ⟨P, 0, none⟩)) ?hin32 (by kernel_rfl) (by kernel_rfl) (by kernel_rfl) ?hqn32 ?hyn32 hHeld ?hrn32
  case hin32 =>
    simp only [List.getElem?_toArray, List.getElem?_cons_succ, List.getElem?_cons_zero]
    rfl
  case hqn32 => exact fun _ _ _ h => h
  case hyn32 => exact Or.inl ⟨by kernel_rfl, fun w hSw => by go_simp⟩
  try simp only [Act.put, List.setIfInBounds_toArray, List.set_cons_zero, List.set_cons_succ]
  refine wpAnyH_take (i := 3) (oi := ?oin33) (v := .pointer (some ⟨P, 0, none⟩)) ?hin33 (by kernel_rfl) (by kernel_rfl) (by kernel_rfl) ?hqn33 ?hyn33 hHeld ?hrn33
  case hin33 =>
    simp only [List.getElem?_toArray, List.getElem?_cons_succ, List.getElem?_cons_zero]
    rfl
  case hqn33 => exact fun _ _ _ h => h
  case hyn33 => exact Or.inl ⟨by kernel_rfl, fun w hSw => by go_simp⟩
  try simp only [Act.put, List.setIfInBounds_toArray, List.set_cons_zero, List.set_cons_succ]
  refine wpAnyH_take (i := 4) (oi := ?oin34) (v := .pointer (some ⟨P, 0, none⟩)) ?hin34 (by kernel_rfl) (by kernel_rfl) (by kernel_rfl) ?hqn34 ?hyn34 hHeld ?hrn34
  case hin34 =>
    simp only [List.getElem?_toArray, List.getElem?_cons_succ, List.getElem?_cons_zero]
    rfl
  case hqn34 => exact fun _ _ _ h => h
  case hyn34 => exact Or.inl ⟨by kernel_rfl, fun w hSw => by go_simp⟩
  try simp only [Act.put, List.setIfInBounds_toArray, List.set_cons_zero, List.set_cons_succ]
  refine wpAnyH_take (i := 5) (oi := ?oin35) (v := .slice (some ⟨G, 0, none⟩) ps.length cap) ?hin35 (by kernel_rfl) (by kernel_rfl) (by kernel_rfl) ?hqn35 ?hyn35 hHeld ?hrn35
  case hin35 =>
    simp only [List.getElem?_toArray, List.getElem?_cons_succ, List.getElem?_cons_zero]
    rfl
  case hqn35 => exact fun _ _ _ h => h
  case hyn35 => exact Or.inl ⟨by kernel_rfl, fun w hSw => by obtain ⟨s1, s2, s6, s7⟩ := hSw; go_simp⟩
  try simp only [Act.put, List.setIfInBounds_toArray, List.set_cons_zero, List.set_cons_succ]
  refine wpAnyH_take (i := 6) (oi := ?oin36) (v := .int .i64 (ps.length : Int)) ?hin36 (by kernel_rfl) (by kernel_rfl) (by kernel_rfl) ?hqn36 ?hyn36 hHeld ?hrn36
  case hin36 =>
    simp only [List.getElem?_toArray, List.getElem?_cons_succ, List.getElem?_cons_zero]
    rfl
  case hqn36 => exact fun _ _ _ h => h
  case hyn36 => exact Or.inl ⟨by kernel_rfl, fun w hSw => by go_simp⟩
  try simp only [Act.put, List.setIfInBounds_toArray, List.set_cons_zero, List.set_cons_succ]
  refine wpAnyH_take (i := 7) (oi := ?oin37) (v := .int .i64 ((ps.length : Int) - 1)) ?hin37 (by kernel_rfl) (by kernel_rfl) (by kernel_rfl) ?hqn37 ?hyn37 hHeld ?hrn37
  case hin37 =>
    simp only [List.getElem?_toArray, List.getElem?_cons_succ, List.getElem?_cons_zero]
    rfl
  case hqn37 => exact fun _ _ _ h => h
  case hyn37 => exact Or.inl ⟨by kernel_rfl, fun w hSw => by go_simp⟩
  try simp only [Act.put, List.setIfInBounds_toArray, List.set_cons_zero, List.set_cons_succ]
  refine wpAnyH_ready (rs := [8]) (by kernel_rfl) (by simp) ?_
  refine (AllReadyH.cons (o := ?oon38) ?hon38 (fun K hK => ?hkn38) AllReadyH.nil)
  case hon38 =>
    simp only [List.getElem?_toArray, List.getElem?_cons_succ, List.getElem?_cons_zero]
    rfl
  case hkn38 =>
    go_simp
    go_at_call 59
    refine (hin1 _).mono ?_
    rintro r wz ⟨rfl, rfl⟩
    try go_wp2_with fail
    refine hK.out _ _ ⟨e1, e2, eP, eG⟩ (fun hHeld => ?_)
    clear hK K
    try simp only [Act.put, List.setIfInBounds_toArray, List.set_cons_zero, List.set_cons_succ]
    refine wpAnyH_take (i := 9) (oi := ?oin39) (v := .bool false) ?hin39 (by kernel_rfl) (by kernel_rfl) (by kernel_rfl) ?hqn39 ?hyn39 hHeld ?hrn39
    case hin39 =>
      simp only [List.getElem?_toArray, List.getElem?_cons_succ, List.getElem?_cons_zero]
      rfl
    case hqn39 => exact fun _ _ _ h => h
    case hyn39 => exact Or.inl ⟨by kernel_rfl, fun w hSw => by go_simp⟩
    try simp only [Act.put, List.setIfInBounds_toArray, List.set_cons_zero, List.set_cons_succ]
    refine wpAnyH_take (i := 10) (oi := ?oin310) (v := .bool false) ?hin310 (by kernel_rfl) (by kernel_rfl) (by kernel_rfl) ?hqn310 ?hyn310 hHeld ?hrn310
    case hin310 =>
      simp only [List.getElem?_toArray, List.getElem?_cons_succ, List.getElem?_cons_zero]
      rfl
    case hqn310 => exact fun _ _ _ h => h
    case hyn310 => exact Or.inl ⟨by kernel_rfl, fun w hSw => by go_simp⟩
    try simp only [Act.put, List.setIfInBounds_toArray, List.set_cons_zero, List.set_cons_succ]
    refine wpAnyH_take (i := 11) (oi := ?oin311) (v := .pointer (some ⟨w.heap.size, 2, none⟩)) ?hin311 (by kernel_rfl) (by kernel_rfl) (by kernel_rfl) ?hqn311 ?hyn311 hHeld ?hrn311
    case hin311 =>
      simp only [List.getElem?_toArray, List.getElem?_cons_succ, List.getElem?_cons_zero]
      rfl
    case hqn311 => exact fun _ _ _ h => h
    case hyn311 => exact Or.inl ⟨by kernel_rfl, fun w hSw => by go_simp⟩
    try simp only [Act.put, List.setIfInBounds_toArray, List.set_cons_zero, List.set_cons_succ]
    refine wpAnyH_take (i := 12) (oi := ?oin312) (v := .int .i64 a) ?hin312 (by kernel_rfl) (by kernel_rfl) (by kernel_rfl) ?hqn312 ?hyn312 hHeld ?hrn312
    case hin312 =>
      simp only [List.getElem?_toArray, List.getElem?_cons_succ, List.getElem?_cons_zero]
      rfl
    case hqn312 => exact fun _ _ _ h => h
    case hyn312 => exact Or.inl ⟨by kernel_rfl, fun w hSw => by obtain ⟨s1, s2, s6, s7⟩ := hSw; go_simp⟩
    try simp only [Act.put, List.setIfInBounds_toArray, List.set_cons_zero, List.set_cons_succ]
    refine wpAnyH_take (i := 13) (oi := ?oin313) (v := .pointer (some ⟨P, 0, none⟩)) ?hin313 (by kernel_rfl) (by kernel_rfl) (by kernel_rfl) ?hqn313 ?hyn313 hHeld ?hrn313
    case hin313 =>
      simp only [List.getElem?_toArray, List.getElem?_cons_succ, List.getElem?_cons_zero]
      rfl
    case hqn313 => exact fun _ _ _ h => h
    case hyn313 => exact Or.inl ⟨by kernel_rfl, fun w hSw => by go_simp⟩
    try simp only [Act.put, List.setIfInBounds_toArray, List.set_cons_zero, List.set_cons_succ]
    refine wpAnyH_take (i := 14) (oi := ?oin314) (v := .pointer (some ⟨P, 0, none⟩)) ?hin314 (by kernel_rfl) (by kernel_rfl) (by kernel_rfl) ?hqn314 ?hyn314 hHeld ?hrn314
    case hin314 =>
      simp only [List.getElem?_toArray, List.getElem?_cons_succ, List.getElem?_cons_zero]
      rfl
    case hqn314 => exact fun _ _ _ h => h
    case hyn314 => exact Or.inl ⟨by kernel_rfl, fun w hSw => by go_simp⟩
    try simp only [Act.put, List.setIfInBounds_toArray, List.set_cons_zero, List.set_cons_succ]
    refine wpAnyH_take (i := 15) (oi := ?oin315) (v := .pointer (some ⟨P, 0, none⟩)) ?hin315 (by kernel_rfl) (by kernel_rfl) (by kernel_rfl) ?hqn315 ?hyn315 hHeld ?hrn315
    case hin315 =>
      simp only [List.getElem?_toArray, List.getElem?_cons_succ, List.getElem?_cons_zero]
      rfl
    case hqn315 => exact fun _ _ _ h => h
    case hyn315 => exact Or.inl ⟨by kernel_rfl, fun w hSw => by go_simp⟩
    try simp only [Act.put, List.setIfInBounds_toArray, List.set_cons_zero, List.set_cons_succ]
    refine wpAnyH_take (i := 16) (oi := ?oin316) (v := .slice (some ⟨G, 0, none⟩) ps.length cap) ?hin316 (by kernel_rfl) (by kernel_rfl) (by kernel_rfl) ?hqn316 ?hyn316 hHeld ?hrn316
    case hin316 =>
      simp only [List.getElem?_toArray, List.getElem?_cons_succ, List.getElem?_cons_zero]
      rfl
    case hqn316 => exact fun _ _ _ h => h
    case hyn316 => exact Or.inl ⟨by kernel_rfl, fun w hSw => by obtain ⟨s1, s2, s6, s7⟩ := hSw; go_simp⟩
    try simp only [Act.put, List.setIfInBounds_toArray, List.set_cons_zero, List.set_cons_succ]
    refine wpAnyH_take (i := 17) (oi := ?oin317) (v := .pointer (some ⟨w.heap.size, 1, none⟩)) ?hin317 (by kernel_rfl) (by kernel_rfl) (by kernel_rfl) ?hqn317 ?hyn317 hHeld ?hrn317
    case hin317 =>
      simp only [List.getElem?_toArray, List.getElem?_cons_succ, List.getElem?_cons_zero]
      rfl
    case hqn317 => exact fun _ _ _ h => h
    case hyn317 => exact Or.inl ⟨by kernel_rfl, fun w hSw => by go_simp⟩
    try simp only [Act.put, List.setIfInBounds_toArray, List.set_cons_zero, List.set_cons_succ]
    refine wpAnyH_take (i := 18) (oi := ?oin318) (v := .int .i64 (i : Int)) ?hin318 (by kernel_rfl) (by kernel_rfl) (by kernel_rfl) ?hqn318 ?hyn318 hHeld ?hrn318
    case hin318 =>
      simp only [List.getElem?_toArray, List.getElem?_cons_succ, List.getElem?_cons_zero]
      rfl
    case hqn318 => exact fun _ _ _ h => h
    case hyn318 => exact Or.inl ⟨by kernel_rfl, fun w hSw => by obtain ⟨s1, s2, s6, s7⟩ := hSw; go_simp⟩
    try simp only [Act.put, List.setIfInBounds_toArray, List.set_cons_zero, List.set_cons_succ]
    refine wpAnyH_take (i := 19) (oi := ?oin319) (v := .pointer (some ⟨G, i, none⟩)) ?hin319 (by kernel_rfl) (by kernel_rfl) (by kernel_rfl) ?hqn319 ?hyn319 hHeld ?hrn319
    case hin319 =>
      simp only [List.getElem?_toArray, List.getElem?_cons_succ, List.getElem?_cons_zero]
      rfl
    case hqn319 => exact fun _ _ _ h => h
    case hyn319 => exact Or.inl ⟨by kernel_rfl, fun w hSw => by go_simp⟩
    try simp only [Act.put, List.setIfInBounds_toArray, List.set_cons_zero, List.set_cons_succ]
    refine wpAnyH_take (i := 20) (oi := ?oin320) (v := .pointer (some ⟨G, i, none⟩)) ?hin320 (by kernel_rfl) (by kernel_rfl) (by kernel_rfl) ?hqn320 ?hyn320 hHeld ?hrn320
    case hin320 =>
      simp only [List.getElem?_toArray, List.getElem?_cons_succ, List.getElem?_cons_zero]
      rfl
    case hqn320 => exact fun _ _ _ h => h
    case hyn320 => exact Or.inl ⟨by kernel_rfl, fun w hSw => by go_simp⟩
    try simp only [Act.put, List.setIfInBounds_toArray, List.set_cons_zero, List.set_cons_succ]
    refine wpAnyH_take (i := 21) (oi := ?oin321) (v := .slice ao m c) ?hin321 (by kernel_rfl) (by kernel_rfl) (by kernel_rfl) ?hqn321 ?hyn321 hHeld ?hrn321
    case hin321 =>
      simp only [List.getElem?_toArray, List.getElem?_cons_succ, List.getElem?_cons_zero]
      rfl
    case hqn321 => exact fun _ _ _ h => h
    case hyn321 => exact Or.inl ⟨by kernel_rfl, fun w hSw => by obtain ⟨s1, s2, s6, s7⟩ := hSw; go_simp⟩
    try simp only [Act.put, List.setIfInBounds_toArray, List.set_cons_zero, List.set_cons_succ]
    refine wpAnyH_take (i := 22) (oi := ?oin322) (v := .int .i64 (m : Int)) ?hin322 (by kernel_rfl) (by kernel_rfl) (by kernel_rfl) ?hqn322 ?hyn322 hHeld ?hrn322
    case hin322 =>
      simp only [List.getElem?_toArray, List.getElem?_cons_succ, List.getElem?_cons_zero]
      rfl
    case hqn322 => exact fun _ _ _ h => h
    case hyn322 => exact Or.inl ⟨by kernel_rfl, fun w hSw => by go_simp⟩
    try simp only [Act.put, List.setIfInBounds_toArray, List.set_cons_zero, List.set_cons_succ]
    refine wpAnyH_take (i := 23) (oi := ?oin323) (v := .int .i64 ((m : Int) - 1)) ?hin323 (by kernel_rfl) (by kernel_rfl) (by kernel_rfl) ?hqn323 ?hyn323 hHeld ?hrn323
    case hin323 =>
      simp only [List.getElem?_toArray, List.getElem?_cons_succ, List.getElem?_cons_zero]
      rfl
    case hqn323 => exact fun _ _ _ h => h
    case hyn323 => exact Or.inl ⟨by kernel_rfl, fun w hSw => by go_simp⟩
    try simp only [Act.put, List.setIfInBounds_toArray, List.set_cons_zero, List.set_cons_succ]
    refine wpAnyH_ready (rs := [24]) (by kernel_rfl) (by simp) ?_
    refine (AllReadyH.cons (o := ?oon324) ?hon324 (fun K hK => ?hkn324) AllReadyH.nil)
    case hon324 =>
      simp only [List.getElem?_toArray, List.getElem?_cons_succ, List.getElem?_cons_zero]
      rfl
    case hkn324 =>
      go_simp
      go_at_call 59
      refine (hin2 _).mono ?_
      rintro r wz ⟨rfl, rfl⟩
      try go_wp2_with fail
      refine hK.out _ _ ⟨e1, e2, eP, eG⟩ (fun hHeld => ?_)
      clear hK K
      try simp only [Act.put, List.setIfInBounds_toArray, List.set_cons_zero, List.set_cons_succ]
      refine wpAnyH_take (i := 25) (oi := ?oin325) (v := .bool false) ?hin325 (by kernel_rfl) (by kernel_rfl) (by kernel_rfl) ?hqn325 ?hyn325 hHeld ?hrn325
      case hin325 =>
        simp only [List.getElem?_toArray, List.getElem?_cons_succ, List.getElem?_cons_zero]
        rfl
      case hqn325 => exact fun _ _ _ h => h
      case hyn325 => exact Or.inl ⟨by kernel_rfl, fun w hSw => by go_simp⟩
      try simp only [Act.put, List.setIfInBounds_toArray, List.set_cons_zero, List.set_cons_succ]
      refine wpAnyH_take (i := 26) (oi := ?oin326) (v := .bool false) ?hin326 (by kernel_rfl) (by kernel_rfl) (by kernel_rfl) ?hqn326 ?hyn326 hHeld ?hrn326
      case hin326 =>
        simp only [List.getElem?_toArray, List.getElem?_cons_succ, List.getElem?_cons_zero]
        rfl
      case hqn326 => exact fun _ _ _ h => h
      case hyn326 => exact Or.inl ⟨by kernel_rfl, fun w hSw => by go_simp⟩
      try simp only [Act.put, List.setIfInBounds_toArray, List.set_cons_zero, List.set_cons_succ]
      refine wpAnyH_done (by kernel_rfl) ?_ _
      clear e0 e1 e2 eP eG
      generalize W0.drew = W1 at *
      obtain ⟨e0, e1, e2, eP, eG⟩ := HE1.out
      go_wp2_with fail
      refine wp_region_held_drew (S := fun w' => w'.cell? ⟨w.heap.size, 1, none⟩ = some (.int .i64 (i : Int)) ∧ w'.cell? ⟨w.heap.size, 2, none⟩ = some (.int .i64 a) ∧ w'.cell? ⟨P, 0, none⟩ = some (.slice (some ⟨G, 0, none⟩) ps.length cap) ∧ w'.cell? ⟨G, i, none⟩ = some (.slice ao m c)) (by kernel_rfl) ⟨e1, e2, eP, eG⟩ (fun hHeld => ?_)
      refine wpAnyH_take (i := 0) (oi := ?oin60) (v := .pointer (some ⟨P, 0, none⟩)) ?hin60 (by kernel_rfl) (by kernel_rfl) (by kernel_rfl) ?hqn60 ?hyn60 hHeld ?hrn60
      case hin60 =>
        simp only [List.getElem?_toArray, List.getElem?_cons_succ, List.getElem?_cons_zero]
        rfl
      case hqn60 => exact fun _ _ _ h => h
      case hyn60 => exact Or.inl ⟨by kernel_rfl, fun w hSw => by go_simp⟩
      try simp only [Act.put, List.setIfInBounds_toArray, List.set_cons_zero, List.set_cons_succ]
      refine wpAnyH_take (i := 1) (oi := ?oin61) (v := .pointer (some ⟨P, 0, none⟩)) ?hin61 (by kernel_rfl) (by kernel_rfl) (by kernel_rfl) ?hqn61 ?hyn61 hHeld ?hrn61
      case hin61 =>
        simp only [List.getElem?_toArray, List.getElem?_cons_succ, List.getElem?_cons_zero]
        rfl
      case hqn61 => exact fun _ _ _ h => h
      case hyn61 => exact Or.inl ⟨by kernel_rfl, fun w hSw => by go_simp⟩
      try simp only [Act.put, List.setIfInBounds_toArray, List.set_cons_zero, List.set_cons_succ]
      refine wpAnyH_take (i := 2) (oi := ?oin62) (v := .pointer (some ⟨P, 0, none⟩)) ?hin62 (by kernel_rfl) (by kernel_rfl) (by kernel_rfl) ?hqn62 ?hyn62 hHeld ?hrn62
      case hin62 =>
        simp only [List.getElem?_toArray, List.getElem?_cons_succ, List.getElem?_cons_zero]
        rfl
      case hqn62 => exact fun _ _ _ h => h
      case hyn62 => exact Or.inl ⟨by kernel_rfl, fun w hSw => by go_simp⟩
      try simp only [Act.put, List.setIfInBounds_toArray, List.set_cons_zero, List.set_cons_succ]
      refine wpAnyH_take (i := 3) (oi := ?oin63) (v := .slice (some ⟨G, 0, none⟩) ps.length cap) ?hin63 (by kernel_rfl) (by kernel_rfl) (by kernel_rfl) ?hqn63 ?hyn63 hHeld ?hrn63
      case hin63 =>
        simp only [List.getElem?_toArray, List.getElem?_cons_succ, List.getElem?_cons_zero]
        rfl
      case hqn63 => exact fun _ _ _ h => h
      case hyn63 => exact Or.inl ⟨by kernel_rfl, fun w hSw => by obtain ⟨s1, s2, s6, s7⟩ := hSw; go_simp⟩
      try simp only [Act.put, List.setIfInBounds_toArray, List.set_cons_zero, List.set_cons_succ]
      refine wpAnyH_take (i := 4) (oi := ?oin64) (v := .pointer (some ⟨w.heap.size, 1, none⟩)) ?hin64 (by kernel_rfl) (by kernel_rfl) (by kernel_rfl) ?hqn64 ?hyn64 hHeld ?hrn64
      case hin64 =>
        simp only [List.getElem?_toArray, List.getElem?_cons_succ, List.getElem?_cons_zero]
        rfl
      case hqn64 => exact fun _ _ _ h => h
      case hyn64 => exact Or.inl ⟨by kernel_rfl, fun w hSw => by go_simp⟩
      try simp only [Act.put, List.setIfInBounds_toArray, List.set_cons_zero, List.set_cons_succ]
      refine wpAnyH_take (i := 5) (oi := ?oin65) (v := .int .i64 (i : Int)) ?hin65 (by kernel_rfl) (by kernel_rfl) (by kernel_rfl) ?hqn65 ?hyn65 hHeld ?hrn65
      case hin65 =>
        simp only [List.getElem?_toArray, List.getElem?_cons_succ, List.getElem?_cons_zero]
        rfl
      case hqn65 => exact fun _ _ _ h => h
      case hyn65 => exact Or.inl ⟨by kernel_rfl, fun w hSw => by obtain ⟨s1, s2, s6, s7⟩ := hSw; go_simp⟩
      try simp only [Act.put, List.setIfInBounds_toArray, List.set_cons_zero, List.set_cons_succ]
      refine wpAnyH_take (i := 6) (oi := ?oin66) (v := .pointer (some ⟨G, i, none⟩)) ?hin66 (by kernel_rfl) (by kernel_rfl) (by kernel_rfl) ?hqn66 ?hyn66 hHeld ?hrn66
      case hin66 =>
        simp only [List.getElem?_toArray, List.getElem?_cons_succ, List.getElem?_cons_zero]
        rfl
      case hqn66 => exact fun _ _ _ h => h
      case hyn66 => exact Or.inl ⟨by kernel_rfl, fun w hSw => by go_simp⟩
      try simp only [Act.put, List.setIfInBounds_toArray, List.set_cons_zero, List.set_cons_succ]
      refine wpAnyH_take (i := 7) (oi := ?oin67) (v := .pointer (some ⟨G, i, none⟩)) ?hin67 (by kernel_rfl) (by kernel_rfl) (by kernel_rfl) ?hqn67 ?hyn67 hHeld ?hrn67
      case hin67 =>
        simp only [List.getElem?_toArray, List.getElem?_cons_succ, List.getElem?_cons_zero]
        rfl
      case hqn67 => exact fun _ _ _ h => h
      case hyn67 => exact Or.inl ⟨by kernel_rfl, fun w hSw => by go_simp⟩
      try simp only [Act.put, List.setIfInBounds_toArray, List.set_cons_zero, List.set_cons_succ]
      refine wpAnyH_done (by kernel_rfl) ?_ _
      have HB1 : Hid (Below base w W1.drew) := HB0.out.drew
      have e9 : W1.drew.cell? ⟨w.heap.size, 0, none⟩ = some (.int .i64 k) := e0
      generalize W1.drew = W2 at *
      go_wp2
      go_ret
      exact ⟨rfl, HB1.out⟩

end Go.Proofs.YtldagpfeaabcdaaGreatDoor
