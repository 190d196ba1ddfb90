/-
 spec.l13Do: a statement in place of another.
-/
import Derived.Test.YtldagpfeaabcdaaGreatDoorG05Do13M
import Derived.BigRegion
namespace Go.Proofs.YtldagpfeaabcdaaGreatDoor
open Go.RowKit
set_option linter.unusedVariables false
set_option linter.unusedSimpArgs false
set_option maxHeartbeats 8000000
set_option maxRecDepth 20000
theorem qd1 : ∀ (L : List Stm) (j : Nat) (k x y : Int), j < L.length → (((ja3 L).set (j * 3) (.int .i64 k)).set (j * 3 + 1) (.int .i64 x)).set (j * 3 + 2) (.int .i64 y) = ja3 (L.set j ⟨k, x, y⟩)
 | [], j, k, x, y, h => by simp at h
 | t :: L, 0, k, x, y, h => rfl
 | t :: L, j + 1, k, x, y, h => by
  have ih := qd1 L j k x y (by simpa using h)
  have e1 : (j + 1) * 3 = j * 3 + 1 + 1 + 1 := by omega
  have e2 : (j + 1) * 3 + 1 = j * 3 + 1 + 1 + 1 + 1 := by omega
  have e3 : (j + 1) * 3 + 2 = j * 3 + 2 + 1 + 1 + 1 := by omega
  rw [e2, e3, e1]
  simp only [ja3, List.set_cons_succ, ih]
theorem edSet_eq (p : List Stm) (j : Nat) (s : Stm) (h : j < p.length) : edSet p j s = p.set j s := by
 unfold edSet
 rw [List.set_eq_take_append_cons_drop, if_pos h]
theorem own_set3 {w : World} {base g m c j : Nat} {p : List Stm} (h : w.ownsRow base 52 3 (.slice (some ⟨g, 0, none⟩) m c) m (ja3 p)) (hm : p.length = m) (hj : j < m) (k x y : Int) :
 (((w.setCell ⟨g, j * 3, none⟩ (.int .i64 k)).setCell ⟨g, j * 3 + 1, none⟩ (.int .i64 x)).setCell ⟨g, j * 3 + 2, none⟩ (.int .i64 y)).ownsRow base 52 3 (.slice (some ⟨g, 0, none⟩) m c) m (ja3 (edSet p j ⟨k, x, y⟩)) := by
 have h3 := (((h.stored (j * 3) (.int .i64 k)).1.stored (j * 3 + 1) (.int .i64 x)).1.stored (j * 3 + 2) (.int .i64 y)).1
 rw [qd1 p j k x y (by omega)] at h3
 rw [edSet_eq _ _ _ (by omega)]
 exact h3
theorem l13DoSet (ps : List (List Stm)) (p : List Stm) (sk sx sy : Int) (i j n m P base G cap g c : Nat) (us : List Value) (w : World) (hn : ps.length = n) (hl : n ≤ 100) (hi : i < n) (hp : ps[i]? = some p) (hm : p.length = m) (hm1 : m ≤ 100) (hj : j < m) (hui : us[i]? = some (.slice (some ⟨g, 0, none⟩) m c)) (hbP : base ≤ P) (hbase : base ≤ w.heap.size)
 (hP : w.heap[P]? = some (.cells #[.slice (some ⟨G, 0, none⟩) n cap] 26 (0, 0))) (hO : Own13 w base (.slice (some ⟨G, 0, none⟩) n cap) us ps) :
 Calls Tryz.prog 50 #[.pointer (some ⟨P, 0, none⟩), .agg #[.int .i64 1, .int .i64 (i : Int), .int .i64 (j : Int), .int .i64 sk, .int .i64 sx, .int .i64 sy]] w fun r w' => r = .returned (.bool true) ∧ ∃ vs, w'.heap[P]? = some (.cells #[.slice (some ⟨G, 0, none⟩) n cap] 26 (0, 0)) ∧ Own13 w' base (.slice (some ⟨G, 0, none⟩) n cap) vs (ps.set i (edSet p j ⟨sk, sx, sy⟩)) ∧ Below base w w' := by
 subst hn
 obtain ⟨i0, hi0, hz0, hz1, hz2⟩ := info_parts js1
 have hbA : Below w.heap.size w (w.alloc (.cells #[.int .i64 1, .int .i64 (i : Int), .int .i64 (j : Int), .int .i64 sk, .int .i64 sx, .int .i64 sy] 54)) := by go_grown
 have hPl : P < w.heap.size := (Array.getElem?_eq_some_iff.1 hP).1
 have D0 : Do13 w base P G cap 1 i j sk sx sy us ps (w.alloc (.cells #[.int .i64 1, .int .i64 (i : Int), .int .i64 (j : Int), .int .i64 sk, .int .i64 sx, .int .i64 sy] 54)) := ⟨heap_alloc_new w _, (hbA.block P hPl).trans hP, hO.kept hbA, hbA.mono hbase, by simp⟩
 have hoi := hO.each i _ p hui hp
 rw [hm] at hoi
 have hgb : base ≤ g := (hoi.lt g rfl).1
 obtain ⟨_, _, _, hmc, hcm, _⟩ := own_open hoi
 unfold maxLen at hcm
 have hGb : base ≤ G := (hO.row.lt G rfl).1
 have hGg : G ≠ g := fun e => jx3 hoi hO.row (by decide) g rfl (by rw [e]; rfl)
 have hEg : w.heap.size ≠ g := by have := (hoi.lt g rfl).2; omega
 obtain ⟨W0, hW0⟩ : ∃ W0, w.alloc (.cells #[.int .i64 1, .int .i64 (i : Int), .int .i64 (j : Int), .int .i64 sk, .int .i64 sx, .int .i64 sy] 54) = W0 := ⟨_, rfl⟩
 rw [hW0] at D0
 have hin1 := l1In (i : Int) 0 ((ps.length : Int) - 1)
 rw [show inB (i : Int) 0 ((ps.length : Int) - 1) = true by simp [inB]; omega] at hin1
 have hin2 := l1In (j : Int) 0 ((m : Int) - 1)
 rw [show inB (j : Int) 0 ((m : Int) - 1) = true by simp [inB]; omega] at hin2
 have hiI : (i : Int) < (ps.length : Int) := by omega
 have hjI : (j : Int) < (m : Int) := by omega
 have hmcI : (m : Int) ≤ (c : Int) := by omega
 have HPM : Hid (p.length = m) := hm
 have HPI : Hid (ps[i]? = some p) := hp
 have HUI : Hid (us[i]? = some (.slice (some ⟨g, 0, none⟩) m c)) := hui
 have hwn : IntKind.i64.wrap ((ps.length : Int) - 1) = (ps.length : Int) - 1 := IntWalk.i64_in _ (by omega)
 have hwm : IntKind.i64.wrap ((m : Int) - 1) = (m : Int) - 1 := IntWalk.i64_in _ (by omega)
 obtain ⟨e0, e1, e2, e3, e4, e5, eP, eG, fG⟩ := D0.cells hui
 have HD0 : Hid (Do13 w base P G cap 1 i j sk sx sy us ps W0) := D0
 clear D0 hoi hui hm hp hO hP hbA
 obtain ⟨n, hN⟩ : ∃ n, ps.length = n := ⟨_, rfl⟩
 rw [hN] at hin1 hiI hwn eP hl hi ⊢
 have HN : Hid (ps.length = n) := hN
 clear hN
 have HEL : Hid ((edSet p j ⟨sk, sx, sy⟩).length = m) := by (show _ = _; rw [edSet_eq _ _ _ (by rw [HPM.out]; exact hj), List.length_set, HPM.out])
 go_enter Tryz.func50, Tryz.ntmps50
 go_wp2_with fail
 refine wp_region_held_drew (S := fun w' => w'.cell? ⟨w.heap.size, 1, none⟩ = some (.int .i64 (i : Int)) ∧ w'.cell? ⟨w.heap.size, 2, none⟩ = some (.int .i64 (j : Int)) ∧ w'.cell? ⟨w.heap.size, 3, none⟩ = some (.int .i64 sk) ∧ w'.cell? ⟨w.heap.size, 4, none⟩ = some (.int .i64 sx) ∧ w'.cell? ⟨w.heap.size, 5, none⟩ = some (.int .i64 sy) ∧ w'.cell? ⟨P, 0, none⟩ = some (.slice (some ⟨G, 0, none⟩) n cap) ∧ w'.cell? ⟨G, i, none⟩ = some (.slice (some ⟨g, 0, none⟩) m c)) (by kernel_rfl) ⟨e1, e2, e3, e4, e5, eP, eG⟩ (fun hHl => ?_)
 refine wpAnyH_take (i := 0) (oi := ?oir40) (v := .pointer (some ⟨w.heap.size, 1, none⟩)) ?_ (by kernel_rfl) (by kernel_rfl) (by kernel_rfl) ?_ ?_ hHl ?_
 rotate_left
 · simp only [gA, gB, gC]; rfl
 · exact fun _ _ _ h => h
 · exact Or.inl ⟨by kernel_rfl, fun w hSw => by go_simp⟩
 try simp only [Act.put, gD, gE, gF]
 refine wpAnyH_take (i := 1) (oi := ?oir41) (v := .int .i64 (i : Int)) ?_ (by kernel_rfl) (by kernel_rfl) (by kernel_rfl) ?_ ?_ hHl ?_
 rotate_left
 · simp only [gA, gB, gC]; rfl
 · exact fun _ _ _ h => h
 · exact Or.inl ⟨by kernel_rfl, fun w hSw => by obtain ⟨s1, s2, s3, s4, s5, s6, s7⟩ := hSw; go_simp⟩
 try simp only [Act.put, gD, gE, gF]
 refine wpAnyH_take (i := 2) (oi := ?oir42) (v := .pointer (some ⟨P, 0, none⟩)) ?_ (by kernel_rfl) (by kernel_rfl) (by kernel_rfl) ?_ ?_ hHl ?_
 rotate_left
 · simp only [gA, gB, gC]; rfl
 · exact fun _ _ _ h => h
 · exact Or.inl ⟨by kernel_rfl, fun w hSw => by go_simp⟩
 try simp only [Act.put, gD, gE, gF]
 refine wpAnyH_take (i := 3) (oi := ?oir43) (v := .pointer (some ⟨P, 0, none⟩)) ?_ (by kernel_rfl) (by kernel_rfl) (by kernel_rfl) ?_ ?_ hHl ?_
 rotate_left
 · simp only [gA, gB, gC]; rfl
 · exact fun _ _ _ h => h
 · exact Or.inl ⟨by kernel_rfl, fun w hSw => by go_simp⟩
 try simp only [Act.put, gD, gE, gF]
 refine wpAnyH_take (i := 4) (oi := ?oir44) (v := .pointer (some ⟨P, 0, none⟩)) ?_ (by kernel_rfl) (by kernel_rfl) (by kernel_rfl) ?_ ?_ hHl ?_
 rotate_left
 · simp only [gA, gB, gC]; rfl
 · exact fun _ _ _ h => h
 · exact Or.inl ⟨by kernel_rfl, fun w hSw => by go_simp⟩
 try simp only [Act.put, gD, gE, gF]
 refine wpAnyH_take (i := 5) (oi := ?oir45) (v := .slice (some ⟨G, 0, none⟩) n cap) ?_ (by kernel_rfl) (by kernel_rfl) (by kernel_rfl) ?_ ?_ hHl ?_
 rotate_left
 · simp only [gA, gB, gC]; rfl
 · exact fun _ _ _ h => h
 · exact Or.inl ⟨by kernel_rfl, fun w hSw => by obtain ⟨s1, s2, s3, s4, s5, s6, s7⟩ := hSw; go_simp⟩
 try simp only [Act.put, gD, gE, gF]
 refine wpAnyH_take (i := 6) (oi := ?oir46) (v := .int .i64 (n : Int)) ?_ (by kernel_rfl) (by kernel_rfl) (by kernel_rfl) ?_ ?_ hHl ?_
 rotate_left
 · simp only [gA, gB, gC]; rfl
 · exact fun _ _ _ h => h
 · exact Or.inl ⟨by kernel_rfl, fun w hSw => by go_simp⟩
 try simp only [Act.put, gD, gE, gF]
 refine wpAnyH_take (i := 7) (oi := ?oir47) (v := .int .i64 ((n : Int) - 1)) ?_ (by kernel_rfl) (by kernel_rfl) (by kernel_rfl) ?_ ?_ hHl ?_
 rotate_left
 · simp only [gA, gB, gC]; rfl
 · exact fun _ _ _ h => h
 · exact Or.inl ⟨by kernel_rfl, fun w hSw => by go_simp⟩
 try simp only [Act.put, gD, gE, gF]
 refine wpAnyH_ready (rs := [8]) (by kernel_rfl) (by simp) (AllReadyH.cons (o := ?oor48) ?_ (fun K hK => ?_) AllReadyH.nil)
 rotate_left
 · simp only [gA, gB, gC]; rfl
 go_simp
 go_at_call 59
 refine (hin1 _).mono ?_
 rintro r wz ⟨rfl, rfl⟩
 try go_wp2_with fail
 refine hK.out _ _ ⟨e1, e2, e3, e4, e5, eP, eG⟩ (fun hHl => ?_)
 clear hK K
 try simp only [Act.put, gD, gE, gF]
 refine wpAnyH_take (i := 9) (oi := ?oir49) (v := .bool false) ?_ (by kernel_rfl) (by kernel_rfl) (by kernel_rfl) ?_ ?_ hHl ?_
 rotate_left
 · simp only [gA, gB, gC]; rfl
 · exact fun _ _ _ h => h
 · exact Or.inl ⟨by kernel_rfl, fun w hSw => by go_simp⟩
 try simp only [Act.put, gD, gE, gF]
 refine wpAnyH_take (i := 10) (oi := ?oir410) (v := .bool false) ?_ (by kernel_rfl) (by kernel_rfl) (by kernel_rfl) ?_ ?_ hHl ?_
 rotate_left
 · simp only [gA, gB, gC]; rfl
 · exact fun _ _ _ h => h
 · exact Or.inl ⟨by kernel_rfl, fun w hSw => by go_simp⟩
 try simp only [Act.put, gD, gE, gF]
 refine wpAnyH_take (i := 11) (oi := ?oir411) (v := .pointer (some ⟨w.heap.size, 2, none⟩)) ?_ (by kernel_rfl) (by kernel_rfl) (by kernel_rfl) ?_ ?_ hHl ?_
 rotate_left
 · simp only [gA, gB, gC]; rfl
 · exact fun _ _ _ h => h
 · exact Or.inl ⟨by kernel_rfl, fun w hSw => by go_simp⟩
 try simp only [Act.put, gD, gE, gF]
 refine wpAnyH_take (i := 12) (oi := ?oir412) (v := .int .i64 (j : Int)) ?_ (by kernel_rfl) (by kernel_rfl) (by kernel_rfl) ?_ ?_ hHl ?_
 rotate_left
 · simp only [gA, gB, gC]; rfl
 · exact fun _ _ _ h => h
 · exact Or.inl ⟨by kernel_rfl, fun w hSw => by obtain ⟨s1, s2, s3, s4, s5, s6, s7⟩ := hSw; go_simp⟩
 try simp only [Act.put, gD, gE, gF]
 refine wpAnyH_take (i := 13) (oi := ?oir413) (v := .pointer (some ⟨P, 0, none⟩)) ?_ (by kernel_rfl) (by kernel_rfl) (by kernel_rfl) ?_ ?_ hHl ?_
 rotate_left
 · simp only [gA, gB, gC]; rfl
 · exact fun _ _ _ h => h
 · exact Or.inl ⟨by kernel_rfl, fun w hSw => by go_simp⟩
 try simp only [Act.put, gD, gE, gF]
 refine wpAnyH_take (i := 14) (oi := ?oir414) (v := .pointer (some ⟨P, 0, none⟩)) ?_ (by kernel_rfl) (by kernel_rfl) (by kernel_rfl) ?_ ?_ hHl ?_
 rotate_left
 · simp only [gA, gB, gC]; rfl
 · exact fun _ _ _ h => h
 · exact Or.inl ⟨by kernel_rfl, fun w hSw => by go_simp⟩
 try simp only [Act.put, gD, gE, gF]
 refine wpAnyH_take (i := 15) (oi := ?oir415) (v := .pointer (some ⟨P, 0, none⟩)) ?_ (by kernel_rfl) (by kernel_rfl) (by kernel_rfl) ?_ ?_ hHl ?_
 rotate_left
 · simp only [gA, gB, gC]; rfl
 · exact fun _ _ _ h => h
 · exact Or.inl ⟨by kernel_rfl, fun w hSw => by go_simp⟩
 try simp only [Act.put, gD, gE, gF]
 refine wpAnyH_take (i := 16) (oi := ?oir416) (v := .slice (some ⟨G, 0, none⟩) n cap) ?_ (by kernel_rfl) (by kernel_rfl) (by kernel_rfl) ?_ ?_ hHl ?_
 rotate_left
 · simp only [gA, gB, gC]; rfl
 · exact fun _ _ _ h => h
 · exact Or.inl ⟨by kernel_rfl, fun w hSw => by obtain ⟨s1, s2, s3, s4, s5, s6, s7⟩ := hSw; go_simp⟩
 try simp only [Act.put, gD, gE, gF]
 refine wpAnyH_take (i := 17) (oi := ?oir417) (v := .pointer (some ⟨w.heap.size, 1, none⟩)) ?_ (by kernel_rfl) (by kernel_rfl) (by kernel_rfl) ?_ ?_ hHl ?_
 rotate_left
 · simp only [gA, gB, gC]; rfl
 · exact fun _ _ _ h => h
 · exact Or.inl ⟨by kernel_rfl, fun w hSw => by go_simp⟩
 try simp only [Act.put, gD, gE, gF]
 refine wpAnyH_take (i := 18) (oi := ?oir418) (v := .int .i64 (i : Int)) ?_ (by kernel_rfl) (by kernel_rfl) (by kernel_rfl) ?_ ?_ hHl ?_
 rotate_left
 · simp only [gA, gB, gC]; rfl
 · exact fun _ _ _ h => h
 · exact Or.inl ⟨by kernel_rfl, fun w hSw => by obtain ⟨s1, s2, s3, s4, s5, s6, s7⟩ := hSw; go_simp⟩
 try simp only [Act.put, gD, gE, gF]
 refine wpAnyH_take (i := 19) (oi := ?oir419) (v := .pointer (some ⟨G, i, none⟩)) ?_ (by kernel_rfl) (by kernel_rfl) (by kernel_rfl) ?_ ?_ hHl ?_
 rotate_left
 · simp only [gA, gB, gC]; rfl
 · exact fun _ _ _ h => h
 · exact Or.inl ⟨by kernel_rfl, fun w hSw => by go_simp⟩
 try simp only [Act.put, gD, gE, gF]
 refine wpAnyH_take (i := 20) (oi := ?oir420) (v := .pointer (some ⟨G, i, none⟩)) ?_ (by kernel_rfl) (by kernel_rfl) (by kernel_rfl) ?_ ?_ hHl ?_
 rotate_left
 · simp only [gA, gB, gC]; rfl
 · exact fun _ _ _ h => h
 · exact Or.inl ⟨by kernel_rfl, fun w hSw => by go_simp⟩
 try simp only [Act.put, gD, gE, gF]
 refine wpAnyH_take (i := 21) (oi := ?oir421) (v := .slice (some ⟨g, 0, none⟩) m c) ?_ (by kernel_rfl) (by kernel_rfl) (by kernel_rfl) ?_ ?_ hHl ?_
 rotate_left
 · simp only [gA, gB, gC]; rfl
 · exact fun _ _ _ h => h
 · exact Or.inl ⟨by kernel_rfl, fun w hSw => by obtain ⟨s1, s2, s3, s4, s5, s6, s7⟩ := hSw; go_simp⟩
 try simp only [Act.put, gD, gE, gF]
 refine wpAnyH_take (i := 22) (oi := ?oir422) (v := .int .i64 (m : Int)) ?_ (by kernel_rfl) (by kernel_rfl) (by kernel_rfl) ?_ ?_ hHl ?_
 rotate_left
 · simp only [gA, gB, gC]; rfl
 · exact fun _ _ _ h => h
 · exact Or.inl ⟨by kernel_rfl, fun w hSw => by go_simp⟩
 try simp only [Act.put, gD, gE, gF]
 refine wpAnyH_take (i := 23) (oi := ?oir423) (v := .int .i64 ((m : Int) - 1)) ?_ (by kernel_rfl) (by kernel_rfl) (by kernel_rfl) ?_ ?_ hHl ?_
 rotate_left
 · simp only [gA, gB, gC]; rfl
 · exact fun _ _ _ h => h
 · exact Or.inl ⟨by kernel_rfl, fun w hSw => by go_simp⟩
 try simp only [Act.put, gD, gE, gF]
 refine wpAnyH_ready (rs := [24]) (by kernel_rfl) (by simp) (AllReadyH.cons (o := ?oor424) ?_ (fun K hK => ?_) AllReadyH.nil)
 rotate_left
 · simp only [gA, gB, gC]; rfl
 go_simp
 go_at_call 59
 refine (hin2 _).mono ?_
 rintro r wz ⟨rfl, rfl⟩
 try go_wp2_with fail
 refine hK.out _ _ ⟨e1, e2, e3, e4, e5, eP, eG⟩ (fun hHl => ?_)
 clear hK K
 try simp only [Act.put, gD, gE, gF]
 refine wpAnyH_take (i := 25) (oi := ?oir425) (v := .bool false) ?_ (by kernel_rfl) (by kernel_rfl) (by kernel_rfl) ?_ ?_ hHl ?_
 rotate_left
 · simp only [gA, gB, gC]; rfl
 · exact fun _ _ _ h => h
 · exact Or.inl ⟨by kernel_rfl, fun w hSw => by go_simp⟩
 try simp only [Act.put, gD, gE, gF]
 refine wpAnyH_take (i := 26) (oi := ?oir426) (v := .bool false) ?_ (by kernel_rfl) (by kernel_rfl) (by kernel_rfl) ?_ ?_ hHl ?_
 rotate_left
 · simp only [gA, gB, gC]; rfl
 · exact fun _ _ _ h => h
 · exact Or.inl ⟨by kernel_rfl, fun w hSw => by go_simp⟩
 try simp only [Act.put, gD, gE, gF]
 refine wpAnyH_done (by kernel_rfl) ?_ _
 have HD1 : Hid (Do13 w base P G cap 1 i j sk sx sy us (ps) W0.drew) := HD0.out.drew
 clear e0 e1 e2 e3 e4 e5 eP eG fG
 obtain ⟨W1, hW1⟩ : ∃ W1, W0.drew = W1 := ⟨_, rfl⟩
 rw [hW1] at HD1 ⊢
 clear hW1 hin1 hin2
 obtain ⟨e0, e1, e2, e3, e4, e5, eP, eG, fG⟩ := HD1.out.cells HUI.out
 rw [HN.out] at eP
 go_wp2_with fail
 refine wp_region_held_drew (S := fun w' => w'.cell? ⟨w.heap.size, 1, none⟩ = some (.int .i64 (i : Int)) ∧ w'.cell? ⟨w.heap.size, 2, none⟩ = some (.int .i64 (j : Int)) ∧ w'.cell? ⟨w.heap.size, 3, none⟩ = some (.int .i64 sk) ∧ w'.cell? ⟨w.heap.size, 4, none⟩ = some (.int .i64 sx) ∧ w'.cell? ⟨w.heap.size, 5, none⟩ = some (.int .i64 sy) ∧ w'.cell? ⟨P, 0, none⟩ = some (.slice (some ⟨G, 0, none⟩) n cap) ∧ w'.cell? ⟨G, i, none⟩ = some (.slice (some ⟨g, 0, none⟩) m c)) (by kernel_rfl) ⟨e1, e2, e3, e4, e5, eP, eG⟩ (fun hHl => ?_)
 refine wpAnyH_take (i := 0) (oi := ?oir60) (v := .pointer (some ⟨P, 0, none⟩)) ?_ (by kernel_rfl) (by kernel_rfl) (by kernel_rfl) ?_ ?_ hHl ?_
 rotate_left
 · simp only [gA, gB, gC]; rfl
 · exact fun _ _ _ h => h
 · exact Or.inl ⟨by kernel_rfl, fun w hSw => by go_simp⟩
 try simp only [Act.put, gD, gE, gF]
 refine wpAnyH_take (i := 1) (oi := ?oir61) (v := .pointer (some ⟨P, 0, none⟩)) ?_ (by kernel_rfl) (by kernel_rfl) (by kernel_rfl) ?_ ?_ hHl ?_
 rotate_left
 · simp only [gA, gB, gC]; rfl
 · exact fun _ _ _ h => h
 · exact Or.inl ⟨by kernel_rfl, fun w hSw => by go_simp⟩
 try simp only [Act.put, gD, gE, gF]
 refine wpAnyH_take (i := 2) (oi := ?oir62) (v := .pointer (some ⟨P, 0, none⟩)) ?_ (by kernel_rfl) (by kernel_rfl) (by kernel_rfl) ?_ ?_ hHl ?_
 rotate_left
 · simp only [gA, gB, gC]; rfl
 · exact fun _ _ _ h => h
 · exact Or.inl ⟨by kernel_rfl, fun w hSw => by go_simp⟩
 try simp only [Act.put, gD, gE, gF]
 refine wpAnyH_take (i := 3) (oi := ?oir63) (v := .slice (some ⟨G, 0, none⟩) n cap) ?_ (by kernel_rfl) (by kernel_rfl) (by kernel_rfl) ?_ ?_ hHl ?_
 rotate_left
 · simp only [gA, gB, gC]; rfl
 · exact fun _ _ _ h => h
 · exact Or.inl ⟨by kernel_rfl, fun w hSw => by obtain ⟨s1, s2, s3, s4, s5, s6, s7⟩ := hSw; go_simp⟩
 try simp only [Act.put, gD, gE, gF]
 refine wpAnyH_take (i := 4) (oi := ?oir64) (v := .pointer (some ⟨w.heap.size, 1, none⟩)) ?_ (by kernel_rfl) (by kernel_rfl) (by kernel_rfl) ?_ ?_ hHl ?_
 rotate_left
 · simp only [gA, gB, gC]; rfl
 · exact fun _ _ _ h => h
 · exact Or.inl ⟨by kernel_rfl, fun w hSw => by go_simp⟩
 try simp only [Act.put, gD, gE, gF]
 refine wpAnyH_take (i := 5) (oi := ?oir65) (v := .int .i64 (i : Int)) ?_ (by kernel_rfl) (by kernel_rfl) (by kernel_rfl) ?_ ?_ hHl ?_
 rotate_left
 · simp only [gA, gB, gC]; rfl
 · exact fun _ _ _ h => h
 · exact Or.inl ⟨by kernel_rfl, fun w hSw => by obtain ⟨s1, s2, s3, s4, s5, s6, s7⟩ := hSw; go_simp⟩
 try simp only [Act.put, gD, gE, gF]
 refine wpAnyH_take (i := 6) (oi := ?oir66) (v := .pointer (some ⟨G, i, none⟩)) ?_ (by kernel_rfl) (by kernel_rfl) (by kernel_rfl) ?_ ?_ hHl ?_
 rotate_left
 · simp only [gA, gB, gC]; rfl
 · exact fun _ _ _ h => h
 · exact Or.inl ⟨by kernel_rfl, fun w hSw => by go_simp⟩
 try simp only [Act.put, gD, gE, gF]
 refine wpAnyH_take (i := 7) (oi := ?oir67) (v := .pointer (some ⟨G, i, none⟩)) ?_ (by kernel_rfl) (by kernel_rfl) (by kernel_rfl) ?_ ?_ hHl ?_
 rotate_left
 · simp only [gA, gB, gC]; rfl
 · exact fun _ _ _ h => h
 · exact Or.inl ⟨by kernel_rfl, fun w hSw => by go_simp⟩
 try simp only [Act.put, gD, gE, gF]
 refine wpAnyH_done (by kernel_rfl) ?_ _
 have HD2 : Hid (Do13 w base P G cap 1 i j sk sx sy us (ps) W1.drew) := HD1.out.drew
 clear e0 e1 e2 e3 e4 e5 eP eG fG
 obtain ⟨W2, hW2⟩ : ∃ W2, W1.drew = W2 := ⟨_, rfl⟩
 rw [hW2] at HD2 ⊢
 clear hW2
 obtain ⟨e0, e1, e2, e3, e4, e5, eP, eG, fG⟩ := HD2.out.cells HUI.out
 rw [HN.out] at eP
 go_wp2_with fail
 have ow : Hid (W2.drew.ownsRow base 52 3 (.slice (some ⟨g, 0, none⟩) m c) m (ja3 p)) := by (have hh := HD2.out.drew.own.each i _ p HUI.out HPI.out; rw [HPM.out] at hh; exact hh)
 have owB : Hid (W2.ownsRow base 52 3 (.slice (some ⟨g, 0, none⟩) m c) m (ja3 p)) := by (have hh := HD2.out.own.each i _ p HUI.out HPI.out; rw [HPM.out] at hh; exact hh)
 obtain ⟨y0, a0⟩ := jo6 owB.out (j * 3) (by omega)
 obtain ⟨y1, a1⟩ := jo6 owB.out (j * 3 + 1) (by omega)
 obtain ⟨y2, a2⟩ := jo6 owB.out (j * 3 + 2) (by omega)
 have f0 := World.ownsRow.frozenAt owB.out (j * 3)
 have f1 := World.ownsRow.frozenAt owB.out (j * 3 + 1)
 have f2 := World.ownsRow.frozenAt owB.out (j * 3 + 2)
 have HO3 : Hid _ := own_set3 owB.out HPM.out hj sk sx sy
 have HG3 : Hid (W2.grownBy (((W2.setCell ⟨g, j * 3, none⟩ (.int .i64 sk)).setCell ⟨g, j * 3 + 1, none⟩ (.int .i64 sx)).setCell ⟨g, j * 3 + 2, none⟩ (.int .i64 sy)) (some g)) := ja8 (ja8 (jc3 _ _ _ _) (jc3 _ _ _ _)) (jc3 _ _ _ _)
 refine jg2 (S := fun w' => w'.cell? ⟨w.heap.size, 1, none⟩ = some (.int .i64 (i : Int)) ∧ w'.cell? ⟨w.heap.size, 2, none⟩ = some (.int .i64 (j : Int)) ∧ w'.cell? ⟨w.heap.size, 3, none⟩ = some (.int .i64 sk) ∧ w'.cell? ⟨w.heap.size, 4, none⟩ = some (.int .i64 sx) ∧ w'.cell? ⟨w.heap.size, 5, none⟩ = some (.int .i64 sy) ∧ w'.cell? ⟨P, 0, none⟩ = some (.slice (some ⟨G, 0, none⟩) n cap) ∧ w'.cell? ⟨G, i, none⟩ = some (.slice (some ⟨g, 0, none⟩) m c)) (late := fun j => j == 9) (by kernel_rfl) ⟨e1, e2, e3, e4, e5, eP, eG⟩ (fun hHl => ?_)
 refine ja1 (i := 0) (oi := ?oir90) (v := .pointer (some ⟨G, i, none⟩)) ?_ (by kernel_rfl) (by kernel_rfl) (by kernel_rfl) (by kernel_rfl) ?_ ?_ hHl ?_
 rotate_left
 · simp only [gA, gB, gC]; rfl
 · exact fun _ _ _ h => h
 · exact Or.inl ⟨by kernel_rfl, fun w hSw => by go_simp⟩
 try simp only [Act.put, gD, gE, gF]
 refine ja1 (i := 1) (oi := ?oir91) (v := .pointer (some ⟨G, i, none⟩)) ?_ (by kernel_rfl) (by kernel_rfl) (by kernel_rfl) (by kernel_rfl) ?_ ?_ hHl ?_
 rotate_left
 · simp only [gA, gB, gC]; rfl
 · exact fun _ _ _ h => h
 · exact Or.inl ⟨by kernel_rfl, fun w hSw => by go_simp⟩
 try simp only [Act.put, gD, gE, gF]
 refine ja1 (i := 2) (oi := ?oir92) (v := .pointer (some ⟨G, i, none⟩)) ?_ (by kernel_rfl) (by kernel_rfl) (by kernel_rfl) (by kernel_rfl) ?_ ?_ hHl ?_
 rotate_left
 · simp only [gA, gB, gC]; rfl
 · exact fun _ _ _ h => h
 · exact Or.inl ⟨by kernel_rfl, fun w hSw => by go_simp⟩
 try simp only [Act.put, gD, gE, gF]
 refine ja1 (i := 3) (oi := ?oir93) (v := .slice (some ⟨g, 0, none⟩) m c) ?_ (by kernel_rfl) (by kernel_rfl) (by kernel_rfl) (by kernel_rfl) ?_ ?_ hHl ?_
 rotate_left
 · simp only [gA, gB, gC]; rfl
 · exact fun _ _ _ h => h
 · exact Or.inl ⟨by kernel_rfl, fun w hSw => by obtain ⟨s1, s2, s3, s4, s5, s6, s7⟩ := hSw; go_simp⟩
 try simp only [Act.put, gD, gE, gF]
 refine ja1 (i := 4) (oi := ?oir94) (v := .pointer (some ⟨w.heap.size, 2, none⟩)) ?_ (by kernel_rfl) (by kernel_rfl) (by kernel_rfl) (by kernel_rfl) ?_ ?_ hHl ?_
 rotate_left
 · simp only [gA, gB, gC]; rfl
 · exact fun _ _ _ h => h
 · exact Or.inl ⟨by kernel_rfl, fun w hSw => by go_simp⟩
 try simp only [Act.put, gD, gE, gF]
 refine ja1 (i := 5) (oi := ?oir95) (v := .int .i64 (j : Int)) ?_ (by kernel_rfl) (by kernel_rfl) (by kernel_rfl) (by kernel_rfl) ?_ ?_ hHl ?_
 rotate_left
 · simp only [gA, gB, gC]; rfl
 · exact fun _ _ _ h => h
 · exact Or.inl ⟨by kernel_rfl, fun w hSw => by obtain ⟨s1, s2, s3, s4, s5, s6, s7⟩ := hSw; go_simp⟩
 try simp only [Act.put, gD, gE, gF]
 refine ja1 (i := 6) (oi := ?oir96) (v := .pointer (some ⟨w.heap.size, 3, none⟩)) ?_ (by kernel_rfl) (by kernel_rfl) (by kernel_rfl) (by kernel_rfl) ?_ ?_ hHl ?_
 rotate_left
 · simp only [gA, gB, gC]; rfl
 · exact fun _ _ _ h => h
 · exact Or.inl ⟨by kernel_rfl, fun w hSw => by go_simp⟩
 try simp only [Act.put, gD, gE, gF]
 refine ja1 (i := 7) (oi := ?oir97) (v := .agg #[.int .i64 sk, .int .i64 sx, .int .i64 sy]) ?_ (by kernel_rfl) (by kernel_rfl) (by kernel_rfl) (by kernel_rfl) ?_ ?_ hHl ?_
 rotate_left
 · simp only [gA, gB, gC]; rfl
 · exact fun _ _ _ h => h
 · exact Or.inl ⟨by kernel_rfl, fun w hSw => by obtain ⟨s1, s2, s3, s4, s5, s6, s7⟩ := hSw; go_simp⟩
 try simp only [Act.put, gD, gE, gF]
 refine ja7 (rs := [8]) (by kernel_rfl) (by simp) (AllReadyG.cons (o := ?oor98) ?_ (fun K hK => ?_) AllReadyG.nil)
 rotate_left
 · simp only [gA, gB, gC]; rfl
 go_simp
 try go_wp2_with fail
 refine hK.out _ _ (Or.inr ⟨e1, e2, e3, e4, e5, eP, eG⟩) (fun hHl => ?_)
 replace hHl := hHl.resolve_left (by decide)
 clear hK K
 try simp only [Act.put, gD, gE, gF]
 refine ja7 (rs := [9]) (by kernel_rfl) (by simp) (AllReadyG.cons (o := ?oor99) ?_ (fun K hK => ?_) AllReadyG.nil)
 rotate_left
 · simp only [gA, gB, gC]; rfl
 go_simp
 try go_wp2_with fail
 refine hK.out _ _ (Or.inl rfl) (fun _ => ?_)
 clear hK K
 try simp only [Act.put, gD, gE, gF]
 refine jh2 (by kernel_rfl) ?_ _
 have HF := (HD2.out.upd (by rw [HN.out]; exact hi) HUI.out hbase hgb HG3.out (by rw [show (edSet p j ⟨sk, sx, sy⟩).length = m from HEL.out]; exact HO3.out)).drew
 have HFO : Hid _ := HF
 clear HF a0 a1 a2 f0 f1 f2
 generalize (((W2.setCell ⟨g, j * 3, none⟩ (.int .i64 sk)).setCell ⟨g, j * 3 + 1, none⟩ (.int .i64 sx)).setCell ⟨g, j * 3 + 2, none⟩ (.int .i64 sy)).drew = W3 at *
 go_wp2
 go_ret
 refine ⟨rfl, us, ?_, ?_, HFO.out.below⟩
 · have hb := HFO.out.box
   rw [List.length_set, HN.out] at hb
   exact hb
 · have hb := HFO.out.own
   rw [List.length_set, HN.out] at hb
   exact hb
end Go.Proofs.YtldagpfeaabcdaaGreatDoor
