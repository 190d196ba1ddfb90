/-
 spec.l13Do: one statement goes.
-/
import Derived.Test.YtldagpfeaabcdaaGreatDoorDo13N
import Derived.BigRegion
namespace Go.Proofs.YtldagpfeaabcdaaGreatDoor
open Go.RowKit
set_option linter.unusedVariables false
set_option linter.unusedSimpArgs false
set_option maxHeartbeats 8000000
set_option maxRecDepth 20000
theorem l13DoDrop (ps : List (List Stm)) (p : List Stm) (sk sx sy : Int) (i j n m P base G cap g c : Nat) (us : List Value) (w : World) (hn : ps.length = n) (hl : n ≤ 100) (hi : i < n) (hp : ps[i]? = some p) (hm : p.length = m) (hm1 : m ≤ 100) (hj : j < m) (hy : ∀ s ∈ p, 0 ≤ s.y ∧ s.y ≤ 11) (hui : us[i]? = some (.slice (some ⟨g, 0, none⟩) m c)) (hbP : base ≤ P) (hbase : base ≤ w.heap.size)
 (hP : w.heap[P]? = some (.cells #[.slice (some ⟨G, 0, none⟩) n cap] 26 (0, 0))) (hO : Own13 w base (.slice (some ⟨G, 0, none⟩) n cap) us ps) :
 Calls Tryz.prog 50 #[.pointer (some ⟨P, 0, none⟩), .agg #[.int .i64 3, .int .i64 (i : Int), .int .i64 (j : Int), .int .i64 sk, .int .i64 sx, .int .i64 sy]] w fun r w' => r = .returned (.bool (qe5 ⟨sk, sx, sy⟩)) ∧ ∃ vs, w'.heap[P]? = some (.cells #[.slice (some ⟨G, 0, none⟩) n cap] 26 (0, 0)) ∧ Own13 w' base (.slice (some ⟨G, 0, none⟩) n cap) vs (ps.set i (jp3 p j)) ∧ Below base w w' := by
 subst hn
 obtain ⟨i0, hi0, hz0, hz1, hz2⟩ := info_parts js1
 have hbA : Below w.heap.size w (w.alloc (.cells #[.int .i64 3, .int .i64 (i : Int), .int .i64 (j : Int), .int .i64 sk, .int .i64 sx, .int .i64 sy] 54)) := by go_grown
 have hPl : P < w.heap.size := (Array.getElem?_eq_some_iff.1 hP).1
 have D0 : Do13 w base P G cap 3 i j sk sx sy us ps (w.alloc (.cells #[.int .i64 3, .int .i64 (i : Int), .int .i64 (j : Int), .int .i64 sk, .int .i64 sx, .int .i64 sy] 54)) := ⟨heap_alloc_new w _, (hbA.block P hPl).trans hP, hO.kept hbA, hbA.mono hbase, by simp⟩
 have hoi := hO.each i _ p hui hp
 rw [hm] at hoi
 have hgb : base ≤ g := (hoi.lt g rfl).1
 obtain ⟨_, _, _, hmc, hcm, _⟩ := own_open hoi
 unfold maxLen at hcm
 have hGb : base ≤ G := (hO.row.lt G rfl).1
 have hGg : G ≠ g := fun e => jx3 hoi hO.row (by decide) g rfl (by rw [e]; rfl)
 have hEg : w.heap.size ≠ g := by have := (hoi.lt g rfl).2; omega
 obtain ⟨W0, hW0⟩ : ∃ W0, w.alloc (.cells #[.int .i64 3, .int .i64 (i : Int), .int .i64 (j : Int), .int .i64 sk, .int .i64 sx, .int .i64 sy] 54) = W0 := ⟨_, rfl⟩
 rw [hW0] at D0
 have hin1 := l1In (i : Int) 0 ((ps.length : Int) - 1)
 rw [show inB (i : Int) 0 ((ps.length : Int) - 1) = true by simp [inB]; omega] at hin1
 have hin2 := l1In (j : Int) 0 ((m : Int) - 1)
 rw [show inB (j : Int) 0 ((m : Int) - 1) = true by simp [inB]; omega] at hin2
 have hiI : (i : Int) < (ps.length : Int) := by omega
 have hjI : (j : Int) < (m : Int) := by omega
 have hmcI : (m : Int) ≤ (c : Int) := by omega
 have HPM : Hid (p.length = m) := hm
 have HPI : Hid (ps[i]? = some p) := hp
 have HUI : Hid (us[i]? = some (.slice (some ⟨g, 0, none⟩) m c)) := hui
 have hwn : IntKind.i64.wrap ((ps.length : Int) - 1) = (ps.length : Int) - 1 := IntWalk.i64_in _ (by omega)
 have hwm : IntKind.i64.wrap ((m : Int) - 1) = (m : Int) - 1 := IntWalk.i64_in _ (by omega)
 obtain ⟨e0, e1, e2, e3, e4, e5, eP, eG, fG⟩ := D0.cells hui
 have HD0 : Hid (Do13 w base P G cap 3 i j sk sx sy us ps W0) := D0
 clear D0 hoi hui hm hp hO hP hbA
 obtain ⟨n, hN⟩ : ∃ n, ps.length = n := ⟨_, rfl⟩
 rw [hN] at hin1 hiI hwn eP hl hi ⊢
 have HN : Hid (ps.length = n) := hN
 clear hN
 go_enter Tryz.func50, Tryz.ntmps50
 go_wp2_with fail
 refine wp_region_held_drew (S := fun w' => w'.cell? ⟨w.heap.size, 1, none⟩ = some (.int .i64 (i : Int)) ∧ w'.cell? ⟨w.heap.size, 2, none⟩ = some (.int .i64 (j : Int)) ∧ w'.cell? ⟨w.heap.size, 3, none⟩ = some (.int .i64 sk) ∧ w'.cell? ⟨w.heap.size, 4, none⟩ = some (.int .i64 sx) ∧ w'.cell? ⟨w.heap.size, 5, none⟩ = some (.int .i64 sy) ∧ w'.cell? ⟨P, 0, none⟩ = some (.slice (some ⟨G, 0, none⟩) n cap) ∧ w'.cell? ⟨G, i, none⟩ = some (.slice (some ⟨g, 0, none⟩) m c)) (by kernel_rfl) ⟨e1, e2, e3, e4, e5, eP, eG⟩ (fun hHl => ?_)
 refine wpAnyH_take (i := 0) (oi := ?oir40) (v := .pointer (some ⟨w.heap.size, 1, none⟩)) ?_ (by kernel_rfl) (by kernel_rfl) (by kernel_rfl) ?_ ?_ hHl ?_
 rotate_left
 · simp only [gA, gB, gC]; rfl
 · exact fun _ _ _ h => h
 · exact Or.inl ⟨by kernel_rfl, fun w hSw => by go_simp⟩
 try simp only [Act.put, gD, gE, gF]
 refine wpAnyH_take (i := 1) (oi := ?oir41) (v := .int .i64 (i : Int)) ?_ (by kernel_rfl) (by kernel_rfl) (by kernel_rfl) ?_ ?_ hHl ?_
 rotate_left
 · simp only [gA, gB, gC]; rfl
 · exact fun _ _ _ h => h
 · exact Or.inl ⟨by kernel_rfl, fun w hSw => by obtain ⟨s1, s2, s3, s4, s5, s6, s7⟩ := hSw; go_simp⟩
 try simp only [Act.put, gD, gE, gF]
 refine wpAnyH_take (i := 2) (oi := ?oir42) (v := .pointer (some ⟨P, 0, none⟩)) ?_ (by kernel_rfl) (by kernel_rfl) (by kernel_rfl) ?_ ?_ hHl ?_
 rotate_left
 · simp only [gA, gB, gC]; rfl
 · exact fun _ _ _ h => h
 · exact Or.inl ⟨by kernel_rfl, fun w hSw => by go_simp⟩
 try simp only [Act.put, gD, gE, gF]
 refine wpAnyH_take (i := 3) (oi := ?oir43) (v := .pointer (some ⟨P, 0, none⟩)) ?_ (by kernel_rfl) (by kernel_rfl) (by kernel_rfl) ?_ ?_ hHl ?_
 rotate_left
 · simp only [gA, gB, gC]; rfl
 · exact fun _ _ _ h => h
 · exact Or.inl ⟨by kernel_rfl, fun w hSw => by go_simp⟩
 try simp only [Act.put, gD, gE, gF]
 refine wpAnyH_take (i := 4) (oi := ?oir44) (v := .pointer (some ⟨P, 0, none⟩)) ?_ (by kernel_rfl) (by kernel_rfl) (by kernel_rfl) ?_ ?_ hHl ?_
 rotate_left
 · simp only [gA, gB, gC]; rfl
 · exact fun _ _ _ h => h
 · exact Or.inl ⟨by kernel_rfl, fun w hSw => by go_simp⟩
 try simp only [Act.put, gD, gE, gF]
 refine wpAnyH_take (i := 5) (oi := ?oir45) (v := .slice (some ⟨G, 0, none⟩) n cap) ?_ (by kernel_rfl) (by kernel_rfl) (by kernel_rfl) ?_ ?_ hHl ?_
 rotate_left
 · simp only [gA, gB, gC]; rfl
 · exact fun _ _ _ h => h
 · exact Or.inl ⟨by kernel_rfl, fun w hSw => by obtain ⟨s1, s2, s3, s4, s5, s6, s7⟩ := hSw; go_simp⟩
 try simp only [Act.put, gD, gE, gF]
 refine wpAnyH_take (i := 6) (oi := ?oir46) (v := .int .i64 (n : Int)) ?_ (by kernel_rfl) (by kernel_rfl) (by kernel_rfl) ?_ ?_ hHl ?_
 rotate_left
 · simp only [gA, gB, gC]; rfl
 · exact fun _ _ _ h => h
 · exact Or.inl ⟨by kernel_rfl, fun w hSw => by go_simp⟩
 try simp only [Act.put, gD, gE, gF]
 refine wpAnyH_take (i := 7) (oi := ?oir47) (v := .int .i64 ((n : Int) - 1)) ?_ (by kernel_rfl) (by kernel_rfl) (by kernel_rfl) ?_ ?_ hHl ?_
 rotate_left
 · simp only [gA, gB, gC]; rfl
 · exact fun _ _ _ h => h
 · exact Or.inl ⟨by kernel_rfl, fun w hSw => by go_simp⟩
 try simp only [Act.put, gD, gE, gF]
 refine wpAnyH_ready (rs := [8]) (by kernel_rfl) (by simp) (AllReadyH.cons (o := ?oor48) ?_ (fun K hK => ?_) AllReadyH.nil)
 rotate_left
 · simp only [gA, gB, gC]; rfl
 go_simp
 go_at_call 59
 refine (hin1 _).mono ?_
 rintro r wz ⟨rfl, rfl⟩
 try go_wp2_with fail
 refine hK.out _ _ ⟨e1, e2, e3, e4, e5, eP, eG⟩ (fun hHl => ?_)
 clear hK K
 try simp only [Act.put, gD, gE, gF]
 refine wpAnyH_take (i := 9) (oi := ?oir49) (v := .bool false) ?_ (by kernel_rfl) (by kernel_rfl) (by kernel_rfl) ?_ ?_ hHl ?_
 rotate_left
 · simp only [gA, gB, gC]; rfl
 · exact fun _ _ _ h => h
 · exact Or.inl ⟨by kernel_rfl, fun w hSw => by go_simp⟩
 try simp only [Act.put, gD, gE, gF]
 refine wpAnyH_take (i := 10) (oi := ?oir410) (v := .bool false) ?_ (by kernel_rfl) (by kernel_rfl) (by kernel_rfl) ?_ ?_ hHl ?_
 rotate_left
 · simp only [gA, gB, gC]; rfl
 · exact fun _ _ _ h => h
 · exact Or.inl ⟨by kernel_rfl, fun w hSw => by go_simp⟩
 try simp only [Act.put, gD, gE, gF]
 refine wpAnyH_take (i := 11) (oi := ?oir411) (v := .pointer (some ⟨w.heap.size, 2, none⟩)) ?_ (by kernel_rfl) (by kernel_rfl) (by kernel_rfl) ?_ ?_ hHl ?_
 rotate_left
 · simp only [gA, gB, gC]; rfl
 · exact fun _ _ _ h => h
 · exact Or.inl ⟨by kernel_rfl, fun w hSw => by go_simp⟩
 try simp only [Act.put, gD, gE, gF]
 refine wpAnyH_take (i := 12) (oi := ?oir412) (v := .int .i64 (j : Int)) ?_ (by kernel_rfl) (by kernel_rfl) (by kernel_rfl) ?_ ?_ hHl ?_
 rotate_left
 · simp only [gA, gB, gC]; rfl
 · exact fun _ _ _ h => h
 · exact Or.inl ⟨by kernel_rfl, fun w hSw => by obtain ⟨s1, s2, s3, s4, s5, s6, s7⟩ := hSw; go_simp⟩
 try simp only [Act.put, gD, gE, gF]
 refine wpAnyH_take (i := 13) (oi := ?oir413) (v := .pointer (some ⟨P, 0, none⟩)) ?_ (by kernel_rfl) (by kernel_rfl) (by kernel_rfl) ?_ ?_ hHl ?_
 rotate_left
 · simp only [gA, gB, gC]; rfl
 · exact fun _ _ _ h => h
 · exact Or.inl ⟨by kernel_rfl, fun w hSw => by go_simp⟩
 try simp only [Act.put, gD, gE, gF]
 refine wpAnyH_take (i := 14) (oi := ?oir414) (v := .pointer (some ⟨P, 0, none⟩)) ?_ (by kernel_rfl) (by kernel_rfl) (by kernel_rfl) ?_ ?_ hHl ?_
 rotate_left
 · simp only [gA, gB, gC]; rfl
 · exact fun _ _ _ h => h
 · exact Or.inl ⟨by kernel_rfl, fun w hSw => by go_simp⟩
 try simp only [Act.put, gD, gE, gF]
 refine wpAnyH_take (i := 15) (oi := ?oir415) (v := .pointer (some ⟨P, 0, none⟩)) ?_ (by kernel_rfl) (by kernel_rfl) (by kernel_rfl) ?_ ?_ hHl ?_
 rotate_left
 · simp only [gA, gB, gC]; rfl
 · exact fun _ _ _ h => h
 · exact Or.inl ⟨by kernel_rfl, fun w hSw => by go_simp⟩
 try simp only [Act.put, gD, gE, gF]
 refine wpAnyH_take (i := 16) (oi := ?oir416) (v := .slice (some ⟨G, 0, none⟩) n cap) ?_ (by kernel_rfl) (by kernel_rfl) (by kernel_rfl) ?_ ?_ hHl ?_
 rotate_left
 · simp only [gA, gB, gC]; rfl
 · exact fun _ _ _ h => h
 · exact Or.inl ⟨by kernel_rfl, fun w hSw => by obtain ⟨s1, s2, s3, s4, s5, s6, s7⟩ := hSw; go_simp⟩
 try simp only [Act.put, gD, gE, gF]
 refine wpAnyH_take (i := 17) (oi := ?oir417) (v := .pointer (some ⟨w.heap.size, 1, none⟩)) ?_ (by kernel_rfl) (by kernel_rfl) (by kernel_rfl) ?_ ?_ hHl ?_
 rotate_left
 · simp only [gA, gB, gC]; rfl
 · exact fun _ _ _ h => h
 · exact Or.inl ⟨by kernel_rfl, fun w hSw => by go_simp⟩
 try simp only [Act.put, gD, gE, gF]
 refine wpAnyH_take (i := 18) (oi := ?oir418) (v := .int .i64 (i : Int)) ?_ (by kernel_rfl) (by kernel_rfl) (by kernel_rfl) ?_ ?_ hHl ?_
 rotate_left
 · simp only [gA, gB, gC]; rfl
 · exact fun _ _ _ h => h
 · exact Or.inl ⟨by kernel_rfl, fun w hSw => by obtain ⟨s1, s2, s3, s4, s5, s6, s7⟩ := hSw; go_simp⟩
 try simp only [Act.put, gD, gE, gF]
 refine wpAnyH_take (i := 19) (oi := ?oir419) (v := .pointer (some ⟨G, i, none⟩)) ?_ (by kernel_rfl) (by kernel_rfl) (by kernel_rfl) ?_ ?_ hHl ?_
 rotate_left
 · simp only [gA, gB, gC]; rfl
 · exact fun _ _ _ h => h
 · exact Or.inl ⟨by kernel_rfl, fun w hSw => by go_simp⟩
 try simp only [Act.put, gD, gE, gF]
 refine wpAnyH_take (i := 20) (oi := ?oir420) (v := .pointer (some ⟨G, i, none⟩)) ?_ (by kernel_rfl) (by kernel_rfl) (by kernel_rfl) ?_ ?_ hHl ?_
 rotate_left
 · simp only [gA, gB, gC]; rfl
 · exact fun _ _ _ h => h
 · exact Or.inl ⟨by kernel_rfl, fun w hSw => by go_simp⟩
 try simp only [Act.put, gD, gE, gF]
 refine wpAnyH_take (i := 21) (oi := ?oir421) (v := .slice (some ⟨g, 0, none⟩) m c) ?_ (by kernel_rfl) (by kernel_rfl) (by kernel_rfl) ?_ ?_ hHl ?_
 rotate_left
 · simp only [gA, gB, gC]; rfl
 · exact fun _ _ _ h => h
 · exact Or.inl ⟨by kernel_rfl, fun w hSw => by obtain ⟨s1, s2, s3, s4, s5, s6, s7⟩ := hSw; go_simp⟩
 try simp only [Act.put, gD, gE, gF]
 refine wpAnyH_take (i := 22) (oi := ?oir422) (v := .int .i64 (m : Int)) ?_ (by kernel_rfl) (by kernel_rfl) (by kernel_rfl) ?_ ?_ hHl ?_
 rotate_left
 · simp only [gA, gB, gC]; rfl
 · exact fun _ _ _ h => h
 · exact Or.inl ⟨by kernel_rfl, fun w hSw => by go_simp⟩
 try simp only [Act.put, gD, gE, gF]
 refine wpAnyH_take (i := 23) (oi := ?oir423) (v := .int .i64 ((m : Int) - 1)) ?_ (by kernel_rfl) (by kernel_rfl) (by kernel_rfl) ?_ ?_ hHl ?_
 rotate_left
 · simp only [gA, gB, gC]; rfl
 · exact fun _ _ _ h => h
 · exact Or.inl ⟨by kernel_rfl, fun w hSw => by go_simp⟩
 try simp only [Act.put, gD, gE, gF]
 refine wpAnyH_ready (rs := [24]) (by kernel_rfl) (by simp) (AllReadyH.cons (o := ?oor424) ?_ (fun K hK => ?_) AllReadyH.nil)
 rotate_left
 · simp only [gA, gB, gC]; rfl
 go_simp
 go_at_call 59
 refine (hin2 _).mono ?_
 rintro r wz ⟨rfl, rfl⟩
 try go_wp2_with fail
 refine hK.out _ _ ⟨e1, e2, e3, e4, e5, eP, eG⟩ (fun hHl => ?_)
 clear hK K
 try simp only [Act.put, gD, gE, gF]
 refine wpAnyH_take (i := 25) (oi := ?oir425) (v := .bool false) ?_ (by kernel_rfl) (by kernel_rfl) (by kernel_rfl) ?_ ?_ hHl ?_
 rotate_left
 · simp only [gA, gB, gC]; rfl
 · exact fun _ _ _ h => h
 · exact Or.inl ⟨by kernel_rfl, fun w hSw => by go_simp⟩
 try simp only [Act.put, gD, gE, gF]
 refine wpAnyH_take (i := 26) (oi := ?oir426) (v := .bool false) ?_ (by kernel_rfl) (by kernel_rfl) (by kernel_rfl) ?_ ?_ hHl ?_
 rotate_left
 · simp only [gA, gB, gC]; rfl
 · exact fun _ _ _ h => h
 · exact Or.inl ⟨by kernel_rfl, fun w hSw => by go_simp⟩
 try simp only [Act.put, gD, gE, gF]
 refine wpAnyH_done (by kernel_rfl) ?_ _
 have HD1 : Hid (Do13 w base P G cap 3 i j sk sx sy us (ps) W0.drew) := HD0.out.drew
 clear e0 e1 e2 e3 e4 e5 eP eG fG
 obtain ⟨W1, hW1⟩ : ∃ W1, W0.drew = W1 := ⟨_, rfl⟩
 rw [hW1] at HD1 ⊢
 clear hW1 hin1 hin2
 obtain ⟨e0, e1, e2, e3, e4, e5, eP, eG, fG⟩ := HD1.out.cells HUI.out
 rw [HN.out] at eP
 go_wp2_with fail
 refine wp_region_held_drew (S := fun w' => w'.cell? ⟨w.heap.size, 1, none⟩ = some (.int .i64 (i : Int)) ∧ w'.cell? ⟨w.heap.size, 2, none⟩ = some (.int .i64 (j : Int)) ∧ w'.cell? ⟨w.heap.size, 3, none⟩ = some (.int .i64 sk) ∧ w'.cell? ⟨w.heap.size, 4, none⟩ = some (.int .i64 sx) ∧ w'.cell? ⟨w.heap.size, 5, none⟩ = some (.int .i64 sy) ∧ w'.cell? ⟨P, 0, none⟩ = some (.slice (some ⟨G, 0, none⟩) n cap) ∧ w'.cell? ⟨G, i, none⟩ = some (.slice (some ⟨g, 0, none⟩) m c)) (by kernel_rfl) ⟨e1, e2, e3, e4, e5, eP, eG⟩ (fun hHl => ?_)
 refine wpAnyH_take (i := 0) (oi := ?oir60) (v := .pointer (some ⟨P, 0, none⟩)) ?_ (by kernel_rfl) (by kernel_rfl) (by kernel_rfl) ?_ ?_ hHl ?_
 rotate_left
 · simp only [gA, gB, gC]; rfl
 · exact fun _ _ _ h => h
 · exact Or.inl ⟨by kernel_rfl, fun w hSw => by go_simp⟩
 try simp only [Act.put, gD, gE, gF]
 refine wpAnyH_take (i := 1) (oi := ?oir61) (v := .pointer (some ⟨P, 0, none⟩)) ?_ (by kernel_rfl) (by kernel_rfl) (by kernel_rfl) ?_ ?_ hHl ?_
 rotate_left
 · simp only [gA, gB, gC]; rfl
 · exact fun _ _ _ h => h
 · exact Or.inl ⟨by kernel_rfl, fun w hSw => by go_simp⟩
 try simp only [Act.put, gD, gE, gF]
 refine wpAnyH_take (i := 2) (oi := ?oir62) (v := .pointer (some ⟨P, 0, none⟩)) ?_ (by kernel_rfl) (by kernel_rfl) (by kernel_rfl) ?_ ?_ hHl ?_
 rotate_left
 · simp only [gA, gB, gC]; rfl
 · exact fun _ _ _ h => h
 · exact Or.inl ⟨by kernel_rfl, fun w hSw => by go_simp⟩
 try simp only [Act.put, gD, gE, gF]
 refine wpAnyH_take (i := 3) (oi := ?oir63) (v := .slice (some ⟨G, 0, none⟩) n cap) ?_ (by kernel_rfl) (by kernel_rfl) (by kernel_rfl) ?_ ?_ hHl ?_
 rotate_left
 · simp only [gA, gB, gC]; rfl
 · exact fun _ _ _ h => h
 · exact Or.inl ⟨by kernel_rfl, fun w hSw => by obtain ⟨s1, s2, s3, s4, s5, s6, s7⟩ := hSw; go_simp⟩
 try simp only [Act.put, gD, gE, gF]
 refine wpAnyH_take (i := 4) (oi := ?oir64) (v := .pointer (some ⟨w.heap.size, 1, none⟩)) ?_ (by kernel_rfl) (by kernel_rfl) (by kernel_rfl) ?_ ?_ hHl ?_
 rotate_left
 · simp only [gA, gB, gC]; rfl
 · exact fun _ _ _ h => h
 · exact Or.inl ⟨by kernel_rfl, fun w hSw => by go_simp⟩
 try simp only [Act.put, gD, gE, gF]
 refine wpAnyH_take (i := 5) (oi := ?oir65) (v := .int .i64 (i : Int)) ?_ (by kernel_rfl) (by kernel_rfl) (by kernel_rfl) ?_ ?_ hHl ?_
 rotate_left
 · simp only [gA, gB, gC]; rfl
 · exact fun _ _ _ h => h
 · exact Or.inl ⟨by kernel_rfl, fun w hSw => by obtain ⟨s1, s2, s3, s4, s5, s6, s7⟩ := hSw; go_simp⟩
 try simp only [Act.put, gD, gE, gF]
 refine wpAnyH_take (i := 6) (oi := ?oir66) (v := .pointer (some ⟨G, i, none⟩)) ?_ (by kernel_rfl) (by kernel_rfl) (by kernel_rfl) ?_ ?_ hHl ?_
 rotate_left
 · simp only [gA, gB, gC]; rfl
 · exact fun _ _ _ h => h
 · exact Or.inl ⟨by kernel_rfl, fun w hSw => by go_simp⟩
 try simp only [Act.put, gD, gE, gF]
 refine wpAnyH_take (i := 7) (oi := ?oir67) (v := .pointer (some ⟨G, i, none⟩)) ?_ (by kernel_rfl) (by kernel_rfl) (by kernel_rfl) ?_ ?_ hHl ?_
 rotate_left
 · simp only [gA, gB, gC]; rfl
 · exact fun _ _ _ h => h
 · exact Or.inl ⟨by kernel_rfl, fun w hSw => by go_simp⟩
 try simp only [Act.put, gD, gE, gF]
 refine wpAnyH_done (by kernel_rfl) ?_ _
 have HD2 : Hid (Do13 w base P G cap 3 i j sk sx sy us (ps) W1.drew) := HD1.out.drew
 clear e0 e1 e2 e3 e4 e5 eP eG fG
 obtain ⟨W2, hW2⟩ : ∃ W2, W1.drew = W2 := ⟨_, rfl⟩
 rw [hW2] at HD2 ⊢
 clear hW2
 obtain ⟨e0, e1, e2, e3, e4, e5, eP, eG, fG⟩ := HD2.out.cells HUI.out
 rw [HN.out] at eP
 go_wp2_with fail
 have HD3 : Hid (Do13 w base P G cap 3 i j sk sx sy us (ps.set i (je6 ((j : Int) + 1) (-1) p 0)) W2) := by
  rw [qe1, qh8 HPI.out]
  exact HD2.out
 clear e0 e1 e2 e3 e4 e5 eP eG fG
 go_loopw [8] (fun q wr => ∃ t : Nat, t ≤ m ∧ q = .int .i64 t ∧ Do13 w base P G cap 3 i j sk sx sy us (ps.set i (je6 ((j : Int) + 1) (-1) p t)) wr) (fun q _ => m - (intOf q).toNat)
 case atStart => exact ⟨0, Nat.zero_le _, rfl, HD3.out⟩
 case round =>
  obtain ⟨t, ht, rfl, DR⟩ := hrel
  obtain ⟨e0, e1, e2, e3, e4, e5, eP, eG, fG⟩ := DR.cells HUI.out
  rw [List.length_set, HN.out] at eP
  have HDR : Hid (Do13 w base P G cap 3 i j sk sx sy us (ps.set i (je6 ((j : Int) + 1) (-1) p t)) wr) := DR
  clear DR
  by_cases hlt : t < m
  · have hltI : (t : Int) < (m : Int) := by omega
    have htp : t < p.length := by rw [HPM.out]; exact hlt
    have HPL : Hid ((je6 ((j : Int) + 1) (-1) p t).length = m) := by (show _ = _; rw [jp8 _ _ _ _ (by omega)]; exact HPM.out)
    have ow : Hid (wr.ownsRow base 52 3 (.slice (some ⟨g, 0, none⟩) m c) m (ja3 (je6 ((j : Int) + 1) (-1) p t))) := HDR.out.row (by rw [HN.out]; exact hi) HUI.out HPL.out
    have hget := jy7 ((j : Int) + 1) (-1) p t htp
    have hce := jk7 _ t _ hget
    obtain ⟨hy0, hy1⟩ := hy p[t] (List.getElem_mem htp)
    have hset := fun y => jo1 (je6 ((j : Int) + 1) (-1) p t) t p[t] y hget
    have hsuc := ju1 ((j : Int) + 1) (-1) p t htp
    have hsam := qc7 ((j : Int) + 1) (-1) p t htp
    have hjy := @jmp_yes ((j : Int) + 1) (-1) p[t]
    have hjn := @jmp_no ((j : Int) + 1) (-1) p[t]
    generalize p[t] = s at *
    obtain ⟨tk, tx, ty⟩ := s
    simp only at *
    have HC : Hid _ := hce
    have HSET : Hid _ := hset
    have HSUC : Hid _ := hsuc
    have HSAM : Hid _ := hsam
    have HJN : Hid _ := hjn
    have q0 := (World.ownsRow.cellAt ow.out (t * 3) (by omega)).trans HC.out.1
    have q2 := (World.ownsRow.cellAt ow.out (t * 3 + 2) (by omega)).trans HC.out.2.2
    clear hget hce hset hsuc hsam hjn
    by_cases hk7 : tk = 7
    · subst hk7
      by_cases hcp : ((j : Int) + 1 : Int) ≤ ty
      · have HJY : Hid _ := hjy rfl hcp
        clear hjy
        have hcd : (j : Int) < ty := by omega
        go_wp2_with fail
        refine wp_region_held_drew (S := fun w' => w'.cell? ⟨w.heap.size, 1, none⟩ = some (.int .i64 (i : Int)) ∧ w'.cell? ⟨w.heap.size, 2, none⟩ = some (.int .i64 (j : Int)) ∧ w'.cell? ⟨w.heap.size, 3, none⟩ = some (.int .i64 sk) ∧ w'.cell? ⟨w.heap.size, 4, none⟩ = some (.int .i64 sx) ∧ w'.cell? ⟨w.heap.size, 5, none⟩ = some (.int .i64 sy) ∧ w'.cell? ⟨P, 0, none⟩ = some (.slice (some ⟨G, 0, none⟩) n cap) ∧ w'.cell? ⟨G, i, none⟩ = some (.slice (some ⟨g, 0, none⟩) m c) ∧ w'.cell? ⟨g, t * 3, none⟩ = some (.int .i64 7) ∧ w'.cell? ⟨g, t * 3 + 2, none⟩ = some (.int .i64 ty)) (by kernel_rfl) ⟨e1, e2, e3, e4, e5, eP, eG, q0, q2⟩ (fun hHl => ?_)
        refine wpAnyH_take (i := 0) (oi := ?oig15a0) (v := .pointer (some ⟨G, i, none⟩)) ?_ (by kernel_rfl) (by kernel_rfl) (by kernel_rfl) ?_ ?_ hHl ?_
        rotate_left
        · simp only [gA, gB, gC]; rfl
        · exact fun _ _ _ h => h
        · exact Or.inl ⟨by kernel_rfl, fun w hSw => by go_simp⟩
        try simp only [Act.put, gD, gE, gF]
        refine wpAnyH_take (i := 1) (oi := ?oig15a1) (v := .pointer (some ⟨G, i, none⟩)) ?_ (by kernel_rfl) (by kernel_rfl) (by kernel_rfl) ?_ ?_ hHl ?_
        rotate_left
        · simp only [gA, gB, gC]; rfl
        · exact fun _ _ _ h => h
        · exact Or.inl ⟨by kernel_rfl, fun w hSw => by go_simp⟩
        try simp only [Act.put, gD, gE, gF]
        refine wpAnyH_take (i := 2) (oi := ?oig15a2) (v := .pointer (some ⟨G, i, none⟩)) ?_ (by kernel_rfl) (by kernel_rfl) (by kernel_rfl) ?_ ?_ hHl ?_
        rotate_left
        · simp only [gA, gB, gC]; rfl
        · exact fun _ _ _ h => h
        · exact Or.inl ⟨by kernel_rfl, fun w hSw => by go_simp⟩
        try simp only [Act.put, gD, gE, gF]
        refine wpAnyH_take (i := 3) (oi := ?oig15a3) (v := .slice (some ⟨g, 0, none⟩) m c) ?_ (by kernel_rfl) (by kernel_rfl) (by kernel_rfl) ?_ ?_ hHl ?_
        rotate_left
        · simp only [gA, gB, gC]; rfl
        · exact fun _ _ _ h => h
        · exact Or.inl ⟨by kernel_rfl, fun w hSw => by obtain ⟨s1, s2, s3, s4, s5, s6, s7, s8, s9⟩ := hSw; go_simp⟩
        try simp only [Act.put, gD, gE, gF]
        refine wpAnyH_take (i := 4) (oi := ?oig15a4) (v := .int .i64 (t : Int)) ?_ (by kernel_rfl) (by kernel_rfl) (by kernel_rfl) ?_ ?_ hHl ?_
        rotate_left
        · simp only [gA, gB, gC]; rfl
        · exact fun _ _ _ h => h
        · exact Or.inl ⟨by kernel_rfl, fun w hSw => by go_simp⟩
        try simp only [Act.put, gD, gE, gF]
        refine wpAnyH_take (i := 5) (oi := ?oig15a5) (v := .pointer (some ⟨g, t * 3, none⟩)) ?_ (by kernel_rfl) (by kernel_rfl) (by kernel_rfl) ?_ ?_ hHl ?_
        rotate_left
        · simp only [gA, gB, gC]; rfl
        · exact fun _ _ _ h => h
        · exact Or.inl ⟨by kernel_rfl, fun w hSw => by go_simp⟩
        try simp only [Act.put, gD, gE, gF]
        refine wpAnyH_take (i := 6) (oi := ?oig15a6) (v := .pointer (some ⟨g, t * 3, none⟩)) ?_ (by kernel_rfl) (by kernel_rfl) (by kernel_rfl) ?_ ?_ hHl ?_
        rotate_left
        · simp only [gA, gB, gC]; rfl
        · exact fun _ _ _ h => h
        · exact Or.inl ⟨by kernel_rfl, fun w hSw => by go_simp⟩
        try simp only [Act.put, gD, gE, gF]
        refine wpAnyH_take (i := 7) (oi := ?oig15a7) (v := .int .i64 7) ?_ (by kernel_rfl) (by kernel_rfl) (by kernel_rfl) ?_ ?_ hHl ?_
        rotate_left
        · simp only [gA, gB, gC]; rfl
        · exact fun _ _ _ h => h
        · exact Or.inl ⟨by kernel_rfl, fun w hSw => by obtain ⟨s1, s2, s3, s4, s5, s6, s7, s8, s9⟩ := hSw; go_simp⟩
        try simp only [Act.put, gD, gE, gF]
        refine wpAnyH_take (i := 8) (oi := ?oig15a8) (v := .bool true) ?_ (by kernel_rfl) (by kernel_rfl) (by kernel_rfl) ?_ ?_ hHl ?_
        rotate_left
        · simp only [gA, gB, gC]; rfl
        · exact fun _ _ _ h => h
        · exact Or.inl ⟨by kernel_rfl, fun w hSw => by go_simp⟩
        try simp only [Act.put, gD, gE, gF]
        refine wpAnyH_take (i := 9) (oi := ?oig15a9) (v := .bool true) ?_ (by kernel_rfl) (by kernel_rfl) (by kernel_rfl) ?_ ?_ hHl ?_
        rotate_left
        · simp only [gA, gB, gC]; rfl
        · exact fun _ _ _ h => h
        · exact Or.inl ⟨by kernel_rfl, fun w hSw => by go_simp⟩
        try simp only [Act.put, gD, gE, gF]
        refine wpAnyH_take (i := 10) (oi := ?oig15a10) (v := .pointer (some ⟨G, i, none⟩)) ?_ (by kernel_rfl) (by kernel_rfl) (by kernel_rfl) ?_ ?_ hHl ?_
        rotate_left
        · simp only [gA, gB, gC]; rfl
        · exact fun _ _ _ h => h
        · exact Or.inl ⟨by kernel_rfl, fun w hSw => by go_simp⟩
        try simp only [Act.put, gD, gE, gF]
        refine wpAnyH_take (i := 11) (oi := ?oig15a11) (v := .pointer (some ⟨G, i, none⟩)) ?_ (by kernel_rfl) (by kernel_rfl) (by kernel_rfl) ?_ ?_ hHl ?_
        rotate_left
        · simp only [gA, gB, gC]; rfl
        · exact fun _ _ _ h => h
        · exact Or.inl ⟨by kernel_rfl, fun w hSw => by go_simp⟩
        try simp only [Act.put, gD, gE, gF]
        refine wpAnyH_take (i := 12) (oi := ?oig15a12) (v := .pointer (some ⟨G, i, none⟩)) ?_ (by kernel_rfl) (by kernel_rfl) (by kernel_rfl) ?_ ?_ hHl ?_
        rotate_left
        · simp only [gA, gB, gC]; rfl
        · exact fun _ _ _ h => h
        · exact Or.inl ⟨by kernel_rfl, fun w hSw => by go_simp⟩
        try simp only [Act.put, gD, gE, gF]
        refine wpAnyH_take (i := 13) (oi := ?oig15a13) (v := .slice (some ⟨g, 0, none⟩) m c) ?_ (by kernel_rfl) (by kernel_rfl) (by kernel_rfl) ?_ ?_ hHl ?_
        rotate_left
        · simp only [gA, gB, gC]; rfl
        · exact fun _ _ _ h => h
        · exact Or.inl ⟨by kernel_rfl, fun w hSw => by obtain ⟨s1, s2, s3, s4, s5, s6, s7, s8, s9⟩ := hSw; go_simp⟩
        try simp only [Act.put, gD, gE, gF]
        refine wpAnyH_take (i := 14) (oi := ?oig15a14) (v := .int .i64 (t : Int)) ?_ (by kernel_rfl) (by kernel_rfl) (by kernel_rfl) ?_ ?_ hHl ?_
        rotate_left
        · simp only [gA, gB, gC]; rfl
        · exact fun _ _ _ h => h
        · exact Or.inl ⟨by kernel_rfl, fun w hSw => by go_simp⟩
        try simp only [Act.put, gD, gE, gF]
        refine wpAnyH_take (i := 15) (oi := ?oig15a15) (v := .pointer (some ⟨g, t * 3, none⟩)) ?_ (by kernel_rfl) (by kernel_rfl) (by kernel_rfl) ?_ ?_ hHl ?_
        rotate_left
        · simp only [gA, gB, gC]; rfl
        · exact fun _ _ _ h => h
        · exact Or.inl ⟨by kernel_rfl, fun w hSw => by go_simp⟩
        try simp only [Act.put, gD, gE, gF]
        refine wpAnyH_take (i := 16) (oi := ?oig15a16) (v := .pointer (some ⟨g, t * 3 + 2, none⟩)) ?_ (by kernel_rfl) (by kernel_rfl) (by kernel_rfl) ?_ ?_ hHl ?_
        rotate_left
        · simp only [gA, gB, gC]; rfl
        · exact fun _ _ _ h => h
        · exact Or.inl ⟨by kernel_rfl, fun w hSw => by go_simp⟩
        try simp only [Act.put, gD, gE, gF]
        refine wpAnyH_take (i := 17) (oi := ?oig15a17) (v := .int .i64 ty) ?_ (by kernel_rfl) (by kernel_rfl) (by kernel_rfl) ?_ ?_ hHl ?_
        rotate_left
        · simp only [gA, gB, gC]; rfl
        · exact fun _ _ _ h => h
        · exact Or.inl ⟨by kernel_rfl, fun w hSw => by obtain ⟨s1, s2, s3, s4, s5, s6, s7, s8, s9⟩ := hSw; go_simp⟩
        try simp only [Act.put, gD, gE, gF]
        refine wpAnyH_take (i := 18) (oi := ?oig15a18) (v := .pointer (some ⟨w.heap.size, 2, none⟩)) ?_ (by kernel_rfl) (by kernel_rfl) (by kernel_rfl) ?_ ?_ hHl ?_
        rotate_left
        · simp only [gA, gB, gC]; rfl
        · exact fun _ _ _ h => h
        · exact Or.inl ⟨by kernel_rfl, fun w hSw => by go_simp⟩
        try simp only [Act.put, gD, gE, gF]
        refine wpAnyH_take (i := 19) (oi := ?oig15a19) (v := .int .i64 (j : Int)) ?_ (by kernel_rfl) (by kernel_rfl) (by kernel_rfl) ?_ ?_ hHl ?_
        rotate_left
        · simp only [gA, gB, gC]; rfl
        · exact fun _ _ _ h => h
        · exact Or.inl ⟨by kernel_rfl, fun w hSw => by obtain ⟨s1, s2, s3, s4, s5, s6, s7, s8, s9⟩ := hSw; go_simp⟩
        try simp only [Act.put, gD, gE, gF]
        refine wpAnyH_take (i := 20) (oi := ?oig15a20) (v := .bool true) ?_ (by kernel_rfl) (by kernel_rfl) (by kernel_rfl) ?_ ?_ hHl ?_
        rotate_left
        · simp only [gA, gB, gC]; rfl
        · exact fun _ _ _ h => h
        · exact Or.inl ⟨by kernel_rfl, fun w hSw => by go_simp⟩
        try simp only [Act.put, gD, gE, gF]
        refine wpAnyH_take (i := 21) (oi := ?oig15a21) (v := .bool true) ?_ (by kernel_rfl) (by kernel_rfl) (by kernel_rfl) ?_ ?_ hHl ?_
        rotate_left
        · simp only [gA, gB, gC]; rfl
        · exact fun _ _ _ h => h
        · exact Or.inl ⟨by kernel_rfl, fun w hSw => by go_simp⟩
        try simp only [Act.put, gD, gE, gF]
        refine wpAnyH_done (by kernel_rfl) ?_ _
        have HE : Hid (Do13 w base P G cap 3 i j sk sx sy us (ps.set i (je6 ((j : Int) + 1) (-1) p t)) wr.drew) := (HDR.out).drew
        clear e0 e1 e2 e3 e4 e5 eP eG fG q0 q2
        generalize wr.drew = w3 at *
        obtain ⟨e0, e1, e2, e3, e4, e5, eP, eG, fG⟩ := HE.out.cells HUI.out
        rw [List.length_set, HN.out] at eP
        have ow3 : Hid (w3.ownsRow base 52 3 (.slice (some ⟨g, 0, none⟩) m c) m (ja3 (je6 ((j : Int) + 1) (-1) p t))) := HE.out.row (by rw [HN.out]; exact hi) HUI.out HPL.out
        have q0 := (World.ownsRow.cellAt ow3.out (t * 3) (by omega)).trans HC.out.1
        have q2 := (World.ownsRow.cellAt ow3.out (t * 3 + 2) (by omega)).trans HC.out.2.2
        have f2 := World.ownsRow.frozenAt ow3.out (t * 3 + 2)
        have hwy : IntKind.i64.wrap (ty + -1) = ty + -1 := IntWalk.i64_in _ (by omega)
        have hwz : IntKind.i64.wrap (ty - 1) = ty + -1 := by rw [show ty - 1 = ty + -1 by omega]; exact hwy
        have hwz2 : ty - 1 = ty + -1 := by omega
        go_wp2_with fail
        refine jg2 (S := fun w' => w'.cell? ⟨w.heap.size, 1, none⟩ = some (.int .i64 (i : Int)) ∧ w'.cell? ⟨w.heap.size, 2, none⟩ = some (.int .i64 (j : Int)) ∧ w'.cell? ⟨w.heap.size, 3, none⟩ = some (.int .i64 sk) ∧ w'.cell? ⟨w.heap.size, 4, none⟩ = some (.int .i64 sx) ∧ w'.cell? ⟨w.heap.size, 5, none⟩ = some (.int .i64 sy) ∧ w'.cell? ⟨P, 0, none⟩ = some (.slice (some ⟨G, 0, none⟩) n cap) ∧ w'.cell? ⟨G, i, none⟩ = some (.slice (some ⟨g, 0, none⟩) m c) ∧ w'.cell? ⟨g, t * 3, none⟩ = some (.int .i64 7) ∧ w'.cell? ⟨g, t * 3 + 2, none⟩ = some (.int .i64 ty)) (late := fun j => j == 16) (by kernel_rfl) ⟨e1, e2, e3, e4, e5, eP, eG, q0, q2⟩ (fun hHl => ?_)
        refine ja1 (i := 0) (oi := ?oig160) (v := .pointer (some ⟨G, i, none⟩)) ?_ (by kernel_rfl) (by kernel_rfl) (by kernel_rfl) (by kernel_rfl) ?_ ?_ hHl ?_
        rotate_left
        · simp only [gA, gB, gC]; rfl
        · exact fun _ _ _ h => h
        · exact Or.inl ⟨by kernel_rfl, fun w hSw => by go_simp⟩
        try simp only [Act.put, gD, gE, gF]
        refine ja1 (i := 1) (oi := ?oig161) (v := .pointer (some ⟨G, i, none⟩)) ?_ (by kernel_rfl) (by kernel_rfl) (by kernel_rfl) (by kernel_rfl) ?_ ?_ hHl ?_
        rotate_left
        · simp only [gA, gB, gC]; rfl
        · exact fun _ _ _ h => h
        · exact Or.inl ⟨by kernel_rfl, fun w hSw => by go_simp⟩
        try simp only [Act.put, gD, gE, gF]
        refine ja1 (i := 2) (oi := ?oig162) (v := .pointer (some ⟨G, i, none⟩)) ?_ (by kernel_rfl) (by kernel_rfl) (by kernel_rfl) (by kernel_rfl) ?_ ?_ hHl ?_
        rotate_left
        · simp only [gA, gB, gC]; rfl
        · exact fun _ _ _ h => h
        · exact Or.inl ⟨by kernel_rfl, fun w hSw => by go_simp⟩
        try simp only [Act.put, gD, gE, gF]
        refine ja1 (i := 3) (oi := ?oig163) (v := .slice (some ⟨g, 0, none⟩) m c) ?_ (by kernel_rfl) (by kernel_rfl) (by kernel_rfl) (by kernel_rfl) ?_ ?_ hHl ?_
        rotate_left
        · simp only [gA, gB, gC]; rfl
        · exact fun _ _ _ h => h
        · exact Or.inl ⟨by kernel_rfl, fun w hSw => by obtain ⟨s1, s2, s3, s4, s5, s6, s7, s8, s9⟩ := hSw; go_simp⟩
        try simp only [Act.put, gD, gE, gF]
        refine ja1 (i := 4) (oi := ?oig164) (v := .int .i64 (t : Int)) ?_ (by kernel_rfl) (by kernel_rfl) (by kernel_rfl) (by kernel_rfl) ?_ ?_ hHl ?_
        rotate_left
        · simp only [gA, gB, gC]; rfl
        · exact fun _ _ _ h => h
        · exact Or.inl ⟨by kernel_rfl, fun w hSw => by go_simp⟩
        try simp only [Act.put, gD, gE, gF]
        refine ja1 (i := 5) (oi := ?oig165) (v := .pointer (some ⟨G, i, none⟩)) ?_ (by kernel_rfl) (by kernel_rfl) (by kernel_rfl) (by kernel_rfl) ?_ ?_ hHl ?_
        rotate_left
        · simp only [gA, gB, gC]; rfl
        · exact fun _ _ _ h => h
        · exact Or.inl ⟨by kernel_rfl, fun w hSw => by go_simp⟩
        try simp only [Act.put, gD, gE, gF]
        refine ja1 (i := 6) (oi := ?oig166) (v := .pointer (some ⟨G, i, none⟩)) ?_ (by kernel_rfl) (by kernel_rfl) (by kernel_rfl) (by kernel_rfl) ?_ ?_ hHl ?_
        rotate_left
        · simp only [gA, gB, gC]; rfl
        · exact fun _ _ _ h => h
        · exact Or.inl ⟨by kernel_rfl, fun w hSw => by go_simp⟩
        try simp only [Act.put, gD, gE, gF]
        refine ja1 (i := 7) (oi := ?oig167) (v := .pointer (some ⟨G, i, none⟩)) ?_ (by kernel_rfl) (by kernel_rfl) (by kernel_rfl) (by kernel_rfl) ?_ ?_ hHl ?_
        rotate_left
        · simp only [gA, gB, gC]; rfl
        · exact fun _ _ _ h => h
        · exact Or.inl ⟨by kernel_rfl, fun w hSw => by go_simp⟩
        try simp only [Act.put, gD, gE, gF]
        refine ja1 (i := 8) (oi := ?oig168) (v := .slice (some ⟨g, 0, none⟩) m c) ?_ (by kernel_rfl) (by kernel_rfl) (by kernel_rfl) (by kernel_rfl) ?_ ?_ hHl ?_
        rotate_left
        · simp only [gA, gB, gC]; rfl
        · exact fun _ _ _ h => h
        · exact Or.inl ⟨by kernel_rfl, fun w hSw => by obtain ⟨s1, s2, s3, s4, s5, s6, s7, s8, s9⟩ := hSw; go_simp⟩
        try simp only [Act.put, gD, gE, gF]
        refine ja1 (i := 9) (oi := ?oig169) (v := .int .i64 (t : Int)) ?_ (by kernel_rfl) (by kernel_rfl) (by kernel_rfl) (by kernel_rfl) ?_ ?_ hHl ?_
        rotate_left
        · simp only [gA, gB, gC]; rfl
        · exact fun _ _ _ h => h
        · exact Or.inl ⟨by kernel_rfl, fun w hSw => by go_simp⟩
        try simp only [Act.put, gD, gE, gF]
        refine ja1 (i := 10) (oi := ?oig1610) (v := .pointer (some ⟨g, t * 3, none⟩)) ?_ (by kernel_rfl) (by kernel_rfl) (by kernel_rfl) (by kernel_rfl) ?_ ?_ hHl ?_
        rotate_left
        · simp only [gA, gB, gC]; rfl
        · exact fun _ _ _ h => h
        · exact Or.inl ⟨by kernel_rfl, fun w hSw => by go_simp⟩
        try simp only [Act.put, gD, gE, gF]
        refine ja1 (i := 11) (oi := ?oig1611) (v := .pointer (some ⟨g, t * 3 + 2, none⟩)) ?_ (by kernel_rfl) (by kernel_rfl) (by kernel_rfl) (by kernel_rfl) ?_ ?_ hHl ?_
        rotate_left
        · simp only [gA, gB, gC]; rfl
        · exact fun _ _ _ h => h
        · exact Or.inl ⟨by kernel_rfl, fun w hSw => by go_simp⟩
        try simp only [Act.put, gD, gE, gF]
        refine ja1 (i := 12) (oi := ?oig1612) (v := .int .i64 ty) ?_ (by kernel_rfl) (by kernel_rfl) (by kernel_rfl) (by kernel_rfl) ?_ ?_ hHl ?_
        rotate_left
        · simp only [gA, gB, gC]; rfl
        · exact fun _ _ _ h => h
        · exact Or.inl ⟨by kernel_rfl, fun w hSw => by obtain ⟨s1, s2, s3, s4, s5, s6, s7, s8, s9⟩ := hSw; go_simp⟩
        try simp only [Act.put, gD, gE, gF]
        refine ja1 (i := 13) (oi := ?oig1613) (v := .int .i64 (ty + -1)) ?_ (by kernel_rfl) (by kernel_rfl) (by kernel_rfl) (by kernel_rfl) ?_ ?_ hHl ?_
        rotate_left
        · simp only [gA, gB, gC]; rfl
        · exact fun _ _ _ h => h
        · exact Or.inl ⟨by kernel_rfl, fun w hSw => by go_simp⟩
        try simp only [Act.put, gD, gE, gF]
        refine ja7 (rs := [14]) (by kernel_rfl) (by simp) (AllReadyG.cons (o := ?oog1614) ?_ (fun K hK => ?_) AllReadyG.nil)
        rotate_left
        · simp only [gA, gB, gC]; rfl
        go_simp
        try go_wp2_with fail
        refine hK.out _ _ (Or.inr ⟨e1, e2, e3, e4, e5, eP, eG, q0, q2⟩) (fun hHl => ?_)
        replace hHl := hHl.resolve_left (by decide)
        clear hK K
        try simp only [Act.put, gD, gE, gF]
        refine ja7 (rs := [15]) (by kernel_rfl) (by simp) (AllReadyG.cons (o := ?oog1615) ?_ (fun K hK => ?_) AllReadyG.nil)
        rotate_left
        · simp only [gA, gB, gC]; rfl
        go_simp
        try go_wp2_with fail
        refine hK.out _ _ (Or.inr ⟨e1, e2, e3, e4, e5, eP, eG, q0, q2⟩) (fun hHl => ?_)
        replace hHl := hHl.resolve_left (by decide)
        clear hK K
        try simp only [Act.put, gD, gE, gF]
        refine ja7 (rs := [16]) (by kernel_rfl) (by simp) (AllReadyG.cons (o := ?oog1616) ?_ (fun K hK => ?_) AllReadyG.nil)
        rotate_left
        · simp only [gA, gB, gC]; rfl
        go_simp
        try go_wp2_with fail
        refine hK.out _ _ (Or.inl rfl) (fun _ => ?_)
        clear hK K
        try simp only [Act.put, gD, gE, gF]
        refine jh2 (by kernel_rfl) ?_ _
        have HE3 : Hid (Do13 w base P G cap 3 i j sk sx sy us (ps.set i (je6 ((j : Int) + 1) (-1) p (t + 1))) ((w3.setCell ⟨g, t * 3 + 2, none⟩ (.int .i64 (ty + -1))).drew)) := by
         have h5 := (World.ownsRow.stored ow3.out (t * 3 + 2) (.int .i64 (ty + -1))).1
         rw [HSET.out (ty + -1)] at h5
         have h6 := (HE.out).upd (L := (je6 ((j : Int) + 1) (-1) p t).set t ⟨7, tx, ty + -1⟩) (by simp [HN.out]; exact hi) HUI.out hbase hgb (jc3 w3 g (t * 3 + 2) (.int .i64 (ty + -1))) (by rw [List.length_set, HPL.out]; exact h5)
         rw [List.set_set] at h6
         rw [show je6 ((j : Int) + 1) (-1) p (t + 1) = (je6 ((j : Int) + 1) (-1) p t).set t ⟨7, tx, ty + -1⟩ by rw [HSUC.out, HJY.out]]
         exact h6.drew
        generalize (w3.setCell ⟨g, t * 3 + 2, none⟩ (.int .i64 (ty + -1))).drew = w4 at *
        go_wp2
        go_roundw
        case rel => exact ⟨t + 1, by omega, by go_num, HE3.out⟩
        case measure => simp [intOf]; omega
      · have HNJ : Hid _ := fun h : (7 : Int) = 7 ∧ ((j : Int) + 1 : Int) ≤ ty => hcp h.2
        clear hjy
        have hcd : ¬ (j : Int) < ty := by omega
        go_wp2_with fail
        refine wp_region_held_drew (S := fun w' => w'.cell? ⟨w.heap.size, 1, none⟩ = some (.int .i64 (i : Int)) ∧ w'.cell? ⟨w.heap.size, 2, none⟩ = some (.int .i64 (j : Int)) ∧ w'.cell? ⟨w.heap.size, 3, none⟩ = some (.int .i64 sk) ∧ w'.cell? ⟨w.heap.size, 4, none⟩ = some (.int .i64 sx) ∧ w'.cell? ⟨w.heap.size, 5, none⟩ = some (.int .i64 sy) ∧ w'.cell? ⟨P, 0, none⟩ = some (.slice (some ⟨G, 0, none⟩) n cap) ∧ w'.cell? ⟨G, i, none⟩ = some (.slice (some ⟨g, 0, none⟩) m c) ∧ w'.cell? ⟨g, t * 3, none⟩ = some (.int .i64 7) ∧ w'.cell? ⟨g, t * 3 + 2, none⟩ = some (.int .i64 ty)) (by kernel_rfl) ⟨e1, e2, e3, e4, e5, eP, eG, q0, q2⟩ (fun hHl => ?_)
        refine wpAnyH_take (i := 0) (oi := ?oig15b0) (v := .pointer (some ⟨G, i, none⟩)) ?_ (by kernel_rfl) (by kernel_rfl) (by kernel_rfl) ?_ ?_ hHl ?_
        rotate_left
        · simp only [gA, gB, gC]; rfl
        · exact fun _ _ _ h => h
        · exact Or.inl ⟨by kernel_rfl, fun w hSw => by go_simp⟩
        try simp only [Act.put, gD, gE, gF]
        refine wpAnyH_take (i := 1) (oi := ?oig15b1) (v := .pointer (some ⟨G, i, none⟩)) ?_ (by kernel_rfl) (by kernel_rfl) (by kernel_rfl) ?_ ?_ hHl ?_
        rotate_left
        · simp only [gA, gB, gC]; rfl
        · exact fun _ _ _ h => h
        · exact Or.inl ⟨by kernel_rfl, fun w hSw => by go_simp⟩
        try simp only [Act.put, gD, gE, gF]
        refine wpAnyH_take (i := 2) (oi := ?oig15b2) (v := .pointer (some ⟨G, i, none⟩)) ?_ (by kernel_rfl) (by kernel_rfl) (by kernel_rfl) ?_ ?_ hHl ?_
        rotate_left
        · simp only [gA, gB, gC]; rfl
        · exact fun _ _ _ h => h
        · exact Or.inl ⟨by kernel_rfl, fun w hSw => by go_simp⟩
        try simp only [Act.put, gD, gE, gF]
        refine wpAnyH_take (i := 3) (oi := ?oig15b3) (v := .slice (some ⟨g, 0, none⟩) m c) ?_ (by kernel_rfl) (by kernel_rfl) (by kernel_rfl) ?_ ?_ hHl ?_
        rotate_left
        · simp only [gA, gB, gC]; rfl
        · exact fun _ _ _ h => h
        · exact Or.inl ⟨by kernel_rfl, fun w hSw => by obtain ⟨s1, s2, s3, s4, s5, s6, s7, s8, s9⟩ := hSw; go_simp⟩
        try simp only [Act.put, gD, gE, gF]
        refine wpAnyH_take (i := 4) (oi := ?oig15b4) (v := .int .i64 (t : Int)) ?_ (by kernel_rfl) (by kernel_rfl) (by kernel_rfl) ?_ ?_ hHl ?_
        rotate_left
        · simp only [gA, gB, gC]; rfl
        · exact fun _ _ _ h => h
        · exact Or.inl ⟨by kernel_rfl, fun w hSw => by go_simp⟩
        try simp only [Act.put, gD, gE, gF]
        refine wpAnyH_take (i := 5) (oi := ?oig15b5) (v := .pointer (some ⟨g, t * 3, none⟩)) ?_ (by kernel_rfl) (by kernel_rfl) (by kernel_rfl) ?_ ?_ hHl ?_
        rotate_left
        · simp only [gA, gB, gC]; rfl
        · exact fun _ _ _ h => h
        · exact Or.inl ⟨by kernel_rfl, fun w hSw => by go_simp⟩
        try simp only [Act.put, gD, gE, gF]
        refine wpAnyH_take (i := 6) (oi := ?oig15b6) (v := .pointer (some ⟨g, t * 3, none⟩)) ?_ (by kernel_rfl) (by kernel_rfl) (by kernel_rfl) ?_ ?_ hHl ?_
        rotate_left
        · simp only [gA, gB, gC]; rfl
        · exact fun _ _ _ h => h
        · exact Or.inl ⟨by kernel_rfl, fun w hSw => by go_simp⟩
        try simp only [Act.put, gD, gE, gF]
        refine wpAnyH_take (i := 7) (oi := ?oig15b7) (v := .int .i64 7) ?_ (by kernel_rfl) (by kernel_rfl) (by kernel_rfl) ?_ ?_ hHl ?_
        rotate_left
        · simp only [gA, gB, gC]; rfl
        · exact fun _ _ _ h => h
        · exact Or.inl ⟨by kernel_rfl, fun w hSw => by obtain ⟨s1, s2, s3, s4, s5, s6, s7, s8, s9⟩ := hSw; go_simp⟩
        try simp only [Act.put, gD, gE, gF]
        refine wpAnyH_take (i := 8) (oi := ?oig15b8) (v := .bool true) ?_ (by kernel_rfl) (by kernel_rfl) (by kernel_rfl) ?_ ?_ hHl ?_
        rotate_left
        · simp only [gA, gB, gC]; rfl
        · exact fun _ _ _ h => h
        · exact Or.inl ⟨by kernel_rfl, fun w hSw => by go_simp⟩
        try simp only [Act.put, gD, gE, gF]
        refine wpAnyH_take (i := 9) (oi := ?oig15b9) (v := .bool true) ?_ (by kernel_rfl) (by kernel_rfl) (by kernel_rfl) ?_ ?_ hHl ?_
        rotate_left
        · simp only [gA, gB, gC]; rfl
        · exact fun _ _ _ h => h
        · exact Or.inl ⟨by kernel_rfl, fun w hSw => by go_simp⟩
        try simp only [Act.put, gD, gE, gF]
        refine wpAnyH_take (i := 10) (oi := ?oig15b10) (v := .pointer (some ⟨G, i, none⟩)) ?_ (by kernel_rfl) (by kernel_rfl) (by kernel_rfl) ?_ ?_ hHl ?_
        rotate_left
        · simp only [gA, gB, gC]; rfl
        · exact fun _ _ _ h => h
        · exact Or.inl ⟨by kernel_rfl, fun w hSw => by go_simp⟩
        try simp only [Act.put, gD, gE, gF]
        refine wpAnyH_take (i := 11) (oi := ?oig15b11) (v := .pointer (some ⟨G, i, none⟩)) ?_ (by kernel_rfl) (by kernel_rfl) (by kernel_rfl) ?_ ?_ hHl ?_
        rotate_left
        · simp only [gA, gB, gC]; rfl
        · exact fun _ _ _ h => h
        · exact Or.inl ⟨by kernel_rfl, fun w hSw => by go_simp⟩
        try simp only [Act.put, gD, gE, gF]
        refine wpAnyH_take (i := 12) (oi := ?oig15b12) (v := .pointer (some ⟨G, i, none⟩)) ?_ (by kernel_rfl) (by kernel_rfl) (by kernel_rfl) ?_ ?_ hHl ?_
        rotate_left
        · simp only [gA, gB, gC]; rfl
        · exact fun _ _ _ h => h
        · exact Or.inl ⟨by kernel_rfl, fun w hSw => by go_simp⟩
        try simp only [Act.put, gD, gE, gF]
        refine wpAnyH_take (i := 13) (oi := ?oig15b13) (v := .slice (some ⟨g, 0, none⟩) m c) ?_ (by kernel_rfl) (by kernel_rfl) (by kernel_rfl) ?_ ?_ hHl ?_
        rotate_left
        · simp only [gA, gB, gC]; rfl
        · exact fun _ _ _ h => h
        · exact Or.inl ⟨by kernel_rfl, fun w hSw => by obtain ⟨s1, s2, s3, s4, s5, s6, s7, s8, s9⟩ := hSw; go_simp⟩
        try simp only [Act.put, gD, gE, gF]
        refine wpAnyH_take (i := 14) (oi := ?oig15b14) (v := .int .i64 (t : Int)) ?_ (by kernel_rfl) (by kernel_rfl) (by kernel_rfl) ?_ ?_ hHl ?_
        rotate_left
        · simp only [gA, gB, gC]; rfl
        · exact fun _ _ _ h => h
        · exact Or.inl ⟨by kernel_rfl, fun w hSw => by go_simp⟩
        try simp only [Act.put, gD, gE, gF]
        refine wpAnyH_take (i := 15) (oi := ?oig15b15) (v := .pointer (some ⟨g, t * 3, none⟩)) ?_ (by kernel_rfl) (by kernel_rfl) (by kernel_rfl) ?_ ?_ hHl ?_
        rotate_left
        · simp only [gA, gB, gC]; rfl
        · exact fun _ _ _ h => h
        · exact Or.inl ⟨by kernel_rfl, fun w hSw => by go_simp⟩
        try simp only [Act.put, gD, gE, gF]
        refine wpAnyH_take (i := 16) (oi := ?oig15b16) (v := .pointer (some ⟨g, t * 3 + 2, none⟩)) ?_ (by kernel_rfl) (by kernel_rfl) (by kernel_rfl) ?_ ?_ hHl ?_
        rotate_left
        · simp only [gA, gB, gC]; rfl
        · exact fun _ _ _ h => h
        · exact Or.inl ⟨by kernel_rfl, fun w hSw => by go_simp⟩
        try simp only [Act.put, gD, gE, gF]
        refine wpAnyH_take (i := 17) (oi := ?oig15b17) (v := .int .i64 ty) ?_ (by kernel_rfl) (by kernel_rfl) (by kernel_rfl) ?_ ?_ hHl ?_
        rotate_left
        · simp only [gA, gB, gC]; rfl
        · exact fun _ _ _ h => h
        · exact Or.inl ⟨by kernel_rfl, fun w hSw => by obtain ⟨s1, s2, s3, s4, s5, s6, s7, s8, s9⟩ := hSw; go_simp⟩
        try simp only [Act.put, gD, gE, gF]
        refine wpAnyH_take (i := 18) (oi := ?oig15b18) (v := .pointer (some ⟨w.heap.size, 2, none⟩)) ?_ (by kernel_rfl) (by kernel_rfl) (by kernel_rfl) ?_ ?_ hHl ?_
        rotate_left
        · simp only [gA, gB, gC]; rfl
        · exact fun _ _ _ h => h
        · exact Or.inl ⟨by kernel_rfl, fun w hSw => by go_simp⟩
        try simp only [Act.put, gD, gE, gF]
        refine wpAnyH_take (i := 19) (oi := ?oig15b19) (v := .int .i64 (j : Int)) ?_ (by kernel_rfl) (by kernel_rfl) (by kernel_rfl) ?_ ?_ hHl ?_
        rotate_left
        · simp only [gA, gB, gC]; rfl
        · exact fun _ _ _ h => h
        · exact Or.inl ⟨by kernel_rfl, fun w hSw => by obtain ⟨s1, s2, s3, s4, s5, s6, s7, s8, s9⟩ := hSw; go_simp⟩
        try simp only [Act.put, gD, gE, gF]
        refine wpAnyH_take (i := 20) (oi := ?oig15b20) (v := .bool false) ?_ (by kernel_rfl) (by kernel_rfl) (by kernel_rfl) ?_ ?_ hHl ?_
        rotate_left
        · simp only [gA, gB, gC]; rfl
        · exact fun _ _ _ h => h
        · exact Or.inl ⟨by kernel_rfl, fun w hSw => by go_simp⟩
        try simp only [Act.put, gD, gE, gF]
        refine wpAnyH_take (i := 21) (oi := ?oig15b21) (v := .bool false) ?_ (by kernel_rfl) (by kernel_rfl) (by kernel_rfl) ?_ ?_ hHl ?_
        rotate_left
        · simp only [gA, gB, gC]; rfl
        · exact fun _ _ _ h => h
        · exact Or.inl ⟨by kernel_rfl, fun w hSw => by go_simp⟩
        try simp only [Act.put, gD, gE, gF]
        refine wpAnyH_done (by kernel_rfl) ?_ _
        have HE : Hid (Do13 w base P G cap 3 i j sk sx sy us (ps.set i (je6 ((j : Int) + 1) (-1) p t)) wr.drew) := (HDR.out).drew
        generalize wr.drew = w3 at *
        go_wp2
        go_roundw
        case rel => exact ⟨t + 1, by omega, by go_num, by rw [HSAM.out (HJN.out HNJ.out)]; exact HE.out⟩
        case measure => simp [intOf]; omega
    · have HNJ : Hid _ := fun h : tk = 7 ∧ ((j : Int) + 1 : Int) ≤ ty => hk7 h.1
      have hk7b : (tk == 7) = false := by simpa using hk7
      clear hjy
      go_wp2_with fail
      refine wp_region_held_drew (S := fun w' => w'.cell? ⟨w.heap.size, 1, none⟩ = some (.int .i64 (i : Int)) ∧ w'.cell? ⟨w.heap.size, 2, none⟩ = some (.int .i64 (j : Int)) ∧ w'.cell? ⟨w.heap.size, 3, none⟩ = some (.int .i64 sk) ∧ w'.cell? ⟨w.heap.size, 4, none⟩ = some (.int .i64 sx) ∧ w'.cell? ⟨w.heap.size, 5, none⟩ = some (.int .i64 sy) ∧ w'.cell? ⟨P, 0, none⟩ = some (.slice (some ⟨G, 0, none⟩) n cap) ∧ w'.cell? ⟨G, i, none⟩ = some (.slice (some ⟨g, 0, none⟩) m c) ∧ w'.cell? ⟨g, t * 3, none⟩ = some (.int .i64 tk) ∧ w'.cell? ⟨g, t * 3 + 2, none⟩ = some (.int .i64 ty)) (by kernel_rfl) ⟨e1, e2, e3, e4, e5, eP, eG, q0, q2⟩ (fun hHl => ?_)
      refine wpAnyH_take (i := 0) (oi := ?oig15c0) (v := .pointer (some ⟨G, i, none⟩)) ?_ (by kernel_rfl) (by kernel_rfl) (by kernel_rfl) ?_ ?_ hHl ?_
      rotate_left
      · simp only [gA, gB, gC]; rfl
      · exact fun _ _ _ h => h
      · exact Or.inl ⟨by kernel_rfl, fun w hSw => by go_simp⟩
      try simp only [Act.put, gD, gE, gF]
      refine wpAnyH_take (i := 1) (oi := ?oig15c1) (v := .pointer (some ⟨G, i, none⟩)) ?_ (by kernel_rfl) (by kernel_rfl) (by kernel_rfl) ?_ ?_ hHl ?_
      rotate_left
      · simp only [gA, gB, gC]; rfl
      · exact fun _ _ _ h => h
      · exact Or.inl ⟨by kernel_rfl, fun w hSw => by go_simp⟩
      try simp only [Act.put, gD, gE, gF]
      refine wpAnyH_take (i := 2) (oi := ?oig15c2) (v := .pointer (some ⟨G, i, none⟩)) ?_ (by kernel_rfl) (by kernel_rfl) (by kernel_rfl) ?_ ?_ hHl ?_
      rotate_left
      · simp only [gA, gB, gC]; rfl
      · exact fun _ _ _ h => h
      · exact Or.inl ⟨by kernel_rfl, fun w hSw => by go_simp⟩
      try simp only [Act.put, gD, gE, gF]
      refine wpAnyH_take (i := 3) (oi := ?oig15c3) (v := .slice (some ⟨g, 0, none⟩) m c) ?_ (by kernel_rfl) (by kernel_rfl) (by kernel_rfl) ?_ ?_ hHl ?_
      rotate_left
      · simp only [gA, gB, gC]; rfl
      · exact fun _ _ _ h => h
      · exact Or.inl ⟨by kernel_rfl, fun w hSw => by obtain ⟨s1, s2, s3, s4, s5, s6, s7, s8, s9⟩ := hSw; go_simp⟩
      try simp only [Act.put, gD, gE, gF]
      refine wpAnyH_take (i := 4) (oi := ?oig15c4) (v := .int .i64 (t : Int)) ?_ (by kernel_rfl) (by kernel_rfl) (by kernel_rfl) ?_ ?_ hHl ?_
      rotate_left
      · simp only [gA, gB, gC]; rfl
      · exact fun _ _ _ h => h
      · exact Or.inl ⟨by kernel_rfl, fun w hSw => by go_simp⟩
      try simp only [Act.put, gD, gE, gF]
      refine wpAnyH_take (i := 5) (oi := ?oig15c5) (v := .pointer (some ⟨g, t * 3, none⟩)) ?_ (by kernel_rfl) (by kernel_rfl) (by kernel_rfl) ?_ ?_ hHl ?_
      rotate_left
      · simp only [gA, gB, gC]; rfl
      · exact fun _ _ _ h => h
      · exact Or.inl ⟨by kernel_rfl, fun w hSw => by go_simp⟩
      try simp only [Act.put, gD, gE, gF]
      refine wpAnyH_take (i := 6) (oi := ?oig15c6) (v := .pointer (some ⟨g, t * 3, none⟩)) ?_ (by kernel_rfl) (by kernel_rfl) (by kernel_rfl) ?_ ?_ hHl ?_
      rotate_left
      · simp only [gA, gB, gC]; rfl
      · exact fun _ _ _ h => h
      · exact Or.inl ⟨by kernel_rfl, fun w hSw => by go_simp⟩
      try simp only [Act.put, gD, gE, gF]
      refine wpAnyH_take (i := 7) (oi := ?oig15c7) (v := .int .i64 tk) ?_ (by kernel_rfl) (by kernel_rfl) (by kernel_rfl) ?_ ?_ hHl ?_
      rotate_left
      · simp only [gA, gB, gC]; rfl
      · exact fun _ _ _ h => h
      · exact Or.inl ⟨by kernel_rfl, fun w hSw => by obtain ⟨s1, s2, s3, s4, s5, s6, s7, s8, s9⟩ := hSw; go_simp⟩
      try simp only [Act.put, gD, gE, gF]
      refine wpAnyH_take (i := 8) (oi := ?oig15c8) (v := .bool false) ?_ (by kernel_rfl) (by kernel_rfl) (by kernel_rfl) ?_ ?_ hHl ?_
      rotate_left
      · simp only [gA, gB, gC]; rfl
      · exact fun _ _ _ h => h
      · exact Or.inl ⟨by kernel_rfl, fun w hSw => by go_simp⟩
      try simp only [Act.put, gD, gE, gF]
      refine wpAnyH_take (i := 9) (oi := ?oig15c9) (v := .bool false) ?_ (by kernel_rfl) (by kernel_rfl) (by kernel_rfl) ?_ ?_ hHl ?_
      rotate_left
      · simp only [gA, gB, gC]; rfl
      · exact fun _ _ _ h => h
      · exact Or.inl ⟨by kernel_rfl, fun w hSw => by go_simp⟩
      try simp only [Act.put, gD, gE, gF]
      refine wpAnyH_take (i := 10) (oi := ?oig15c10) (v := undef) ?_ (by kernel_rfl) (by kernel_rfl) (by kernel_rfl) ?_ ?_ hHl ?_
      rotate_left
      · simp only [gA, gB, gC]; rfl
      · exact fun _ _ _ h => h
      · exact Or.inr ⟨by kernel_rfl, rfl⟩
      try simp only [Act.put, gD, gE, gF]
      refine wpAnyH_take (i := 11) (oi := ?oig15c11) (v := undef) ?_ (by kernel_rfl) (by kernel_rfl) (by kernel_rfl) ?_ ?_ hHl ?_
      rotate_left
      · simp only [gA, gB, gC]; rfl
      · exact fun _ _ _ h => h
      · exact Or.inr ⟨by kernel_rfl, rfl⟩
      try simp only [Act.put, gD, gE, gF]
      refine wpAnyH_take (i := 12) (oi := ?oig15c12) (v := undef) ?_ (by kernel_rfl) (by kernel_rfl) (by kernel_rfl) ?_ ?_ hHl ?_
      rotate_left
      · simp only [gA, gB, gC]; rfl
      · exact fun _ _ _ h => h
      · exact Or.inr ⟨by kernel_rfl, rfl⟩
      try simp only [Act.put, gD, gE, gF]
      refine wpAnyH_take (i := 13) (oi := ?oig15c13) (v := undef) ?_ (by kernel_rfl) (by kernel_rfl) (by kernel_rfl) ?_ ?_ hHl ?_
      rotate_left
      · simp only [gA, gB, gC]; rfl
      · exact fun _ _ _ h => h
      · exact Or.inr ⟨by kernel_rfl, rfl⟩
      try simp only [Act.put, gD, gE, gF]
      refine wpAnyH_take (i := 14) (oi := ?oig15c14) (v := undef) ?_ (by kernel_rfl) (by kernel_rfl) (by kernel_rfl) ?_ ?_ hHl ?_
      rotate_left
      · simp only [gA, gB, gC]; rfl
      · exact fun _ _ _ h => h
      · exact Or.inr ⟨by kernel_rfl, rfl⟩
      try simp only [Act.put, gD, gE, gF]
      refine wpAnyH_take (i := 15) (oi := ?oig15c15) (v := undef) ?_ (by kernel_rfl) (by kernel_rfl) (by kernel_rfl) ?_ ?_ hHl ?_
      rotate_left
      · simp only [gA, gB, gC]; rfl
      · exact fun _ _ _ h => h
      · exact Or.inr ⟨by kernel_rfl, rfl⟩
      try simp only [Act.put, gD, gE, gF]
      refine wpAnyH_take (i := 16) (oi := ?oig15c16) (v := undef) ?_ (by kernel_rfl) (by kernel_rfl) (by kernel_rfl) ?_ ?_ hHl ?_
      rotate_left
      · simp only [gA, gB, gC]; rfl
      · exact fun _ _ _ h => h
      · exact Or.inr ⟨by kernel_rfl, rfl⟩
      try simp only [Act.put, gD, gE, gF]
      refine wpAnyH_take (i := 17) (oi := ?oig15c17) (v := undef) ?_ (by kernel_rfl) (by kernel_rfl) (by kernel_rfl) ?_ ?_ hHl ?_
      rotate_left
      · simp only [gA, gB, gC]; rfl
      · exact fun _ _ _ h => h
      · exact Or.inr ⟨by kernel_rfl, rfl⟩
      try simp only [Act.put, gD, gE, gF]
      refine wpAnyH_take (i := 18) (oi := ?oig15c18) (v := undef) ?_ (by kernel_rfl) (by kernel_rfl) (by kernel_rfl) ?_ ?_ hHl ?_
      rotate_left
      · simp only [gA, gB, gC]; rfl
      · exact fun _ _ _ h => h
      · exact Or.inr ⟨by kernel_rfl, rfl⟩
      try simp only [Act.put, gD, gE, gF]
      refine wpAnyH_take (i := 19) (oi := ?oig15c19) (v := undef) ?_ (by kernel_rfl) (by kernel_rfl) (by kernel_rfl) ?_ ?_ hHl ?_
      rotate_left
      · simp only [gA, gB, gC]; rfl
      · exact fun _ _ _ h => h
      · exact Or.inr ⟨by kernel_rfl, rfl⟩
      try simp only [Act.put, gD, gE, gF]
      refine wpAnyH_take (i := 20) (oi := ?oig15c20) (v := undef) ?_ (by kernel_rfl) (by kernel_rfl) (by kernel_rfl) ?_ ?_ hHl ?_
      rotate_left
      · simp only [gA, gB, gC]; rfl
      · exact fun _ _ _ h => h
      · exact Or.inr ⟨by kernel_rfl, rfl⟩
      try simp only [Act.put, gD, gE, gF]
      refine wpAnyH_take (i := 21) (oi := ?oig15c21) (v := .bool false) ?_ (by kernel_rfl) (by kernel_rfl) (by kernel_rfl) ?_ ?_ hHl ?_
      rotate_left
      · simp only [gA, gB, gC]; rfl
      · exact fun _ _ _ h => h
      · exact Or.inl ⟨by kernel_rfl, fun w hSw => by go_simp⟩
      try simp only [Act.put, gD, gE, gF]
      refine wpAnyH_done (by kernel_rfl) ?_ _
      have HE : Hid (Do13 w base P G cap 3 i j sk sx sy us (ps.set i (je6 ((j : Int) + 1) (-1) p t)) wr.drew) := (HDR.out).drew
      generalize wr.drew = w3 at *
      go_wp2
      go_roundw
      case rel => exact ⟨t + 1, by omega, by go_num, by rw [HSAM.out (HJN.out HNJ.out)]; exact HE.out⟩
      case measure => simp [intOf]; omega
  · have htm : m = t := by omega
    subst htm
    have HD4 : Hid (Do13 w base P G cap 3 i j sk sx sy us (ps.set i (mv ((j : Int) + 1) (-1) p)) wr) := by
     have e9 : je6 ((j : Int) + 1) (-1) p m = mv ((j : Int) + 1) (-1) p := by rw [← HPM.out]; exact qg2 _ _ _
     have h9 := HDR.out
     rw [e9] at h9
     exact h9
    clear HDR HD3 HD2 HD1 HD0
    have HML : Hid ((mv ((j : Int) + 1) (-1) p).length = m) := (mv_length _ _ _).trans HPM.out
    have HEA0 : Hid (jp3 p j = (mv ((j : Int) + 1) (-1) p).take j ++ (mv ((j : Int) + 1) (-1) p).drop (j + 1)) := rfl
    have ow5 : Hid (wr.ownsRow base 52 3 (.slice (some ⟨g, 0, none⟩) m c) m (ja3 (mv ((j : Int) + 1) (-1) p))) := HD4.out.row (by rw [HN.out]; exact hi) HUI.out HML.out
    generalize mv ((j : Int) + 1) (-1) p = q at *
    obtain ⟨J, hJ⟩ : ∃ J, j + 1 = J := ⟨_, rfl⟩
    rw [hJ] at HEA0
    have hJi : (j : Int) + 1 = (J : Int) := by omega
    have hwJ : IntKind.i64.wrap (J : Int) = (J : Int) := IntWalk.i64_in _ (by omega)
    have hJm : (J : Int) ≤ (m : Int) := by omega
    have HRL : Hid ((jp3 p j).length = j + (m - J)) := by (show _ = _; rw [HEA0.out, List.length_append, List.length_take, List.length_drop, HML.out]; omega)
    have HLT : Hid ((ja3 (q.take j)).length = j * 3) := by (show _ = _; rw [je0, List.length_take, HML.out]; congr 1; omega)
    have HLD : Hid ((ja3 (q.drop J)).length = (m - J) * 3) := by (show _ = _; rw [je0, List.length_drop, HML.out])
    have HEA : Hid (ja3 (q.take j) ++ ja3 (q.drop J) = ja3 (jp3 p j)) := by (show _ = _; rw [HEA0.out, jh9])
    have hcj : ¬ c = j := by omega
    have hjc : (j : Int) ≤ (c : Int) := by omega
    have hjm2 : (j : Int) ≤ (m : Int) := by omega
    have HJJ : Hid (j + 1 = J) := hJ
    clear hJ
    have HPG : Hid (P ≠ G) := fun e => jx0 HD4.out.own.row HD4.out.box (by decide) (by rw [e]; rfl)
    have HEG : Hid (w.heap.size ≠ G) := fun e => jx0 HD4.out.own.row HD4.out.edit (by decide) (by rw [e]; rfl)
    have lE : w.heap.size < wr.heap.size := HD4.out.size
    have lP : P < wr.heap.size := (Array.getElem?_eq_some_iff.1 HD4.out.box).1
    have lG : G < wr.heap.size := (HD4.out.own.row.lt G rfl).2
    go_wp2_with fail
    by_cases hcJ : c = J
    · have HMJ0 : Hid (m - J = 0) := by (show _ = _; have := HJJ.out; omega)
      have HCJ : Hid (c = J) := hcJ
      clear hcJ
      refine jg2 (S := fun w' => w'.cell? ⟨w.heap.size, 1, none⟩ = some (.int .i64 (i : Int)) ∧ w'.cell? ⟨w.heap.size, 2, none⟩ = some (.int .i64 (j : Int)) ∧ w'.cell? ⟨w.heap.size, 3, none⟩ = some (.int .i64 sk) ∧ w'.cell? ⟨w.heap.size, 4, none⟩ = some (.int .i64 sx) ∧ w'.cell? ⟨w.heap.size, 5, none⟩ = some (.int .i64 sy) ∧ w'.cell? ⟨P, 0, none⟩ = some (.slice (some ⟨G, 0, none⟩) n cap) ∧ w'.cell? ⟨G, i, none⟩ = some (.slice (some ⟨g, 0, none⟩) m c)) (late := fun j => j == 21) (by kernel_rfl) ⟨e1, e2, e3, e4, e5, eP, eG⟩ (fun hHl => ?_)
      refine ja1 (i := 0) (oi := ?oik26a0) (v := .pointer (some ⟨G, i, none⟩)) ?_ (by kernel_rfl) (by kernel_rfl) (by kernel_rfl) (by kernel_rfl) ?_ ?_ hHl ?_
      rotate_left
      · simp only [gA, gB, gC]; rfl
      · exact fun _ _ _ h => h
      · exact Or.inl ⟨by kernel_rfl, fun w hSw => by go_simp⟩
      try simp only [Act.put, gD, gE, gF]
      refine ja1 (i := 2) (oi := ?oik26a2) (v := .pointer (some ⟨G, i, none⟩)) ?_ (by kernel_rfl) (by kernel_rfl) (by kernel_rfl) (by kernel_rfl) ?_ ?_ hHl ?_
      rotate_left
      · simp only [gA, gB, gC]; rfl
      · exact fun _ _ _ h => h
      · exact Or.inl ⟨by kernel_rfl, fun w hSw => by go_simp⟩
      try simp only [Act.put, gD, gE, gF]
      refine ja1 (i := 3) (oi := ?oik26a3) (v := .pointer (some ⟨G, i, none⟩)) ?_ (by kernel_rfl) (by kernel_rfl) (by kernel_rfl) (by kernel_rfl) ?_ ?_ hHl ?_
      rotate_left
      · simp only [gA, gB, gC]; rfl
      · exact fun _ _ _ h => h
      · exact Or.inl ⟨by kernel_rfl, fun w hSw => by go_simp⟩
      try simp only [Act.put, gD, gE, gF]
      refine ja1 (i := 4) (oi := ?oik26a4) (v := .pointer (some ⟨G, i, none⟩)) ?_ (by kernel_rfl) (by kernel_rfl) (by kernel_rfl) (by kernel_rfl) ?_ ?_ hHl ?_
      rotate_left
      · simp only [gA, gB, gC]; rfl
      · exact fun _ _ _ h => h
      · exact Or.inl ⟨by kernel_rfl, fun w hSw => by go_simp⟩
      try simp only [Act.put, gD, gE, gF]
      refine ja1 (i := 5) (oi := ?oik26a5) (v := .slice (some ⟨g, 0, none⟩) m c) ?_ (by kernel_rfl) (by kernel_rfl) (by kernel_rfl) (by kernel_rfl) ?_ ?_ hHl ?_
      rotate_left
      · simp only [gA, gB, gC]; rfl
      · exact fun _ _ _ h => h
      · exact Or.inl ⟨by kernel_rfl, fun w hSw => by obtain ⟨s1, s2, s3, s4, s5, s6, s7⟩ := hSw; go_simp⟩
      try simp only [Act.put, gD, gE, gF]
      refine ja1 (i := 6) (oi := ?oik26a6) (v := .pointer (some ⟨w.heap.size, 2, none⟩)) ?_ (by kernel_rfl) (by kernel_rfl) (by kernel_rfl) (by kernel_rfl) ?_ ?_ hHl ?_
      rotate_left
      · simp only [gA, gB, gC]; rfl
      · exact fun _ _ _ h => h
      · exact Or.inl ⟨by kernel_rfl, fun w hSw => by go_simp⟩
      try simp only [Act.put, gD, gE, gF]
      refine ja1 (i := 7) (oi := ?oik26a7) (v := .int .i64 (j : Int)) ?_ (by kernel_rfl) (by kernel_rfl) (by kernel_rfl) (by kernel_rfl) ?_ ?_ hHl ?_
      rotate_left
      · simp only [gA, gB, gC]; rfl
      · exact fun _ _ _ h => h
      · exact Or.inl ⟨by kernel_rfl, fun w hSw => by obtain ⟨s1, s2, s3, s4, s5, s6, s7⟩ := hSw; go_simp⟩
      try simp only [Act.put, gD, gE, gF]
      refine ja1 (i := 8) (oi := ?oik26a8) (v := .slice (some ⟨g, 0, none⟩) j c) ?_ (by kernel_rfl) (by kernel_rfl) (by kernel_rfl) (by kernel_rfl) ?_ ?_ hHl ?_
      rotate_left
      · simp only [gA, gB, gC]; rfl
      · exact fun _ _ _ h => h
      · exact Or.inl ⟨by kernel_rfl, fun w hSw => by go_simp⟩
      try simp only [Act.put, gD, gE, gF]
      refine ja1 (i := 10) (oi := ?oik26a10) (v := .pointer (some ⟨G, i, none⟩)) ?_ (by kernel_rfl) (by kernel_rfl) (by kernel_rfl) (by kernel_rfl) ?_ ?_ hHl ?_
      rotate_left
      · simp only [gA, gB, gC]; rfl
      · exact fun _ _ _ h => h
      · exact Or.inl ⟨by kernel_rfl, fun w hSw => by go_simp⟩
      try simp only [Act.put, gD, gE, gF]
      refine ja1 (i := 11) (oi := ?oik26a11) (v := .pointer (some ⟨G, i, none⟩)) ?_ (by kernel_rfl) (by kernel_rfl) (by kernel_rfl) (by kernel_rfl) ?_ ?_ hHl ?_
      rotate_left
      · simp only [gA, gB, gC]; rfl
      · exact fun _ _ _ h => h
      · exact Or.inl ⟨by kernel_rfl, fun w hSw => by go_simp⟩
      try simp only [Act.put, gD, gE, gF]
      refine ja1 (i := 12) (oi := ?oik26a12) (v := .pointer (some ⟨G, i, none⟩)) ?_ (by kernel_rfl) (by kernel_rfl) (by kernel_rfl) (by kernel_rfl) ?_ ?_ hHl ?_
      rotate_left
      · simp only [gA, gB, gC]; rfl
      · exact fun _ _ _ h => h
      · exact Or.inl ⟨by kernel_rfl, fun w hSw => by go_simp⟩
      try simp only [Act.put, gD, gE, gF]
      refine ja1 (i := 13) (oi := ?oik26a13) (v := .slice (some ⟨g, 0, none⟩) m c) ?_ (by kernel_rfl) (by kernel_rfl) (by kernel_rfl) (by kernel_rfl) ?_ ?_ hHl ?_
      rotate_left
      · simp only [gA, gB, gC]; rfl
      · exact fun _ _ _ h => h
      · exact Or.inl ⟨by kernel_rfl, fun w hSw => by obtain ⟨s1, s2, s3, s4, s5, s6, s7⟩ := hSw; go_simp⟩
      try simp only [Act.put, gD, gE, gF]
      refine ja1 (i := 14) (oi := ?oik26a14) (v := .pointer (some ⟨w.heap.size, 2, none⟩)) ?_ (by kernel_rfl) (by kernel_rfl) (by kernel_rfl) (by kernel_rfl) ?_ ?_ hHl ?_
      rotate_left
      · simp only [gA, gB, gC]; rfl
      · exact fun _ _ _ h => h
      · exact Or.inl ⟨by kernel_rfl, fun w hSw => by go_simp⟩
      try simp only [Act.put, gD, gE, gF]
      refine ja1 (i := 15) (oi := ?oik26a15) (v := .int .i64 (j : Int)) ?_ (by kernel_rfl) (by kernel_rfl) (by kernel_rfl) (by kernel_rfl) ?_ ?_ hHl ?_
      rotate_left
      · simp only [gA, gB, gC]; rfl
      · exact fun _ _ _ h => h
      · exact Or.inl ⟨by kernel_rfl, fun w hSw => by obtain ⟨s1, s2, s3, s4, s5, s6, s7⟩ := hSw; go_simp⟩
      try simp only [Act.put, gD, gE, gF]
      refine ja1 (i := 16) (oi := ?oik26a16) (v := .int .i64 (J : Int)) ?_ (by kernel_rfl) (by kernel_rfl) (by kernel_rfl) (by kernel_rfl) ?_ ?_ hHl ?_
      rotate_left
      · simp only [gA, gB, gC]; rfl
      · exact fun _ _ _ h => h
      · exact Or.inl ⟨by kernel_rfl, fun w hSw => by go_simp⟩
      try simp only [Act.put, gD, gE, gF]
      refine ja1 (i := 17) (oi := ?oik26a17) (v := .slice (some ⟨g, 0, none⟩) (m - J) (c - J)) ?_ (by kernel_rfl) (by kernel_rfl) (by kernel_rfl) (by kernel_rfl) ?_ ?_ hHl ?_
      rotate_left
      · simp only [gA, gB, gC]; rfl
      · exact fun _ _ _ h => h
      · exact Or.inl ⟨by kernel_rfl, fun w hSw => by (have hcJ := HCJ.out; go_simp)⟩
      try simp only [Act.put, gD, gE, gF]
      refine ja7 (rs := [1]) (by kernel_rfl) (by simp) (AllReadyG.cons (o := ?ook26a1) ?_ (fun K hK => ?_) AllReadyG.nil)
      rotate_left
      · simp only [gA, gB, gC]; rfl
      go_simp
      try go_wp2_with fail
      have bz : Below wr.heap.size wr (wr.alloc (.cells #[] 52)).drew := by go_grown
      have Ba : Hid (Below wr.heap.size wr (wr.alloc (.cells #[] 52)).drew) := bz
      have Va : Hid ((wr.alloc (.cells #[] 52)).drew.ownsRow wr.heap.size 52 3 (.slice (some ⟨wr.heap.size, 0, none⟩) 0 0) 0 []) := jc4 (World.ownsRow_made wr #[] 0 (Nat.le_refl _) (by unfold maxLen; omega) rfl) (Nat.le_refl _)
      generalize hz9 : (wr.alloc (.cells #[] 52)).drew = wa at *
      clear hz9 bz
      refine hK.out _ _ (Or.inr ⟨(Ba.out.cell lE).trans e1, (Ba.out.cell lE).trans e2, (Ba.out.cell lE).trans e3, (Ba.out.cell lE).trans e4, (Ba.out.cell lE).trans e5, (Ba.out.cell lP).trans eP, (Ba.out.cell lG).trans eG⟩) (fun hHl => ?_)
      replace hHl := hHl.resolve_left (by decide)
      clear hK K
      try simp only [Act.put, gD, gE, gF]
      refine ja7 (rs := [9]) (by kernel_rfl) (by simp) (AllReadyG.cons (o := ?ook26a9) ?_ (fun K hK => ?_) AllReadyG.nil)
      rotate_left
      · simp only [gA, gB, gC]; rfl
      refine jd1 _ rfl (.tmp 211) (.tmp 218) 61 rfl wr.heap.size 52 i0 (.agg #[.int .i64 0, .int .i64 0, .int .i64 0]) 3 24 Tryz.underlying61 hi0 hz0 hz1 hz2 rfl (by decide) (.slice (some ⟨wr.heap.size, 0, none⟩) 0 0) 0 ([]) rfl Va.out (some ⟨g, 0, none⟩) (j) (c) (ja3 (q.take j)) rfl HLT.out (fun _ => ⟨_, rfl, jq7 (jc0 ow5.out Ba.out) j⟩) (je4 _) (by unfold maxLen; omega) (by omega) Ba.out.size ?_
      intro v6 w6 own6 grow6 new6
      have V6 : Hid (w6.ownsRow wr.heap.size 52 3 v6 j (ja3 (q.take j))) := by (have hh := own6; rw [Nat.zero_add, List.nil_append] at hh; exact hh)
      have B6 : Hid (Below wr.heap.size wr w6) := Ba.out.grown grow6 Ba.out.size (fun k hk => (World.ownsRow.lt Va.out k hk).1)
      clear own6 grow6 new6
      refine hK.out _ _ (Or.inr ⟨(B6.out.cell lE).trans e1, (B6.out.cell lE).trans e2, (B6.out.cell lE).trans e3, (B6.out.cell lE).trans e4, (B6.out.cell lE).trans e5, (B6.out.cell lP).trans eP, (B6.out.cell lG).trans eG⟩) (fun hHl => ?_)
      replace hHl := hHl.resolve_left (by decide)
      clear hK K
      try simp only [Act.put, gD, gE, gF]
      refine ja7 (rs := [18]) (by kernel_rfl) (by simp) (AllReadyG.cons (o := ?ook26a18) ?_ (fun K hK => ?_) AllReadyG.nil)
      rotate_left
      · simp only [gA, gB, gC]; rfl
      refine jd1 _ rfl (.tmp 219) (.tmp 227) 61 rfl wr.heap.size 52 i0 (.agg #[.int .i64 0, .int .i64 0, .int .i64 0]) 3 24 Tryz.underlying61 hi0 hz0 hz1 hz2 rfl (by decide) (v6) j (ja3 (q.take j)) rfl V6.out (some ⟨g, 0, none⟩) (m - J) (c - J) (ja3 (q.drop J)) rfl HLD.out (fun h0 => absurd h0 (by have := HMJ0.out; omega)) (je4 _) (by unfold maxLen; omega) (by omega) B6.out.size ?_
      intro v10 w10 own10 grow10 new10
      have V10 : Hid (w10.ownsRow wr.heap.size 52 3 v10 (j + (m - J)) (ja3 (jp3 p j))) := by (have hh := own10; rw [HEA.out] at hh; exact hh)
      have B10 : Hid (Below wr.heap.size wr w10) := B6.out.grown grow10 B6.out.size (fun k hk => (World.ownsRow.lt V6.out k hk).1)
      clear own10 grow10 new10
      obtain ⟨xa, xm, xc, hqv⟩ := jd4 V10.out
      subst hqv
      refine hK.out _ _ (Or.inr ⟨(B10.out.cell lE).trans e1, (B10.out.cell lE).trans e2, (B10.out.cell lE).trans e3, (B10.out.cell lE).trans e4, (B10.out.cell lE).trans e5, (B10.out.cell lP).trans eP, (B10.out.cell lG).trans eG⟩) (fun hHl => ?_)
      replace hHl := hHl.resolve_left (by decide)
      clear hK K
      try simp only [Act.put, gD, gE, gF]
      refine ja7 (rs := [19]) (by kernel_rfl) (by simp) (AllReadyG.cons (o := ?ook26a19) ?_ (fun K hK => ?_) AllReadyG.nil)
      rotate_left
      · simp only [gA, gB, gC]; rfl
      go_simp
      have fG9 : w10.frozen? ⟨G, i, none⟩ = false := World.ownsRow.frozenAt (jc0 HD4.out.own.row B10.out) i
      have eG9 : w10.cell? ⟨G, i, none⟩ = some (.slice (some ⟨g, 0, none⟩) m c) := (B10.out.cell lG).trans eG
      try go_wp2_with fail
      refine hK.out _ _ (Or.inr ⟨(B10.out.cell lE).trans e1, (B10.out.cell lE).trans e2, (B10.out.cell lE).trans e3, (B10.out.cell lE).trans e4, (B10.out.cell lE).trans e5, (B10.out.cell lP).trans eP, (B10.out.cell lG).trans eG⟩) (fun hHl => ?_)
      replace hHl := hHl.resolve_left (by decide)
      clear hK K
      try simp only [Act.put, gD, gE, gF]
      refine ja7 (rs := [20]) (by kernel_rfl) (by simp) (AllReadyG.cons (o := ?ook26a20) ?_ (fun K hK => ?_) AllReadyG.nil)
      rotate_left
      · simp only [gA, gB, gC]; rfl
      go_simp
      try go_wp2_with fail
      refine hK.out _ _ (Or.inr ⟨(B10.out.cell lE).trans e1, (B10.out.cell lE).trans e2, (B10.out.cell lE).trans e3, (B10.out.cell lE).trans e4, (B10.out.cell lE).trans e5, (B10.out.cell lP).trans eP, (B10.out.cell lG).trans eG⟩) (fun hHl => ?_)
      replace hHl := hHl.resolve_left (by decide)
      clear hK K
      try simp only [Act.put, gD, gE, gF]
      refine ja7 (rs := [21]) (by kernel_rfl) (by simp) (AllReadyG.cons (o := ?ook26a21) ?_ (fun K hK => ?_) AllReadyG.nil)
      rotate_left
      · simp only [gA, gB, gC]; rfl
      go_simp
      try go_wp2_with fail
      refine hK.out _ _ (Or.inl rfl) (fun _ => ?_)
      clear hK K
      try simp only [Act.put, gD, gE, gF]
      refine jh2 (by kernel_rfl) ?_ _
      have HF : Hid (Own13 (w10.setCell ⟨G, i, none⟩ (.slice xa xm xc)) base (.slice (some ⟨G, 0, none⟩) (ps.set i q).length cap) (us.set i (.slice xa xm xc)) ((ps.set i q).set i (jp3 p j))) :=
       Own13.splV (R := jp3 p j) HD4.out.own (by simp [HN.out]; exact hi) HUI.out (jb3 B10.out (some g)) (by rw [HRL.out]; exact jc4 V10.out (Nat.le_trans hbase (Nat.le_of_lt lE))) (fun k hk => .inr (World.ownsRow.lt V10.out k hk).1)
      have HBX : Hid ((w10.setCell ⟨G, i, none⟩ (.slice xa xm xc)).heap[P]? = some (.cells #[.slice (some ⟨G, 0, none⟩) n cap] 26 (0, 0))) := by
       have h8 := HD4.out.box
       rw [List.length_set, HN.out] at h8
       exact (Below.heap_setCell _ _ _ _ (by show P ≠ G; exact HPG.out)).trans ((B10.out.block P lP).trans h8)
      have HBB : Hid (Below base w (w10.setCell ⟨G, i, none⟩ (.slice xa xm xc))) := (HD4.out.below.trans (B10.out.mono (Nat.le_trans hbase (Nat.le_of_lt lE)))).setCell hGb _
      have HES := jj3 ((Below.heap_setCell w10 ⟨G, i, none⟩ (.slice xa xm xc) _ (by show w.heap.size ≠ G; exact HEG.out)).trans ((B10.out.block _ lE).trans HD4.out.edit))
      generalize w10.setCell ⟨G, i, none⟩ (.slice xa xm xc) = wf at *
      have HFF : Hid (Own13 wf base (.slice (some ⟨G, 0, none⟩) n cap) (us.set i (.slice xa xm xc)) (ps.set i (jp3 p j))) := by (have h7 := HF.out; rw [List.set_set, List.length_set, HN.out] at h7; exact h7)
      obtain ⟨z3, z4, z5⟩ := HES
      clear e0 e1 e2 e3 e4 e5 eP eG fG fG9 eG9
      go_wp2
      all_goals
       go_ret
       exact ⟨by simp [qe5, *], _, HBX.out, HFF.out, HBB.out⟩
    · skip
      refine jg2 (S := fun w' => w'.cell? ⟨w.heap.size, 1, none⟩ = some (.int .i64 (i : Int)) ∧ w'.cell? ⟨w.heap.size, 2, none⟩ = some (.int .i64 (j : Int)) ∧ w'.cell? ⟨w.heap.size, 3, none⟩ = some (.int .i64 sk) ∧ w'.cell? ⟨w.heap.size, 4, none⟩ = some (.int .i64 sx) ∧ w'.cell? ⟨w.heap.size, 5, none⟩ = some (.int .i64 sy) ∧ w'.cell? ⟨P, 0, none⟩ = some (.slice (some ⟨G, 0, none⟩) n cap) ∧ w'.cell? ⟨G, i, none⟩ = some (.slice (some ⟨g, 0, none⟩) m c)) (late := fun j => j == 21) (by kernel_rfl) ⟨e1, e2, e3, e4, e5, eP, eG⟩ (fun hHl => ?_)
      refine ja1 (i := 0) (oi := ?oik26b0) (v := .pointer (some ⟨G, i, none⟩)) ?_ (by kernel_rfl) (by kernel_rfl) (by kernel_rfl) (by kernel_rfl) ?_ ?_ hHl ?_
      rotate_left
      · simp only [gA, gB, gC]; rfl
      · exact fun _ _ _ h => h
      · exact Or.inl ⟨by kernel_rfl, fun w hSw => by go_simp⟩
      try simp only [Act.put, gD, gE, gF]
      refine ja1 (i := 2) (oi := ?oik26b2) (v := .pointer (some ⟨G, i, none⟩)) ?_ (by kernel_rfl) (by kernel_rfl) (by kernel_rfl) (by kernel_rfl) ?_ ?_ hHl ?_
      rotate_left
      · simp only [gA, gB, gC]; rfl
      · exact fun _ _ _ h => h
      · exact Or.inl ⟨by kernel_rfl, fun w hSw => by go_simp⟩
      try simp only [Act.put, gD, gE, gF]
      refine ja1 (i := 3) (oi := ?oik26b3) (v := .pointer (some ⟨G, i, none⟩)) ?_ (by kernel_rfl) (by kernel_rfl) (by kernel_rfl) (by kernel_rfl) ?_ ?_ hHl ?_
      rotate_left
      · simp only [gA, gB, gC]; rfl
      · exact fun _ _ _ h => h
      · exact Or.inl ⟨by kernel_rfl, fun w hSw => by go_simp⟩
      try simp only [Act.put, gD, gE, gF]
      refine ja1 (i := 4) (oi := ?oik26b4) (v := .pointer (some ⟨G, i, none⟩)) ?_ (by kernel_rfl) (by kernel_rfl) (by kernel_rfl) (by kernel_rfl) ?_ ?_ hHl ?_
      rotate_left
      · simp only [gA, gB, gC]; rfl
      · exact fun _ _ _ h => h
      · exact Or.inl ⟨by kernel_rfl, fun w hSw => by go_simp⟩
      try simp only [Act.put, gD, gE, gF]
      refine ja1 (i := 5) (oi := ?oik26b5) (v := .slice (some ⟨g, 0, none⟩) m c) ?_ (by kernel_rfl) (by kernel_rfl) (by kernel_rfl) (by kernel_rfl) ?_ ?_ hHl ?_
      rotate_left
      · simp only [gA, gB, gC]; rfl
      · exact fun _ _ _ h => h
      · exact Or.inl ⟨by kernel_rfl, fun w hSw => by obtain ⟨s1, s2, s3, s4, s5, s6, s7⟩ := hSw; go_simp⟩
      try simp only [Act.put, gD, gE, gF]
      refine ja1 (i := 6) (oi := ?oik26b6) (v := .pointer (some ⟨w.heap.size, 2, none⟩)) ?_ (by kernel_rfl) (by kernel_rfl) (by kernel_rfl) (by kernel_rfl) ?_ ?_ hHl ?_
      rotate_left
      · simp only [gA, gB, gC]; rfl
      · exact fun _ _ _ h => h
      · exact Or.inl ⟨by kernel_rfl, fun w hSw => by go_simp⟩
      try simp only [Act.put, gD, gE, gF]
      refine ja1 (i := 7) (oi := ?oik26b7) (v := .int .i64 (j : Int)) ?_ (by kernel_rfl) (by kernel_rfl) (by kernel_rfl) (by kernel_rfl) ?_ ?_ hHl ?_
      rotate_left
      · simp only [gA, gB, gC]; rfl
      · exact fun _ _ _ h => h
      · exact Or.inl ⟨by kernel_rfl, fun w hSw => by obtain ⟨s1, s2, s3, s4, s5, s6, s7⟩ := hSw; go_simp⟩
      try simp only [Act.put, gD, gE, gF]
      refine ja1 (i := 8) (oi := ?oik26b8) (v := .slice (some ⟨g, 0, none⟩) j c) ?_ (by kernel_rfl) (by kernel_rfl) (by kernel_rfl) (by kernel_rfl) ?_ ?_ hHl ?_
      rotate_left
      · simp only [gA, gB, gC]; rfl
      · exact fun _ _ _ h => h
      · exact Or.inl ⟨by kernel_rfl, fun w hSw => by go_simp⟩
      try simp only [Act.put, gD, gE, gF]
      refine ja1 (i := 10) (oi := ?oik26b10) (v := .pointer (some ⟨G, i, none⟩)) ?_ (by kernel_rfl) (by kernel_rfl) (by kernel_rfl) (by kernel_rfl) ?_ ?_ hHl ?_
      rotate_left
      · simp only [gA, gB, gC]; rfl
      · exact fun _ _ _ h => h
      · exact Or.inl ⟨by kernel_rfl, fun w hSw => by go_simp⟩
      try simp only [Act.put, gD, gE, gF]
      refine ja1 (i := 11) (oi := ?oik26b11) (v := .pointer (some ⟨G, i, none⟩)) ?_ (by kernel_rfl) (by kernel_rfl) (by kernel_rfl) (by kernel_rfl) ?_ ?_ hHl ?_
      rotate_left
      · simp only [gA, gB, gC]; rfl
      · exact fun _ _ _ h => h
      · exact Or.inl ⟨by kernel_rfl, fun w hSw => by go_simp⟩
      try simp only [Act.put, gD, gE, gF]
      refine ja1 (i := 12) (oi := ?oik26b12) (v := .pointer (some ⟨G, i, none⟩)) ?_ (by kernel_rfl) (by kernel_rfl) (by kernel_rfl) (by kernel_rfl) ?_ ?_ hHl ?_
      rotate_left
      · simp only [gA, gB, gC]; rfl
      · exact fun _ _ _ h => h
      · exact Or.inl ⟨by kernel_rfl, fun w hSw => by go_simp⟩
      try simp only [Act.put, gD, gE, gF]
      refine ja1 (i := 13) (oi := ?oik26b13) (v := .slice (some ⟨g, 0, none⟩) m c) ?_ (by kernel_rfl) (by kernel_rfl) (by kernel_rfl) (by kernel_rfl) ?_ ?_ hHl ?_
      rotate_left
      · simp only [gA, gB, gC]; rfl
      · exact fun _ _ _ h => h
      · exact Or.inl ⟨by kernel_rfl, fun w hSw => by obtain ⟨s1, s2, s3, s4, s5, s6, s7⟩ := hSw; go_simp⟩
      try simp only [Act.put, gD, gE, gF]
      refine ja1 (i := 14) (oi := ?oik26b14) (v := .pointer (some ⟨w.heap.size, 2, none⟩)) ?_ (by kernel_rfl) (by kernel_rfl) (by kernel_rfl) (by kernel_rfl) ?_ ?_ hHl ?_
      rotate_left
      · simp only [gA, gB, gC]; rfl
      · exact fun _ _ _ h => h
      · exact Or.inl ⟨by kernel_rfl, fun w hSw => by go_simp⟩
      try simp only [Act.put, gD, gE, gF]
      refine ja1 (i := 15) (oi := ?oik26b15) (v := .int .i64 (j : Int)) ?_ (by kernel_rfl) (by kernel_rfl) (by kernel_rfl) (by kernel_rfl) ?_ ?_ hHl ?_
      rotate_left
      · simp only [gA, gB, gC]; rfl
      · exact fun _ _ _ h => h
      · exact Or.inl ⟨by kernel_rfl, fun w hSw => by obtain ⟨s1, s2, s3, s4, s5, s6, s7⟩ := hSw; go_simp⟩
      try simp only [Act.put, gD, gE, gF]
      refine ja1 (i := 16) (oi := ?oik26b16) (v := .int .i64 (J : Int)) ?_ (by kernel_rfl) (by kernel_rfl) (by kernel_rfl) (by kernel_rfl) ?_ ?_ hHl ?_
      rotate_left
      · simp only [gA, gB, gC]; rfl
      · exact fun _ _ _ h => h
      · exact Or.inl ⟨by kernel_rfl, fun w hSw => by go_simp⟩
      try simp only [Act.put, gD, gE, gF]
      refine ja1 (i := 17) (oi := ?oik26b17) (v := .slice (some ⟨g, J * 3, none⟩) (m - J) (c - J)) ?_ (by kernel_rfl) (by kernel_rfl) (by kernel_rfl) (by kernel_rfl) ?_ ?_ hHl ?_
      rotate_left
      · simp only [gA, gB, gC]; rfl
      · exact fun _ _ _ h => h
      · exact Or.inl ⟨by kernel_rfl, fun w hSw => by go_simp⟩
      try simp only [Act.put, gD, gE, gF]
      refine ja7 (rs := [1]) (by kernel_rfl) (by simp) (AllReadyG.cons (o := ?ook26b1) ?_ (fun K hK => ?_) AllReadyG.nil)
      rotate_left
      · simp only [gA, gB, gC]; rfl
      go_simp
      try go_wp2_with fail
      have bz : Below wr.heap.size wr (wr.alloc (.cells #[] 52)).drew := by go_grown
      have Ba : Hid (Below wr.heap.size wr (wr.alloc (.cells #[] 52)).drew) := bz
      have Va : Hid ((wr.alloc (.cells #[] 52)).drew.ownsRow wr.heap.size 52 3 (.slice (some ⟨wr.heap.size, 0, none⟩) 0 0) 0 []) := jc4 (World.ownsRow_made wr #[] 0 (Nat.le_refl _) (by unfold maxLen; omega) rfl) (Nat.le_refl _)
      generalize hz9 : (wr.alloc (.cells #[] 52)).drew = wa at *
      clear hz9 bz
      refine hK.out _ _ (Or.inr ⟨(Ba.out.cell lE).trans e1, (Ba.out.cell lE).trans e2, (Ba.out.cell lE).trans e3, (Ba.out.cell lE).trans e4, (Ba.out.cell lE).trans e5, (Ba.out.cell lP).trans eP, (Ba.out.cell lG).trans eG⟩) (fun hHl => ?_)
      replace hHl := hHl.resolve_left (by decide)
      clear hK K
      try simp only [Act.put, gD, gE, gF]
      refine ja7 (rs := [9]) (by kernel_rfl) (by simp) (AllReadyG.cons (o := ?ook26b9) ?_ (fun K hK => ?_) AllReadyG.nil)
      rotate_left
      · simp only [gA, gB, gC]; rfl
      refine jd1 _ rfl (.tmp 211) (.tmp 218) 61 rfl wr.heap.size 52 i0 (.agg #[.int .i64 0, .int .i64 0, .int .i64 0]) 3 24 Tryz.underlying61 hi0 hz0 hz1 hz2 rfl (by decide) (.slice (some ⟨wr.heap.size, 0, none⟩) 0 0) 0 ([]) rfl Va.out (some ⟨g, 0, none⟩) (j) (c) (ja3 (q.take j)) rfl HLT.out (fun _ => ⟨_, rfl, jq7 (jc0 ow5.out Ba.out) j⟩) (je4 _) (by unfold maxLen; omega) (by omega) Ba.out.size ?_
      intro v6 w6 own6 grow6 new6
      have V6 : Hid (w6.ownsRow wr.heap.size 52 3 v6 j (ja3 (q.take j))) := by (have hh := own6; rw [Nat.zero_add, List.nil_append] at hh; exact hh)
      have B6 : Hid (Below wr.heap.size wr w6) := Ba.out.grown grow6 Ba.out.size (fun k hk => (World.ownsRow.lt Va.out k hk).1)
      clear own6 grow6 new6
      refine hK.out _ _ (Or.inr ⟨(B6.out.cell lE).trans e1, (B6.out.cell lE).trans e2, (B6.out.cell lE).trans e3, (B6.out.cell lE).trans e4, (B6.out.cell lE).trans e5, (B6.out.cell lP).trans eP, (B6.out.cell lG).trans eG⟩) (fun hHl => ?_)
      replace hHl := hHl.resolve_left (by decide)
      clear hK K
      try simp only [Act.put, gD, gE, gF]
      refine ja7 (rs := [18]) (by kernel_rfl) (by simp) (AllReadyG.cons (o := ?ook26b18) ?_ (fun K hK => ?_) AllReadyG.nil)
      rotate_left
      · simp only [gA, gB, gC]; rfl
      refine jd1 _ rfl (.tmp 219) (.tmp 227) 61 rfl wr.heap.size 52 i0 (.agg #[.int .i64 0, .int .i64 0, .int .i64 0]) 3 24 Tryz.underlying61 hi0 hz0 hz1 hz2 rfl (by decide) (v6) j (ja3 (q.take j)) rfl V6.out (some ⟨g, J * 3, none⟩) (m - J) (c - J) (ja3 (q.drop J)) rfl HLD.out (fun h0 => ⟨_, rfl, own_dropS (jc0 ow5.out B6.out) J⟩) (je4 _) (by unfold maxLen; omega) (by omega) B6.out.size ?_
      intro v10 w10 own10 grow10 new10
      have V10 : Hid (w10.ownsRow wr.heap.size 52 3 v10 (j + (m - J)) (ja3 (jp3 p j))) := by (have hh := own10; rw [HEA.out] at hh; exact hh)
      have B10 : Hid (Below wr.heap.size wr w10) := B6.out.grown grow10 B6.out.size (fun k hk => (World.ownsRow.lt V6.out k hk).1)
      clear own10 grow10 new10
      obtain ⟨xa, xm, xc, hqv⟩ := jd4 V10.out
      subst hqv
      refine hK.out _ _ (Or.inr ⟨(B10.out.cell lE).trans e1, (B10.out.cell lE).trans e2, (B10.out.cell lE).trans e3, (B10.out.cell lE).trans e4, (B10.out.cell lE).trans e5, (B10.out.cell lP).trans eP, (B10.out.cell lG).trans eG⟩) (fun hHl => ?_)
      replace hHl := hHl.resolve_left (by decide)
      clear hK K
      try simp only [Act.put, gD, gE, gF]
      refine ja7 (rs := [19]) (by kernel_rfl) (by simp) (AllReadyG.cons (o := ?ook26b19) ?_ (fun K hK => ?_) AllReadyG.nil)
      rotate_left
      · simp only [gA, gB, gC]; rfl
      go_simp
      have fG9 : w10.frozen? ⟨G, i, none⟩ = false := World.ownsRow.frozenAt (jc0 HD4.out.own.row B10.out) i
      have eG9 : w10.cell? ⟨G, i, none⟩ = some (.slice (some ⟨g, 0, none⟩) m c) := (B10.out.cell lG).trans eG
      try go_wp2_with fail
      refine hK.out _ _ (Or.inr ⟨(B10.out.cell lE).trans e1, (B10.out.cell lE).trans e2, (B10.out.cell lE).trans e3, (B10.out.cell lE).trans e4, (B10.out.cell lE).trans e5, (B10.out.cell lP).trans eP, (B10.out.cell lG).trans eG⟩) (fun hHl => ?_)
      replace hHl := hHl.resolve_left (by decide)
      clear hK K
      try simp only [Act.put, gD, gE, gF]
      refine ja7 (rs := [20]) (by kernel_rfl) (by simp) (AllReadyG.cons (o := ?ook26b20) ?_ (fun K hK => ?_) AllReadyG.nil)
      rotate_left
      · simp only [gA, gB, gC]; rfl
      go_simp
      try go_wp2_with fail
      refine hK.out _ _ (Or.inr ⟨(B10.out.cell lE).trans e1, (B10.out.cell lE).trans e2, (B10.out.cell lE).trans e3, (B10.out.cell lE).trans e4, (B10.out.cell lE).trans e5, (B10.out.cell lP).trans eP, (B10.out.cell lG).trans eG⟩) (fun hHl => ?_)
      replace hHl := hHl.resolve_left (by decide)
      clear hK K
      try simp only [Act.put, gD, gE, gF]
      refine ja7 (rs := [21]) (by kernel_rfl) (by simp) (AllReadyG.cons (o := ?ook26b21) ?_ (fun K hK => ?_) AllReadyG.nil)
      rotate_left
      · simp only [gA, gB, gC]; rfl
      go_simp
      try go_wp2_with fail
      refine hK.out _ _ (Or.inl rfl) (fun _ => ?_)
      clear hK K
      try simp only [Act.put, gD, gE, gF]
      refine jh2 (by kernel_rfl) ?_ _
      have HF : Hid (Own13 (w10.setCell ⟨G, i, none⟩ (.slice xa xm xc)) base (.slice (some ⟨G, 0, none⟩) (ps.set i q).length cap) (us.set i (.slice xa xm xc)) ((ps.set i q).set i (jp3 p j))) :=
       Own13.splV (R := jp3 p j) HD4.out.own (by simp [HN.out]; exact hi) HUI.out (jb3 B10.out (some g)) (by rw [HRL.out]; exact jc4 V10.out (Nat.le_trans hbase (Nat.le_of_lt lE))) (fun k hk => .inr (World.ownsRow.lt V10.out k hk).1)
      have HBX : Hid ((w10.setCell ⟨G, i, none⟩ (.slice xa xm xc)).heap[P]? = some (.cells #[.slice (some ⟨G, 0, none⟩) n cap] 26 (0, 0))) := by
       have h8 := HD4.out.box
       rw [List.length_set, HN.out] at h8
       exact (Below.heap_setCell _ _ _ _ (by show P ≠ G; exact HPG.out)).trans ((B10.out.block P lP).trans h8)
      have HBB : Hid (Below base w (w10.setCell ⟨G, i, none⟩ (.slice xa xm xc))) := (HD4.out.below.trans (B10.out.mono (Nat.le_trans hbase (Nat.le_of_lt lE)))).setCell hGb _
      have HES := jj3 ((Below.heap_setCell w10 ⟨G, i, none⟩ (.slice xa xm xc) _ (by show w.heap.size ≠ G; exact HEG.out)).trans ((B10.out.block _ lE).trans HD4.out.edit))
      generalize w10.setCell ⟨G, i, none⟩ (.slice xa xm xc) = wf at *
      have HFF : Hid (Own13 wf base (.slice (some ⟨G, 0, none⟩) n cap) (us.set i (.slice xa xm xc)) (ps.set i (jp3 p j))) := by (have h7 := HF.out; rw [List.set_set, List.length_set, HN.out] at h7; exact h7)
      obtain ⟨z3, z4, z5⟩ := HES
      clear e0 e1 e2 e3 e4 e5 eP eG fG fG9 eG9
      go_wp2
      all_goals
       go_ret
       exact ⟨by simp [qe5, *], _, HBX.out, HFF.out, HBB.out⟩
end Go.Proofs.YtldagpfeaabcdaaGreatDoor
