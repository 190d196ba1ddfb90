/-
 spec.l13Do: a procedure more; where there is no such place.
-/
import Derived.Test.YtldagpfeaabcdaaGreatDoorDo13N
import Derived.BigRegion
namespace Go.Proofs.YtldagpfeaabcdaaGreatDoor
open Go.RowKit
set_option linter.unusedVariables false
set_option linter.unusedSimpArgs false
set_option maxHeartbeats 8000000
set_option maxRecDepth 20000
theorem l13DoProc (ps : List (List Stm)) (pr a sk sx sy : Int) (P base G cap : Nat) (us : List Value) (w : World) (hl : ps.length ≤ 100) (hbP : base ≤ P) (hbase : base ≤ w.heap.size)
 (hP : w.heap[P]? = some (.cells #[.slice (some ⟨G, 0, none⟩) ps.length cap] 26 (0, 0))) (hO : Own13 w base (.slice (some ⟨G, 0, none⟩) ps.length cap) us ps) :
 Calls Tryz.prog 50 #[.pointer (some ⟨P, 0, none⟩), .agg #[.int .i64 4, .int .i64 pr, .int .i64 a, .int .i64 sk, .int .i64 sx, .int .i64 sy]] w fun r w' => r = .returned (.bool (decide (pr = 0) && decide (a = 0) && qe5 ⟨sk, sx, sy⟩)) ∧ ∃ u vs, w'.heap[P]? = some (.cells #[u] 26 (0, 0)) ∧ Own13 w' base u vs (ps ++ [[⟨9, 0, 0⟩]]) ∧ Below base w w' := by
 obtain ⟨j0, hj0, hy0, hy1, hy2⟩ := info_parts qa3
 have hbA : Below w.heap.size w (w.alloc (.cells #[.int .i64 4, .int .i64 pr, .int .i64 a, .int .i64 sk, .int .i64 sx, .int .i64 sy] 54)) := by go_grown
 have hPl : P < w.heap.size := (Array.getElem?_eq_some_iff.1 hP).1
 have D0 : Do13 w base P G cap 4 pr a sk sx sy us ps (w.alloc (.cells #[.int .i64 4, .int .i64 pr, .int .i64 a, .int .i64 sk, .int .i64 sx, .int .i64 sy] 54)) := ⟨heap_alloc_new w _, (hbA.block P hPl).trans hP, hO.kept hbA, hbA.mono hbase, by simp⟩
 obtain ⟨W0, hW0⟩ : ∃ W0, w.alloc (.cells #[.int .i64 4, .int .i64 pr, .int .i64 a, .int .i64 sk, .int .i64 sx, .int .i64 sy] 54) = W0 := ⟨_, rfl⟩
 rw [hW0] at D0
 obtain ⟨e0, e1, e2⟩ := jk2 D0.edit
 obtain ⟨e3, e4, e5⟩ := jj3 D0.edit
 obtain ⟨eP, fP⟩ := ja4 D0.box
 obtain ⟨W2, hW2⟩ : ∃ W2, (W0.alloc (.cells #[.int .i64 9, .int .i64 0, .int .i64 0] 52)).alloc (.cells #[.slice (some ⟨W0.heap.size, 0, none⟩) 1 1] 63) = W2 := ⟨_, rfl⟩
 have b2 : Below W0.heap.size W0 W2 := by rw [← hW2]; go_grown
 have z2 : W2.heap.size = W0.heap.size + 2 := by rw [← hW2]; simp
 have L1 : W2.heap[W0.heap.size]? = some (.cells #[.int .i64 9, .int .i64 0, .int .i64 0] 52 (0, 0)) := by rw [← hW2, ja2 (by simp)]; exact heap_alloc_new W0 _
 have L2 : W2.heap[W0.heap.size + 1]? = some (.cells #[.slice (some ⟨W0.heap.size, 0, none⟩) 1 1] 63 (0, 0)) := by
  rw [← hW2]
  have := heap_alloc_new (W0.alloc (.cells #[.int .i64 9, .int .i64 0, .int .i64 0] 52)) (.cells #[.slice (some ⟨W0.heap.size, 0, none⟩) 1 1] 63)
  simpa using this
 have hbs : base ≤ W0.heap.size := Nat.le_trans hbase (Nat.le_of_lt D0.size)
 have D2 := D0.kept b2 hbase
 have hrow2 := D2.own.row
 have hnew : W2.ownsRow base 52 3 (.slice (some ⟨W0.heap.size, 0, none⟩) 1 1) ([⟨9, 0, 0⟩] : List Stm).length (ja3 [⟨9, 0, 0⟩]) := ⟨rfl, .inr ⟨W0.heap.size, 1, _, rfl, hbs, L1, Nat.le_refl _, by unfold maxLen; omega, rfl, rfl⟩⟩
 have hcs : ∀ (j : Nat) (u : Value), [Value.slice (some ⟨W0.heap.size, 0, none⟩) 1 1][j]? = some u → W2.cell? ((⟨W0.heap.size + 1, 0, none⟩ : Addr).add j) = some u := fun j u hj => by
  rw [Addr.add_lit, Nat.zero_add, cell_of_row W2 _ j _ _ (0, 0) L2, ← hj]
  simp
 have HD2 : Hid (Do13 w base P G cap 4 pr a sk sx sy us ps W2) := D2
 have HNEW : Hid _ := hnew
 have hz2l : base ≤ W2.heap.size := by omega
 have HFR : Hid (∀ y ∈ us, ∀ k, y.ownBlock = some k → (Value.slice (some ⟨W0.heap.size, 0, none⟩) 1 1).ownBlock ≠ some k) := fun y hy k hk e => by
  have h1 := D0.own.lts y hy k hk
  have h2 : W0.heap.size = k := Option.some.inj e
  omega
 have hGb : base ≤ G := (hO.row.lt G rfl).1
 have HGP : Hid (P ≠ G) := fun e => jx0 D0.own.row D0.box (by decide) (by rw [e]; rfl)
 have HGE : Hid (w.heap.size ≠ G) := fun e => jx0 D0.own.row D0.edit (by decide) (by rw [e]; rfl)
 have HEP : Hid (w.heap.size ≠ P) := by show _ ≠ _; omega
 clear D0 D2 hnew hO hP hbA L1 L2 b2 z2
 go_enter Tryz.func50, Tryz.ntmps50
 go_wp2_with (first
  | (at_builtin; refine wpList_append_own _ rfl (.tmp 16) (.tmp 20) 24 rfl base 63 j0 (.agg #[.slice none 0 0]) 1 24 Tryz.underlying24 hj0 hy0 hy1 hy2 rfl (by decide) _ ps.length us rfl hrow2 ⟨W0.heap.size + 1, 0, none⟩ 1 1 [.slice (some ⟨W0.heap.size, 0, none⟩) 1 1] rfl rfl hcs (by simp [Value.oneCell']) (by unfold maxLen; omega) (by omega) hz2l ?_; intro v3 w3 own3 grow3 _; refine stop13 ?_)
  | go_in)
 unfold Stop13
 have HO5 : Hid (Own13 w3 base v3 (us ++ [.slice (some ⟨W0.heap.size, 0, none⟩) 1 1]) (ps ++ [[⟨9, 0, 0⟩]])) := Own13.app HD2.out.own HNEW.out HFR.out grow3 own3
 have HB5 : Hid (Below base w w3) := HD2.out.below.grown grow3 hz2l (fun q hq => by have : G = q := Option.some.inj hq; omega)
 rcases own3.2 with ⟨_, hn0⟩ | ⟨q, c3, cur, rfl, _⟩
 · omega
 have HE3 := (grow3.block _ HD2.out.size (fun e => HGE.out (Option.some.inj e))).trans HD2.out.edit
 have HP3 := (grow3.block P (Array.getElem?_eq_some_iff.1 HD2.out.box).1 (fun e => HGP.out (Option.some.inj e))).trans HD2.out.box
 have HE4 := (Below.heap_setCell w3 ⟨P, 0, none⟩ (.slice (some ⟨q, 0, none⟩) (ps.length + 1) c3) w.heap.size (by show w.heap.size ≠ P; exact HEP.out)).trans HE3
 have HP4 : Hid _ := jg1 HP3 (.slice (some ⟨q, 0, none⟩) (ps.length + 1) c3)
 obtain ⟨p0, p1⟩ := ja4 HP3
 clear e0 e1 e2 e3 e4 e5 eP fP
 obtain ⟨e0, e1, e2⟩ := jk2 HE4
 obtain ⟨e3, e4, e5⟩ := jj3 HE4
 have HO6 : Hid (Own13 (w3.setCell ⟨P, 0, none⟩ (.slice (some ⟨q, 0, none⟩) (ps.length + 1) c3)) base (.slice (some ⟨q, 0, none⟩) (ps.length + 1) c3) (us ++ [.slice (some ⟨W0.heap.size, 0, none⟩) 1 1]) (ps ++ [[⟨9, 0, 0⟩]])) := HO5.out.grown (jc3 _ _ _ _) (fun k hk => by (obtain rfl := Option.some.inj hk; exact .inr ⟨_, _, _, HP3, by decide, by decide⟩))
 have HB6 : Hid (Below base w (w3.setCell ⟨P, 0, none⟩ (.slice (some ⟨q, 0, none⟩) (ps.length + 1) c3))) := HB5.out.setCell hbP _
 clear own3 grow3 hcs HE3 HE4 HP3
 go_wp2
 all_goals
  go_ret
  exact ⟨by simp [qe5, *], _, _, HP4.out, HO6.out, HB6.out⟩
theorem l13DoNo1 (ps : List (List Stm)) (k pr a sk sx sy : Int) (n P base G cap : Nat) (us : List Value) (w : World) (hn : ps.length = n) (hl : n ≤ 100) (hp100 : ∀ p ∈ ps, p.length ≤ 100) (h4 : k ≠ 4) (hno : wiB pr ps.length = false) (hbP : base ≤ P) (hbase : base ≤ w.heap.size)
 (hP : w.heap[P]? = some (.cells #[.slice (some ⟨G, 0, none⟩) n cap] 26 (0, 0))) (hO : Own13 w base (.slice (some ⟨G, 0, none⟩) n cap) us ps) :
 Calls Tryz.prog 50 #[.pointer (some ⟨P, 0, none⟩), .agg #[.int .i64 k, .int .i64 pr, .int .i64 a, .int .i64 sk, .int .i64 sx, .int .i64 sy]] w fun r w' => r = .returned (.bool false) ∧ Below base w w' := by
 have hbA : Below w.heap.size w (w.alloc (.cells #[.int .i64 k, .int .i64 pr, .int .i64 a, .int .i64 sk, .int .i64 sx, .int .i64 sy] 54)) := by go_grown
 have hPl : P < w.heap.size := (Array.getElem?_eq_some_iff.1 hP).1
 subst hn
 have D0 : Do13 w base P G cap k pr a sk sx sy us ps (w.alloc (.cells #[.int .i64 k, .int .i64 pr, .int .i64 a, .int .i64 sk, .int .i64 sx, .int .i64 sy] 54)) := ⟨heap_alloc_new w _, (hbA.block P hPl).trans hP, hO.kept hbA, hbA.mono hbase, by simp⟩
 obtain ⟨W0, hW0⟩ : ∃ W0, w.alloc (.cells #[.int .i64 k, .int .i64 pr, .int .i64 a, .int .i64 sk, .int .i64 sx, .int .i64 sy] 54) = W0 := ⟨_, rfl⟩
 rw [hW0] at D0
 obtain ⟨e0, e1, e2⟩ := jk2 D0.edit
 obtain ⟨e3, e4, e5⟩ := jj3 D0.edit
 obtain ⟨eP, fP⟩ := ja4 D0.box
 have h4' : (k == 4) = false := by simpa using h4
 have hin1 := l1In pr 0 ((ps.length : Int) - 1)
 rw [show inB pr 0 ((ps.length : Int) - 1) = wiB pr ps.length by rw [jp0]; congr 1; omega] at hin1
 have hwn : IntKind.i64.wrap ((ps.length : Int) - 1) = (ps.length : Int) - 1 := IntWalk.i64_in _ (by omega)
 have HD0 : Hid (Do13 w base P G cap k pr a sk sx sy us ps W0) := D0
 have HB0 : Hid (Below base w W0.drew) := D0.below.drew
 rw [hno] at hin1
 clear D0 hO hP hbA
 go_enter Tryz.func50, Tryz.ntmps50
 go_wp2_with fail
 refine wp_region_held_drew (S := fun w' => w'.cell? ⟨w.heap.size, 1, none⟩ = some (.int .i64 pr) ∧ w'.cell? ⟨P, 0, none⟩ = some (.slice (some ⟨G, 0, none⟩) ps.length cap)) (by kernel_rfl) ⟨e1, eP⟩ (fun hHl => ?_)
 refine wpAnyH_take (i := 0) (oi := ?oin10) (v := .pointer (some ⟨w.heap.size, 1, none⟩)) ?_ (by kernel_rfl) (by kernel_rfl) (by kernel_rfl) ?_ ?_ hHl ?_
 rotate_left
 · simp only [gA, gB, gC]; rfl
 · exact fun _ _ _ h => h
 · exact Or.inl ⟨by kernel_rfl, fun w hSw => by go_simp⟩
 try simp only [Act.put, gD, gE, gF]
 refine wpAnyH_take (i := 1) (oi := ?oin11) (v := .int .i64 pr) ?_ (by kernel_rfl) (by kernel_rfl) (by kernel_rfl) ?_ ?_ hHl ?_
 rotate_left
 · simp only [gA, gB, gC]; rfl
 · exact fun _ _ _ h => h
 · exact Or.inl ⟨by kernel_rfl, fun w hSw => by obtain ⟨s1, s6⟩ := hSw; go_simp⟩
 try simp only [Act.put, gD, gE, gF]
 refine wpAnyH_take (i := 2) (oi := ?oin12) (v := .pointer (some ⟨P, 0, none⟩)) ?_ (by kernel_rfl) (by kernel_rfl) (by kernel_rfl) ?_ ?_ hHl ?_
 rotate_left
 · simp only [gA, gB, gC]; rfl
 · exact fun _ _ _ h => h
 · exact Or.inl ⟨by kernel_rfl, fun w hSw => by go_simp⟩
 try simp only [Act.put, gD, gE, gF]
 refine wpAnyH_take (i := 3) (oi := ?oin13) (v := .pointer (some ⟨P, 0, none⟩)) ?_ (by kernel_rfl) (by kernel_rfl) (by kernel_rfl) ?_ ?_ hHl ?_
 rotate_left
 · simp only [gA, gB, gC]; rfl
 · exact fun _ _ _ h => h
 · exact Or.inl ⟨by kernel_rfl, fun w hSw => by go_simp⟩
 try simp only [Act.put, gD, gE, gF]
 refine wpAnyH_take (i := 4) (oi := ?oin14) (v := .pointer (some ⟨P, 0, none⟩)) ?_ (by kernel_rfl) (by kernel_rfl) (by kernel_rfl) ?_ ?_ hHl ?_
 rotate_left
 · simp only [gA, gB, gC]; rfl
 · exact fun _ _ _ h => h
 · exact Or.inl ⟨by kernel_rfl, fun w hSw => by go_simp⟩
 try simp only [Act.put, gD, gE, gF]
 refine wpAnyH_take (i := 5) (oi := ?oin15) (v := .slice (some ⟨G, 0, none⟩) ps.length cap) ?_ (by kernel_rfl) (by kernel_rfl) (by kernel_rfl) ?_ ?_ hHl ?_
 rotate_left
 · simp only [gA, gB, gC]; rfl
 · exact fun _ _ _ h => h
 · exact Or.inl ⟨by kernel_rfl, fun w hSw => by obtain ⟨s1, s6⟩ := hSw; go_simp⟩
 try simp only [Act.put, gD, gE, gF]
 refine wpAnyH_take (i := 6) (oi := ?oin16) (v := .int .i64 (ps.length : Int)) ?_ (by kernel_rfl) (by kernel_rfl) (by kernel_rfl) ?_ ?_ hHl ?_
 rotate_left
 · simp only [gA, gB, gC]; rfl
 · exact fun _ _ _ h => h
 · exact Or.inl ⟨by kernel_rfl, fun w hSw => by go_simp⟩
 try simp only [Act.put, gD, gE, gF]
 refine wpAnyH_take (i := 7) (oi := ?oin17) (v := .int .i64 ((ps.length : Int) - 1)) ?_ (by kernel_rfl) (by kernel_rfl) (by kernel_rfl) ?_ ?_ hHl ?_
 rotate_left
 · simp only [gA, gB, gC]; rfl
 · exact fun _ _ _ h => h
 · exact Or.inl ⟨by kernel_rfl, fun w hSw => by go_simp⟩
 try simp only [Act.put, gD, gE, gF]
 refine wpAnyH_ready (rs := [8]) (by kernel_rfl) (by simp) (AllReadyH.cons (o := ?oon18) ?_ (fun K hK => ?_) AllReadyH.nil)
 rotate_left
 · simp only [gA, gB, gC]; rfl
 go_simp
 go_at_call 59
 refine (hin1 _).mono ?_
 rintro r wz ⟨rfl, rfl⟩
 try go_wp2_with fail
 refine hK.out _ _ ⟨e1, eP⟩ (fun hHl => ?_)
 clear hK K
 try simp only [Act.put, gD, gE, gF]
 refine wpAnyH_take (i := 9) (oi := ?oin19) (v := .bool true) ?_ (by kernel_rfl) (by kernel_rfl) (by kernel_rfl) ?_ ?_ hHl ?_
 rotate_left
 · simp only [gA, gB, gC]; rfl
 · exact fun _ _ _ h => h
 · exact Or.inl ⟨by kernel_rfl, fun w hSw => by go_simp⟩
 try simp only [Act.put, gD, gE, gF]
 refine wpAnyH_take (i := 10) (oi := ?oin110) (v := .bool true) ?_ (by kernel_rfl) (by kernel_rfl) (by kernel_rfl) ?_ ?_ hHl ?_
 rotate_left
 · simp only [gA, gB, gC]; rfl
 · exact fun _ _ _ h => h
 · exact Or.inl ⟨by kernel_rfl, fun w hSw => by go_simp⟩
 try simp only [Act.put, gD, gE, gF]
 refine wpAnyH_take (i := 11) (oi := ?oin111) (v := undef) ?_ (by kernel_rfl) (by kernel_rfl) (by kernel_rfl) ?_ ?_ hHl ?_
 rotate_left
 · simp only [gA, gB, gC]; rfl
 · exact fun _ _ _ h => h
 · exact Or.inr ⟨by kernel_rfl, rfl⟩
 try simp only [Act.put, gD, gE, gF]
 refine wpAnyH_take (i := 12) (oi := ?oin112) (v := undef) ?_ (by kernel_rfl) (by kernel_rfl) (by kernel_rfl) ?_ ?_ hHl ?_
 rotate_left
 · simp only [gA, gB, gC]; rfl
 · exact fun _ _ _ h => h
 · exact Or.inr ⟨by kernel_rfl, rfl⟩
 try simp only [Act.put, gD, gE, gF]
 refine wpAnyH_take (i := 13) (oi := ?oin113) (v := undef) ?_ (by kernel_rfl) (by kernel_rfl) (by kernel_rfl) ?_ ?_ hHl ?_
 rotate_left
 · simp only [gA, gB, gC]; rfl
 · exact fun _ _ _ h => h
 · exact Or.inr ⟨by kernel_rfl, rfl⟩
 try simp only [Act.put, gD, gE, gF]
 refine wpAnyH_take (i := 14) (oi := ?oin114) (v := undef) ?_ (by kernel_rfl) (by kernel_rfl) (by kernel_rfl) ?_ ?_ hHl ?_
 rotate_left
 · simp only [gA, gB, gC]; rfl
 · exact fun _ _ _ h => h
 · exact Or.inr ⟨by kernel_rfl, rfl⟩
 try simp only [Act.put, gD, gE, gF]
 refine wpAnyH_take (i := 15) (oi := ?oin115) (v := undef) ?_ (by kernel_rfl) (by kernel_rfl) (by kernel_rfl) ?_ ?_ hHl ?_
 rotate_left
 · simp only [gA, gB, gC]; rfl
 · exact fun _ _ _ h => h
 · exact Or.inr ⟨by kernel_rfl, rfl⟩
 try simp only [Act.put, gD, gE, gF]
 refine wpAnyH_take (i := 16) (oi := ?oin116) (v := undef) ?_ (by kernel_rfl) (by kernel_rfl) (by kernel_rfl) ?_ ?_ hHl ?_
 rotate_left
 · simp only [gA, gB, gC]; rfl
 · exact fun _ _ _ h => h
 · exact Or.inr ⟨by kernel_rfl, rfl⟩
 try simp only [Act.put, gD, gE, gF]
 refine wpAnyH_take (i := 17) (oi := ?oin117) (v := undef) ?_ (by kernel_rfl) (by kernel_rfl) (by kernel_rfl) ?_ ?_ hHl ?_
 rotate_left
 · simp only [gA, gB, gC]; rfl
 · exact fun _ _ _ h => h
 · exact Or.inr ⟨by kernel_rfl, rfl⟩
 try simp only [Act.put, gD, gE, gF]
 refine wpAnyH_take (i := 18) (oi := ?oin118) (v := undef) ?_ (by kernel_rfl) (by kernel_rfl) (by kernel_rfl) ?_ ?_ hHl ?_
 rotate_left
 · simp only [gA, gB, gC]; rfl
 · exact fun _ _ _ h => h
 · exact Or.inr ⟨by kernel_rfl, rfl⟩
 try simp only [Act.put, gD, gE, gF]
 refine wpAnyH_take (i := 19) (oi := ?oin119) (v := undef) ?_ (by kernel_rfl) (by kernel_rfl) (by kernel_rfl) ?_ ?_ hHl ?_
 rotate_left
 · simp only [gA, gB, gC]; rfl
 · exact fun _ _ _ h => h
 · exact Or.inr ⟨by kernel_rfl, rfl⟩
 try simp only [Act.put, gD, gE, gF]
 refine wpAnyH_take (i := 20) (oi := ?oin120) (v := undef) ?_ (by kernel_rfl) (by kernel_rfl) (by kernel_rfl) ?_ ?_ hHl ?_
 rotate_left
 · simp only [gA, gB, gC]; rfl
 · exact fun _ _ _ h => h
 · exact Or.inr ⟨by kernel_rfl, rfl⟩
 try simp only [Act.put, gD, gE, gF]
 refine wpAnyH_take (i := 21) (oi := ?oin121) (v := undef) ?_ (by kernel_rfl) (by kernel_rfl) (by kernel_rfl) ?_ ?_ hHl ?_
 rotate_left
 · simp only [gA, gB, gC]; rfl
 · exact fun _ _ _ h => h
 · exact Or.inr ⟨by kernel_rfl, rfl⟩
 try simp only [Act.put, gD, gE, gF]
 refine wpAnyH_take (i := 22) (oi := ?oin122) (v := undef) ?_ (by kernel_rfl) (by kernel_rfl) (by kernel_rfl) ?_ ?_ hHl ?_
 rotate_left
 · simp only [gA, gB, gC]; rfl
 · exact fun _ _ _ h => h
 · exact Or.inr ⟨by kernel_rfl, rfl⟩
 try simp only [Act.put, gD, gE, gF]
 refine wpAnyH_take (i := 23) (oi := ?oin123) (v := undef) ?_ (by kernel_rfl) (by kernel_rfl) (by kernel_rfl) ?_ ?_ hHl ?_
 rotate_left
 · simp only [gA, gB, gC]; rfl
 · exact fun _ _ _ h => h
 · exact Or.inr ⟨by kernel_rfl, rfl⟩
 try simp only [Act.put, gD, gE, gF]
 refine wpAnyH_take (i := 24) (oi := ?oin124) (v := undef) ?_ (by kernel_rfl) (by kernel_rfl) (by kernel_rfl) ?_ ?_ hHl ?_
 rotate_left
 · simp only [gA, gB, gC]; rfl
 · exact fun _ _ _ h => h
 · exact Or.inr ⟨by kernel_rfl, rfl⟩
 try simp only [Act.put, gD, gE, gF]
 refine wpAnyH_take (i := 25) (oi := ?oin125) (v := undef) ?_ (by kernel_rfl) (by kernel_rfl) (by kernel_rfl) ?_ ?_ hHl ?_
 rotate_left
 · simp only [gA, gB, gC]; rfl
 · exact fun _ _ _ h => h
 · exact Or.inr ⟨by kernel_rfl, rfl⟩
 try simp only [Act.put, gD, gE, gF]
 refine wpAnyH_take (i := 26) (oi := ?oin126) (v := .bool true) ?_ (by kernel_rfl) (by kernel_rfl) (by kernel_rfl) ?_ ?_ hHl ?_
 rotate_left
 · simp only [gA, gB, gC]; rfl
 · exact fun _ _ _ h => h
 · exact Or.inl ⟨by kernel_rfl, fun w hSw => by go_simp⟩
 try simp only [Act.put, gD, gE, gF]
 refine wpAnyH_done (by kernel_rfl) ?_ _
 generalize W0.drew = W1 at *
 go_wp2
 go_ret
 exact ⟨rfl, HB0.out⟩
theorem l13DoNo2 (ps : List (List Stm)) (k pr a sk sx sy : Int) (n P base G cap : Nat) (us : List Value) (w : World) (hn : ps.length = n) (hl : n ≤ 100) (hp100 : ∀ p ∈ ps, p.length ≤ 100) (h4 : k ≠ 4) (hyes : wiB pr ps.length = true) (hno : wiB a (ps.getD pr.toNat []).length = false) (hbP : base ≤ P) (hbase : base ≤ w.heap.size)
 (hP : w.heap[P]? = some (.cells #[.slice (some ⟨G, 0, none⟩) n cap] 26 (0, 0))) (hO : Own13 w base (.slice (some ⟨G, 0, none⟩) n cap) us ps) :
 Calls Tryz.prog 50 #[.pointer (some ⟨P, 0, none⟩), .agg #[.int .i64 k, .int .i64 pr, .int .i64 a, .int .i64 sk, .int .i64 sx, .int .i64 sy]] w fun r w' => r = .returned (.bool false) ∧ Below base w w' := by
 have hbA : Below w.heap.size w (w.alloc (.cells #[.int .i64 k, .int .i64 pr, .int .i64 a, .int .i64 sk, .int .i64 sx, .int .i64 sy] 54)) := by go_grown
 have hPl : P < w.heap.size := (Array.getElem?_eq_some_iff.1 hP).1
 subst hn
 have D0 : Do13 w base P G cap k pr a sk sx sy us ps (w.alloc (.cells #[.int .i64 k, .int .i64 pr, .int .i64 a, .int .i64 sk, .int .i64 sx, .int .i64 sy] 54)) := ⟨heap_alloc_new w _, (hbA.block P hPl).trans hP, hO.kept hbA, hbA.mono hbase, by simp⟩
 obtain ⟨W0, hW0⟩ : ∃ W0, w.alloc (.cells #[.int .i64 k, .int .i64 pr, .int .i64 a, .int .i64 sk, .int .i64 sx, .int .i64 sy] 54) = W0 := ⟨_, rfl⟩
 rw [hW0] at D0
 obtain ⟨e0, e1, e2⟩ := jk2 D0.edit
 obtain ⟨e3, e4, e5⟩ := jj3 D0.edit
 obtain ⟨eP, fP⟩ := ja4 D0.box
 have h4' : (k == 4) = false := by simpa using h4
 have hin1 := l1In pr 0 ((ps.length : Int) - 1)
 rw [show inB pr 0 ((ps.length : Int) - 1) = wiB pr ps.length by rw [jp0]; congr 1; omega] at hin1
 have hwn : IntKind.i64.wrap ((ps.length : Int) - 1) = (ps.length : Int) - 1 := IntWalk.i64_in _ (by omega)
 have HD0 : Hid (Do13 w base P G cap k pr a sk sx sy us ps W0) := D0
 have HB0 : Hid (Below base w W0.drew) := D0.below.drew
 rw [hyes] at hin1
 obtain ⟨y0, y1⟩ := qa4 hyes
 obtain ⟨i, rfl⟩ : ∃ i : Nat, pr = i := ⟨pr.toNat, by omega⟩
 have hi : i < ps.length := by omega
 have hgd : ps.getD i [] = ps[i] := by simp [List.getD, hi]
 simp only [Int.toNat_natCast, hgd] at hno
 have hpi : ps[i]? = some ps[i] := by simp [hi]
 have hpl := hp100 ps[i] (List.getElem_mem hi)
 obtain ⟨x, hui⟩ : ∃ x, us[i]? = some x := ⟨us[i]'(by rw [hO.len]; exact hi), by simp⟩
 have hox := hO.each i x ps[i] hui hpi
 have hxf : ∃ ao c, x = .slice ao ps[i].length c := by
  rcases hox.2 with ⟨rfl, h0⟩ | ⟨g, cap', cur, rfl, _⟩
  · exact ⟨none, 0, by rw [h0]⟩
  · exact ⟨_, _, rfl⟩
 obtain ⟨ao, c, rfl⟩ := hxf
 have eG : W0.cell? ⟨G, i, none⟩ = some (.slice ao ps[i].length c) := by rw [D0.own.row.cellAt i (by omega)]; exact hui
 have hin2 := l1In a 0 ((ps[i].length : Int) - 1)
 rw [show inB a 0 ((ps[i].length : Int) - 1) = wiB a ps[i].length by rw [jp0]; congr 1; omega, hno] at hin2
 have hiI : (i : Int) < (ps.length : Int) := by omega
 clear hox hui hpi hgd hno
 generalize ps[i].length = m at *
 have hwm : IntKind.i64.wrap ((m : Int) - 1) = (m : Int) - 1 := IntWalk.i64_in _ (by omega)
 clear D0 hO hP hbA
 go_enter Tryz.func50, Tryz.ntmps50
 go_wp2_with fail
 refine wp_region_held_drew (S := fun w' => w'.cell? ⟨w.heap.size, 1, none⟩ = some (.int .i64 (i : Int)) ∧ w'.cell? ⟨w.heap.size, 2, none⟩ = some (.int .i64 a) ∧ w'.cell? ⟨P, 0, none⟩ = some (.slice (some ⟨G, 0, none⟩) ps.length cap) ∧ w'.cell? ⟨G, i, none⟩ = some (.slice ao m c)) (by kernel_rfl) ⟨e1, e2, eP, eG⟩ (fun hHl => ?_)
 refine wpAnyH_take (i := 0) (oi := ?oin20) (v := .pointer (some ⟨w.heap.size, 1, none⟩)) ?_ (by kernel_rfl) (by kernel_rfl) (by kernel_rfl) ?_ ?_ hHl ?_
 rotate_left
 · simp only [gA, gB, gC]; rfl
 · exact fun _ _ _ h => h
 · exact Or.inl ⟨by kernel_rfl, fun w hSw => by go_simp⟩
 try simp only [Act.put, gD, gE, gF]
 refine wpAnyH_take (i := 1) (oi := ?oin21) (v := .int .i64 (i : Int)) ?_ (by kernel_rfl) (by kernel_rfl) (by kernel_rfl) ?_ ?_ hHl ?_
 rotate_left
 · simp only [gA, gB, gC]; rfl
 · exact fun _ _ _ h => h
 · exact Or.inl ⟨by kernel_rfl, fun w hSw => by obtain ⟨s1, s2, s6, s7⟩ := hSw; go_simp⟩
 try simp only [Act.put, gD, gE, gF]
 refine wpAnyH_take (i := 2) (oi := ?oin22) (v := .pointer (some ⟨P, 0, none⟩)) ?_ (by kernel_rfl) (by kernel_rfl) (by kernel_rfl) ?_ ?_ hHl ?_
 rotate_left
 · simp only [gA, gB, gC]; rfl
 · exact fun _ _ _ h => h
 · exact Or.inl ⟨by kernel_rfl, fun w hSw => by go_simp⟩
 try simp only [Act.put, gD, gE, gF]
 refine wpAnyH_take (i := 3) (oi := ?oin23) (v := .pointer (some ⟨P, 0, none⟩)) ?_ (by kernel_rfl) (by kernel_rfl) (by kernel_rfl) ?_ ?_ hHl ?_
 rotate_left
 · simp only [gA, gB, gC]; rfl
 · exact fun _ _ _ h => h
 · exact Or.inl ⟨by kernel_rfl, fun w hSw => by go_simp⟩
 try simp only [Act.put, gD, gE, gF]
 refine wpAnyH_take (i := 4) (oi := ?oin24) (v := .pointer (some ⟨P, 0, none⟩)) ?_ (by kernel_rfl) (by kernel_rfl) (by kernel_rfl) ?_ ?_ hHl ?_
 rotate_left
 · simp only [gA, gB, gC]; rfl
 · exact fun _ _ _ h => h
 · exact Or.inl ⟨by kernel_rfl, fun w hSw => by go_simp⟩
 try simp only [Act.put, gD, gE, gF]
 refine wpAnyH_take (i := 5) (oi := ?oin25) (v := .slice (some ⟨G, 0, none⟩) ps.length cap) ?_ (by kernel_rfl) (by kernel_rfl) (by kernel_rfl) ?_ ?_ hHl ?_
 rotate_left
 · simp only [gA, gB, gC]; rfl
 · exact fun _ _ _ h => h
 · exact Or.inl ⟨by kernel_rfl, fun w hSw => by obtain ⟨s1, s2, s6, s7⟩ := hSw; go_simp⟩
 try simp only [Act.put, gD, gE, gF]
 refine wpAnyH_take (i := 6) (oi := ?oin26) (v := .int .i64 (ps.length : Int)) ?_ (by kernel_rfl) (by kernel_rfl) (by kernel_rfl) ?_ ?_ hHl ?_
 rotate_left
 · simp only [gA, gB, gC]; rfl
 · exact fun _ _ _ h => h
 · exact Or.inl ⟨by kernel_rfl, fun w hSw => by go_simp⟩
 try simp only [Act.put, gD, gE, gF]
 refine wpAnyH_take (i := 7) (oi := ?oin27) (v := .int .i64 ((ps.length : Int) - 1)) ?_ (by kernel_rfl) (by kernel_rfl) (by kernel_rfl) ?_ ?_ hHl ?_
 rotate_left
 · simp only [gA, gB, gC]; rfl
 · exact fun _ _ _ h => h
 · exact Or.inl ⟨by kernel_rfl, fun w hSw => by go_simp⟩
 try simp only [Act.put, gD, gE, gF]
 refine wpAnyH_ready (rs := [8]) (by kernel_rfl) (by simp) (AllReadyH.cons (o := ?oon28) ?_ (fun K hK => ?_) AllReadyH.nil)
 rotate_left
 · simp only [gA, gB, gC]; rfl
 go_simp
 go_at_call 59
 refine (hin1 _).mono ?_
 rintro r wz ⟨rfl, rfl⟩
 try go_wp2_with fail
 refine hK.out _ _ ⟨e1, e2, eP, eG⟩ (fun hHl => ?_)
 clear hK K
 try simp only [Act.put, gD, gE, gF]
 refine wpAnyH_take (i := 9) (oi := ?oin29) (v := .bool false) ?_ (by kernel_rfl) (by kernel_rfl) (by kernel_rfl) ?_ ?_ hHl ?_
 rotate_left
 · simp only [gA, gB, gC]; rfl
 · exact fun _ _ _ h => h
 · exact Or.inl ⟨by kernel_rfl, fun w hSw => by go_simp⟩
 try simp only [Act.put, gD, gE, gF]
 refine wpAnyH_take (i := 10) (oi := ?oin210) (v := .bool false) ?_ (by kernel_rfl) (by kernel_rfl) (by kernel_rfl) ?_ ?_ hHl ?_
 rotate_left
 · simp only [gA, gB, gC]; rfl
 · exact fun _ _ _ h => h
 · exact Or.inl ⟨by kernel_rfl, fun w hSw => by go_simp⟩
 try simp only [Act.put, gD, gE, gF]
 refine wpAnyH_take (i := 11) (oi := ?oin211) (v := .pointer (some ⟨w.heap.size, 2, none⟩)) ?_ (by kernel_rfl) (by kernel_rfl) (by kernel_rfl) ?_ ?_ hHl ?_
 rotate_left
 · simp only [gA, gB, gC]; rfl
 · exact fun _ _ _ h => h
 · exact Or.inl ⟨by kernel_rfl, fun w hSw => by go_simp⟩
 try simp only [Act.put, gD, gE, gF]
 refine wpAnyH_take (i := 12) (oi := ?oin212) (v := .int .i64 a) ?_ (by kernel_rfl) (by kernel_rfl) (by kernel_rfl) ?_ ?_ hHl ?_
 rotate_left
 · simp only [gA, gB, gC]; rfl
 · exact fun _ _ _ h => h
 · exact Or.inl ⟨by kernel_rfl, fun w hSw => by obtain ⟨s1, s2, s6, s7⟩ := hSw; go_simp⟩
 try simp only [Act.put, gD, gE, gF]
 refine wpAnyH_take (i := 13) (oi := ?oin213) (v := .pointer (some ⟨P, 0, none⟩)) ?_ (by kernel_rfl) (by kernel_rfl) (by kernel_rfl) ?_ ?_ hHl ?_
 rotate_left
 · simp only [gA, gB, gC]; rfl
 · exact fun _ _ _ h => h
 · exact Or.inl ⟨by kernel_rfl, fun w hSw => by go_simp⟩
 try simp only [Act.put, gD, gE, gF]
 refine wpAnyH_take (i := 14) (oi := ?oin214) (v := .pointer (some ⟨P, 0, none⟩)) ?_ (by kernel_rfl) (by kernel_rfl) (by kernel_rfl) ?_ ?_ hHl ?_
 rotate_left
 · simp only [gA, gB, gC]; rfl
 · exact fun _ _ _ h => h
 · exact Or.inl ⟨by kernel_rfl, fun w hSw => by go_simp⟩
 try simp only [Act.put, gD, gE, gF]
 refine wpAnyH_take (i := 15) (oi := ?oin215) (v := .pointer (some ⟨P, 0, none⟩)) ?_ (by kernel_rfl) (by kernel_rfl) (by kernel_rfl) ?_ ?_ hHl ?_
 rotate_left
 · simp only [gA, gB, gC]; rfl
 · exact fun _ _ _ h => h
 · exact Or.inl ⟨by kernel_rfl, fun w hSw => by go_simp⟩
 try simp only [Act.put, gD, gE, gF]
 refine wpAnyH_take (i := 16) (oi := ?oin216) (v := .slice (some ⟨G, 0, none⟩) ps.length cap) ?_ (by kernel_rfl) (by kernel_rfl) (by kernel_rfl) ?_ ?_ hHl ?_
 rotate_left
 · simp only [gA, gB, gC]; rfl
 · exact fun _ _ _ h => h
 · exact Or.inl ⟨by kernel_rfl, fun w hSw => by obtain ⟨s1, s2, s6, s7⟩ := hSw; go_simp⟩
 try simp only [Act.put, gD, gE, gF]
 refine wpAnyH_take (i := 17) (oi := ?oin217) (v := .pointer (some ⟨w.heap.size, 1, none⟩)) ?_ (by kernel_rfl) (by kernel_rfl) (by kernel_rfl) ?_ ?_ hHl ?_
 rotate_left
 · simp only [gA, gB, gC]; rfl
 · exact fun _ _ _ h => h
 · exact Or.inl ⟨by kernel_rfl, fun w hSw => by go_simp⟩
 try simp only [Act.put, gD, gE, gF]
 refine wpAnyH_take (i := 18) (oi := ?oin218) (v := .int .i64 (i : Int)) ?_ (by kernel_rfl) (by kernel_rfl) (by kernel_rfl) ?_ ?_ hHl ?_
 rotate_left
 · simp only [gA, gB, gC]; rfl
 · exact fun _ _ _ h => h
 · exact Or.inl ⟨by kernel_rfl, fun w hSw => by obtain ⟨s1, s2, s6, s7⟩ := hSw; go_simp⟩
 try simp only [Act.put, gD, gE, gF]
 refine wpAnyH_take (i := 19) (oi := ?oin219) (v := .pointer (some ⟨G, i, none⟩)) ?_ (by kernel_rfl) (by kernel_rfl) (by kernel_rfl) ?_ ?_ hHl ?_
 rotate_left
 · simp only [gA, gB, gC]; rfl
 · exact fun _ _ _ h => h
 · exact Or.inl ⟨by kernel_rfl, fun w hSw => by go_simp⟩
 try simp only [Act.put, gD, gE, gF]
 refine wpAnyH_take (i := 20) (oi := ?oin220) (v := .pointer (some ⟨G, i, none⟩)) ?_ (by kernel_rfl) (by kernel_rfl) (by kernel_rfl) ?_ ?_ hHl ?_
 rotate_left
 · simp only [gA, gB, gC]; rfl
 · exact fun _ _ _ h => h
 · exact Or.inl ⟨by kernel_rfl, fun w hSw => by go_simp⟩
 try simp only [Act.put, gD, gE, gF]
 refine wpAnyH_take (i := 21) (oi := ?oin221) (v := .slice ao m c) ?_ (by kernel_rfl) (by kernel_rfl) (by kernel_rfl) ?_ ?_ hHl ?_
 rotate_left
 · simp only [gA, gB, gC]; rfl
 · exact fun _ _ _ h => h
 · exact Or.inl ⟨by kernel_rfl, fun w hSw => by obtain ⟨s1, s2, s6, s7⟩ := hSw; go_simp⟩
 try simp only [Act.put, gD, gE, gF]
 refine wpAnyH_take (i := 22) (oi := ?oin222) (v := .int .i64 (m : Int)) ?_ (by kernel_rfl) (by kernel_rfl) (by kernel_rfl) ?_ ?_ hHl ?_
 rotate_left
 · simp only [gA, gB, gC]; rfl
 · exact fun _ _ _ h => h
 · exact Or.inl ⟨by kernel_rfl, fun w hSw => by go_simp⟩
 try simp only [Act.put, gD, gE, gF]
 refine wpAnyH_take (i := 23) (oi := ?oin223) (v := .int .i64 ((m : Int) - 1)) ?_ (by kernel_rfl) (by kernel_rfl) (by kernel_rfl) ?_ ?_ hHl ?_
 rotate_left
 · simp only [gA, gB, gC]; rfl
 · exact fun _ _ _ h => h
 · exact Or.inl ⟨by kernel_rfl, fun w hSw => by go_simp⟩
 try simp only [Act.put, gD, gE, gF]
 refine wpAnyH_ready (rs := [24]) (by kernel_rfl) (by simp) (AllReadyH.cons (o := ?oon224) ?_ (fun K hK => ?_) AllReadyH.nil)
 rotate_left
 · simp only [gA, gB, gC]; rfl
 go_simp
 go_at_call 59
 refine (hin2 _).mono ?_
 rintro r wz ⟨rfl, rfl⟩
 try go_wp2_with fail
 refine hK.out _ _ ⟨e1, e2, eP, eG⟩ (fun hHl => ?_)
 clear hK K
 try simp only [Act.put, gD, gE, gF]
 refine wpAnyH_take (i := 25) (oi := ?oin225) (v := .bool true) ?_ (by kernel_rfl) (by kernel_rfl) (by kernel_rfl) ?_ ?_ hHl ?_
 rotate_left
 · simp only [gA, gB, gC]; rfl
 · exact fun _ _ _ h => h
 · exact Or.inl ⟨by kernel_rfl, fun w hSw => by go_simp⟩
 try simp only [Act.put, gD, gE, gF]
 refine wpAnyH_take (i := 26) (oi := ?oin226) (v := .bool true) ?_ (by kernel_rfl) (by kernel_rfl) (by kernel_rfl) ?_ ?_ hHl ?_
 rotate_left
 · simp only [gA, gB, gC]; rfl
 · exact fun _ _ _ h => h
 · exact Or.inl ⟨by kernel_rfl, fun w hSw => by go_simp⟩
 try simp only [Act.put, gD, gE, gF]
 refine wpAnyH_done (by kernel_rfl) ?_ _
 generalize W0.drew = W1 at *
 go_wp2
 go_ret
 exact ⟨rfl, HB0.out⟩
theorem l13DoNo3 (ps : List (List Stm)) (k pr a sk sx sy : Int) (n P base G cap : Nat) (us : List Value) (w : World) (hn : ps.length = n) (hl : n ≤ 100) (hp100 : ∀ p ∈ ps, p.length ≤ 100) (h4 : k ≠ 4) (h1 : k ≠ 1) (h2 : k ≠ 2) (h3 : k ≠ 3) (hyes : wiB pr ps.length = true) (hno : wiB a (ps.getD pr.toNat []).length = true) (hbP : base ≤ P) (hbase : base ≤ w.heap.size)
 (hP : w.heap[P]? = some (.cells #[.slice (some ⟨G, 0, none⟩) n cap] 26 (0, 0))) (hO : Own13 w base (.slice (some ⟨G, 0, none⟩) n cap) us ps) :
 Calls Tryz.prog 50 #[.pointer (some ⟨P, 0, none⟩), .agg #[.int .i64 k, .int .i64 pr, .int .i64 a, .int .i64 sk, .int .i64 sx, .int .i64 sy]] w fun r w' => r = .returned (.bool false) ∧ Below base w w' := by
 have hbA : Below w.heap.size w (w.alloc (.cells #[.int .i64 k, .int .i64 pr, .int .i64 a, .int .i64 sk, .int .i64 sx, .int .i64 sy] 54)) := by go_grown
 have hPl : P < w.heap.size := (Array.getElem?_eq_some_iff.1 hP).1
 subst hn
 have D0 : Do13 w base P G cap k pr a sk sx sy us ps (w.alloc (.cells #[.int .i64 k, .int .i64 pr, .int .i64 a, .int .i64 sk, .int .i64 sx, .int .i64 sy] 54)) := ⟨heap_alloc_new w _, (hbA.block P hPl).trans hP, hO.kept hbA, hbA.mono hbase, by simp⟩
 obtain ⟨W0, hW0⟩ : ∃ W0, w.alloc (.cells #[.int .i64 k, .int .i64 pr, .int .i64 a, .int .i64 sk, .int .i64 sx, .int .i64 sy] 54) = W0 := ⟨_, rfl⟩
 rw [hW0] at D0
 obtain ⟨e0, e1, e2⟩ := jk2 D0.edit
 obtain ⟨e3, e4, e5⟩ := jj3 D0.edit
 obtain ⟨eP, fP⟩ := ja4 D0.box
 have h4' : (k == 4) = false := by simpa using h4
 have hin1 := l1In pr 0 ((ps.length : Int) - 1)
 rw [show inB pr 0 ((ps.length : Int) - 1) = wiB pr ps.length by rw [jp0]; congr 1; omega] at hin1
 have hwn : IntKind.i64.wrap ((ps.length : Int) - 1) = (ps.length : Int) - 1 := IntWalk.i64_in _ (by omega)
 have HD0 : Hid (Do13 w base P G cap k pr a sk sx sy us ps W0) := D0
 have HB0 : Hid (Below base w W0.drew) := D0.below.drew
 rw [hyes] at hin1
 obtain ⟨y0, y1⟩ := qa4 hyes
 obtain ⟨i, rfl⟩ : ∃ i : Nat, pr = i := ⟨pr.toNat, by omega⟩
 have hi : i < ps.length := by omega
 have hgd : ps.getD i [] = ps[i] := by simp [List.getD, hi]
 simp only [Int.toNat_natCast, hgd] at hno
 have hpi : ps[i]? = some ps[i] := by simp [hi]
 have hpl := hp100 ps[i] (List.getElem_mem hi)
 obtain ⟨x, hui⟩ : ∃ x, us[i]? = some x := ⟨us[i]'(by rw [hO.len]; exact hi), by simp⟩
 have hox := hO.each i x ps[i] hui hpi
 have hxf : ∃ ao c, x = .slice ao ps[i].length c := by
  rcases hox.2 with ⟨rfl, h0⟩ | ⟨g, cap', cur, rfl, _⟩
  · exact ⟨none, 0, by rw [h0]⟩
  · exact ⟨_, _, rfl⟩
 obtain ⟨ao, c, rfl⟩ := hxf
 have eG : W0.cell? ⟨G, i, none⟩ = some (.slice ao ps[i].length c) := by rw [D0.own.row.cellAt i (by omega)]; exact hui
 have hin2 := l1In a 0 ((ps[i].length : Int) - 1)
 rw [show inB a 0 ((ps[i].length : Int) - 1) = wiB a ps[i].length by rw [jp0]; congr 1; omega, hno] at hin2
 have hiI : (i : Int) < (ps.length : Int) := by omega
 clear hox hui hpi hgd hno
 generalize ps[i].length = m at *
 have hwm : IntKind.i64.wrap ((m : Int) - 1) = (m : Int) - 1 := IntWalk.i64_in _ (by omega)
 have h1' : (k == 1) = false := by simpa using h1
 have h2' : (k == 2) = false := by simpa using h2
 have h3' : (k == 3) = false := by simpa using h3
 have HE1 : Hid (W0.drew.cell? ⟨w.heap.size, 0, none⟩ = some (.int .i64 k) ∧ W0.drew.cell? ⟨w.heap.size, 1, none⟩ = some (.int .i64 (i : Int)) ∧ W0.drew.cell? ⟨w.heap.size, 2, none⟩ = some (.int .i64 a) ∧ W0.drew.cell? ⟨P, 0, none⟩ = some (.slice (some ⟨G, 0, none⟩) ps.length cap) ∧ W0.drew.cell? ⟨G, i, none⟩ = some (.slice ao m c)) := ⟨e0, e1, e2, eP, eG⟩
 clear D0 hO hP hbA
 go_enter Tryz.func50, Tryz.ntmps50
 go_wp2_with fail
 refine wp_region_held_drew (S := fun w' => w'.cell? ⟨w.heap.size, 1, none⟩ = some (.int .i64 (i : Int)) ∧ w'.cell? ⟨w.heap.size, 2, none⟩ = some (.int .i64 a) ∧ w'.cell? ⟨P, 0, none⟩ = some (.slice (some ⟨G, 0, none⟩) ps.length cap) ∧ w'.cell? ⟨G, i, none⟩ = some (.slice ao m c)) (by kernel_rfl) ⟨e1, e2, eP, eG⟩ (fun hHl => ?_)
 refine wpAnyH_take (i := 0) (oi := ?oin30) (v := .pointer (some ⟨w.heap.size, 1, none⟩)) ?_ (by kernel_rfl) (by kernel_rfl) (by kernel_rfl) ?_ ?_ hHl ?_
 rotate_left
 · simp only [gA, gB, gC]; rfl
 · exact fun _ _ _ h => h
 · exact Or.inl ⟨by kernel_rfl, fun w hSw => by go_simp⟩
 try simp only [Act.put, gD, gE, gF]
 refine wpAnyH_take (i := 1) (oi := ?oin31) (v := .int .i64 (i : Int)) ?_ (by kernel_rfl) (by kernel_rfl) (by kernel_rfl) ?_ ?_ hHl ?_
 rotate_left
 · simp only [gA, gB, gC]; rfl
 · exact fun _ _ _ h => h
 · exact Or.inl ⟨by kernel_rfl, fun w hSw => by obtain ⟨s1, s2, s6, s7⟩ := hSw; go_simp⟩
 try simp only [Act.put, gD, gE, gF]
 refine wpAnyH_take (i := 2) (oi := ?oin32) (v := .pointer (some ⟨P, 0, none⟩)) ?_ (by kernel_rfl) (by kernel_rfl) (by kernel_rfl) ?_ ?_ hHl ?_
 rotate_left
 · simp only [gA, gB, gC]; rfl
 · exact fun _ _ _ h => h
 · exact Or.inl ⟨by kernel_rfl, fun w hSw => by go_simp⟩
 try simp only [Act.put, gD, gE, gF]
 refine wpAnyH_take (i := 3) (oi := ?oin33) (v := .pointer (some ⟨P, 0, none⟩)) ?_ (by kernel_rfl) (by kernel_rfl) (by kernel_rfl) ?_ ?_ hHl ?_
 rotate_left
 · simp only [gA, gB, gC]; rfl
 · exact fun _ _ _ h => h
 · exact Or.inl ⟨by kernel_rfl, fun w hSw => by go_simp⟩
 try simp only [Act.put, gD, gE, gF]
 refine wpAnyH_take (i := 4) (oi := ?oin34) (v := .pointer (some ⟨P, 0, none⟩)) ?_ (by kernel_rfl) (by kernel_rfl) (by kernel_rfl) ?_ ?_ hHl ?_
 rotate_left
 · simp only [gA, gB, gC]; rfl
 · exact fun _ _ _ h => h
 · exact Or.inl ⟨by kernel_rfl, fun w hSw => by go_simp⟩
 try simp only [Act.put, gD, gE, gF]
 refine wpAnyH_take (i := 5) (oi := ?oin35) (v := .slice (some ⟨G, 0, none⟩) ps.length cap) ?_ (by kernel_rfl) (by kernel_rfl) (by kernel_rfl) ?_ ?_ hHl ?_
 rotate_left
 · simp only [gA, gB, gC]; rfl
 · exact fun _ _ _ h => h
 · exact Or.inl ⟨by kernel_rfl, fun w hSw => by obtain ⟨s1, s2, s6, s7⟩ := hSw; go_simp⟩
 try simp only [Act.put, gD, gE, gF]
 refine wpAnyH_take (i := 6) (oi := ?oin36) (v := .int .i64 (ps.length : Int)) ?_ (by kernel_rfl) (by kernel_rfl) (by kernel_rfl) ?_ ?_ hHl ?_
 rotate_left
 · simp only [gA, gB, gC]; rfl
 · exact fun _ _ _ h => h
 · exact Or.inl ⟨by kernel_rfl, fun w hSw => by go_simp⟩
 try simp only [Act.put, gD, gE, gF]
 refine wpAnyH_take (i := 7) (oi := ?oin37) (v := .int .i64 ((ps.length : Int) - 1)) ?_ (by kernel_rfl) (by kernel_rfl) (by kernel_rfl) ?_ ?_ hHl ?_
 rotate_left
 · simp only [gA, gB, gC]; rfl
 · exact fun _ _ _ h => h
 · exact Or.inl ⟨by kernel_rfl, fun w hSw => by go_simp⟩
 try simp only [Act.put, gD, gE, gF]
 refine wpAnyH_ready (rs := [8]) (by kernel_rfl) (by simp) (AllReadyH.cons (o := ?oon38) ?_ (fun K hK => ?_) AllReadyH.nil)
 rotate_left
 · simp only [gA, gB, gC]; rfl
 go_simp
 go_at_call 59
 refine (hin1 _).mono ?_
 rintro r wz ⟨rfl, rfl⟩
 try go_wp2_with fail
 refine hK.out _ _ ⟨e1, e2, eP, eG⟩ (fun hHl => ?_)
 clear hK K
 try simp only [Act.put, gD, gE, gF]
 refine wpAnyH_take (i := 9) (oi := ?oin39) (v := .bool false) ?_ (by kernel_rfl) (by kernel_rfl) (by kernel_rfl) ?_ ?_ hHl ?_
 rotate_left
 · simp only [gA, gB, gC]; rfl
 · exact fun _ _ _ h => h
 · exact Or.inl ⟨by kernel_rfl, fun w hSw => by go_simp⟩
 try simp only [Act.put, gD, gE, gF]
 refine wpAnyH_take (i := 10) (oi := ?oin310) (v := .bool false) ?_ (by kernel_rfl) (by kernel_rfl) (by kernel_rfl) ?_ ?_ hHl ?_
 rotate_left
 · simp only [gA, gB, gC]; rfl
 · exact fun _ _ _ h => h
 · exact Or.inl ⟨by kernel_rfl, fun w hSw => by go_simp⟩
 try simp only [Act.put, gD, gE, gF]
 refine wpAnyH_take (i := 11) (oi := ?oin311) (v := .pointer (some ⟨w.heap.size, 2, none⟩)) ?_ (by kernel_rfl) (by kernel_rfl) (by kernel_rfl) ?_ ?_ hHl ?_
 rotate_left
 · simp only [gA, gB, gC]; rfl
 · exact fun _ _ _ h => h
 · exact Or.inl ⟨by kernel_rfl, fun w hSw => by go_simp⟩
 try simp only [Act.put, gD, gE, gF]
 refine wpAnyH_take (i := 12) (oi := ?oin312) (v := .int .i64 a) ?_ (by kernel_rfl) (by kernel_rfl) (by kernel_rfl) ?_ ?_ hHl ?_
 rotate_left
 · simp only [gA, gB, gC]; rfl
 · exact fun _ _ _ h => h
 · exact Or.inl ⟨by kernel_rfl, fun w hSw => by obtain ⟨s1, s2, s6, s7⟩ := hSw; go_simp⟩
 try simp only [Act.put, gD, gE, gF]
 refine wpAnyH_take (i := 13) (oi := ?oin313) (v := .pointer (some ⟨P, 0, none⟩)) ?_ (by kernel_rfl) (by kernel_rfl) (by kernel_rfl) ?_ ?_ hHl ?_
 rotate_left
 · simp only [gA, gB, gC]; rfl
 · exact fun _ _ _ h => h
 · exact Or.inl ⟨by kernel_rfl, fun w hSw => by go_simp⟩
 try simp only [Act.put, gD, gE, gF]
 refine wpAnyH_take (i := 14) (oi := ?oin314) (v := .pointer (some ⟨P, 0, none⟩)) ?_ (by kernel_rfl) (by kernel_rfl) (by kernel_rfl) ?_ ?_ hHl ?_
 rotate_left
 · simp only [gA, gB, gC]; rfl
 · exact fun _ _ _ h => h
 · exact Or.inl ⟨by kernel_rfl, fun w hSw => by go_simp⟩
 try simp only [Act.put, gD, gE, gF]
 refine wpAnyH_take (i := 15) (oi := ?oin315) (v := .pointer (some ⟨P, 0, none⟩)) ?_ (by kernel_rfl) (by kernel_rfl) (by kernel_rfl) ?_ ?_ hHl ?_
 rotate_left
 · simp only [gA, gB, gC]; rfl
 · exact fun _ _ _ h => h
 · exact Or.inl ⟨by kernel_rfl, fun w hSw => by go_simp⟩
 try simp only [Act.put, gD, gE, gF]
 refine wpAnyH_take (i := 16) (oi := ?oin316) (v := .slice (some ⟨G, 0, none⟩) ps.length cap) ?_ (by kernel_rfl) (by kernel_rfl) (by kernel_rfl) ?_ ?_ hHl ?_
 rotate_left
 · simp only [gA, gB, gC]; rfl
 · exact fun _ _ _ h => h
 · exact Or.inl ⟨by kernel_rfl, fun w hSw => by obtain ⟨s1, s2, s6, s7⟩ := hSw; go_simp⟩
 try simp only [Act.put, gD, gE, gF]
 refine wpAnyH_take (i := 17) (oi := ?oin317) (v := .pointer (some ⟨w.heap.size, 1, none⟩)) ?_ (by kernel_rfl) (by kernel_rfl) (by kernel_rfl) ?_ ?_ hHl ?_
 rotate_left
 · simp only [gA, gB, gC]; rfl
 · exact fun _ _ _ h => h
 · exact Or.inl ⟨by kernel_rfl, fun w hSw => by go_simp⟩
 try simp only [Act.put, gD, gE, gF]
 refine wpAnyH_take (i := 18) (oi := ?oin318) (v := .int .i64 (i : Int)) ?_ (by kernel_rfl) (by kernel_rfl) (by kernel_rfl) ?_ ?_ hHl ?_
 rotate_left
 · simp only [gA, gB, gC]; rfl
 · exact fun _ _ _ h => h
 · exact Or.inl ⟨by kernel_rfl, fun w hSw => by obtain ⟨s1, s2, s6, s7⟩ := hSw; go_simp⟩
 try simp only [Act.put, gD, gE, gF]
 refine wpAnyH_take (i := 19) (oi := ?oin319) (v := .pointer (some ⟨G, i, none⟩)) ?_ (by kernel_rfl) (by kernel_rfl) (by kernel_rfl) ?_ ?_ hHl ?_
 rotate_left
 · simp only [gA, gB, gC]; rfl
 · exact fun _ _ _ h => h
 · exact Or.inl ⟨by kernel_rfl, fun w hSw => by go_simp⟩
 try simp only [Act.put, gD, gE, gF]
 refine wpAnyH_take (i := 20) (oi := ?oin320) (v := .pointer (some ⟨G, i, none⟩)) ?_ (by kernel_rfl) (by kernel_rfl) (by kernel_rfl) ?_ ?_ hHl ?_
 rotate_left
 · simp only [gA, gB, gC]; rfl
 · exact fun _ _ _ h => h
 · exact Or.inl ⟨by kernel_rfl, fun w hSw => by go_simp⟩
 try simp only [Act.put, gD, gE, gF]
 refine wpAnyH_take (i := 21) (oi := ?oin321) (v := .slice ao m c) ?_ (by kernel_rfl) (by kernel_rfl) (by kernel_rfl) ?_ ?_ hHl ?_
 rotate_left
 · simp only [gA, gB, gC]; rfl
 · exact fun _ _ _ h => h
 · exact Or.inl ⟨by kernel_rfl, fun w hSw => by obtain ⟨s1, s2, s6, s7⟩ := hSw; go_simp⟩
 try simp only [Act.put, gD, gE, gF]
 refine wpAnyH_take (i := 22) (oi := ?oin322) (v := .int .i64 (m : Int)) ?_ (by kernel_rfl) (by kernel_rfl) (by kernel_rfl) ?_ ?_ hHl ?_
 rotate_left
 · simp only [gA, gB, gC]; rfl
 · exact fun _ _ _ h => h
 · exact Or.inl ⟨by kernel_rfl, fun w hSw => by go_simp⟩
 try simp only [Act.put, gD, gE, gF]
 refine wpAnyH_take (i := 23) (oi := ?oin323) (v := .int .i64 ((m : Int) - 1)) ?_ (by kernel_rfl) (by kernel_rfl) (by kernel_rfl) ?_ ?_ hHl ?_
 rotate_left
 · simp only [gA, gB, gC]; rfl
 · exact fun _ _ _ h => h
 · exact Or.inl ⟨by kernel_rfl, fun w hSw => by go_simp⟩
 try simp only [Act.put, gD, gE, gF]
 refine wpAnyH_ready (rs := [24]) (by kernel_rfl) (by simp) (AllReadyH.cons (o := ?oon324) ?_ (fun K hK => ?_) AllReadyH.nil)
 rotate_left
 · simp only [gA, gB, gC]; rfl
 go_simp
 go_at_call 59
 refine (hin2 _).mono ?_
 rintro r wz ⟨rfl, rfl⟩
 try go_wp2_with fail
 refine hK.out _ _ ⟨e1, e2, eP, eG⟩ (fun hHl => ?_)
 clear hK K
 try simp only [Act.put, gD, gE, gF]
 refine wpAnyH_take (i := 25) (oi := ?oin325) (v := .bool false) ?_ (by kernel_rfl) (by kernel_rfl) (by kernel_rfl) ?_ ?_ hHl ?_
 rotate_left
 · simp only [gA, gB, gC]; rfl
 · exact fun _ _ _ h => h
 · exact Or.inl ⟨by kernel_rfl, fun w hSw => by go_simp⟩
 try simp only [Act.put, gD, gE, gF]
 refine wpAnyH_take (i := 26) (oi := ?oin326) (v := .bool false) ?_ (by kernel_rfl) (by kernel_rfl) (by kernel_rfl) ?_ ?_ hHl ?_
 rotate_left
 · simp only [gA, gB, gC]; rfl
 · exact fun _ _ _ h => h
 · exact Or.inl ⟨by kernel_rfl, fun w hSw => by go_simp⟩
 try simp only [Act.put, gD, gE, gF]
 refine wpAnyH_done (by kernel_rfl) ?_ _
 clear e0 e1 e2 eP eG
 generalize W0.drew = W1 at *
 obtain ⟨e0, e1, e2, eP, eG⟩ := HE1.out
 go_wp2_with fail
 refine wp_region_held_drew (S := fun w' => w'.cell? ⟨w.heap.size, 1, none⟩ = some (.int .i64 (i : Int)) ∧ w'.cell? ⟨w.heap.size, 2, none⟩ = some (.int .i64 a) ∧ w'.cell? ⟨P, 0, none⟩ = some (.slice (some ⟨G, 0, none⟩) ps.length cap) ∧ w'.cell? ⟨G, i, none⟩ = some (.slice ao m c)) (by kernel_rfl) ⟨e1, e2, eP, eG⟩ (fun hHl => ?_)
 refine wpAnyH_take (i := 0) (oi := ?oin60) (v := .pointer (some ⟨P, 0, none⟩)) ?_ (by kernel_rfl) (by kernel_rfl) (by kernel_rfl) ?_ ?_ hHl ?_
 rotate_left
 · simp only [gA, gB, gC]; rfl
 · exact fun _ _ _ h => h
 · exact Or.inl ⟨by kernel_rfl, fun w hSw => by go_simp⟩
 try simp only [Act.put, gD, gE, gF]
 refine wpAnyH_take (i := 1) (oi := ?oin61) (v := .pointer (some ⟨P, 0, none⟩)) ?_ (by kernel_rfl) (by kernel_rfl) (by kernel_rfl) ?_ ?_ hHl ?_
 rotate_left
 · simp only [gA, gB, gC]; rfl
 · exact fun _ _ _ h => h
 · exact Or.inl ⟨by kernel_rfl, fun w hSw => by go_simp⟩
 try simp only [Act.put, gD, gE, gF]
 refine wpAnyH_take (i := 2) (oi := ?oin62) (v := .pointer (some ⟨P, 0, none⟩)) ?_ (by kernel_rfl) (by kernel_rfl) (by kernel_rfl) ?_ ?_ hHl ?_
 rotate_left
 · simp only [gA, gB, gC]; rfl
 · exact fun _ _ _ h => h
 · exact Or.inl ⟨by kernel_rfl, fun w hSw => by go_simp⟩
 try simp only [Act.put, gD, gE, gF]
 refine wpAnyH_take (i := 3) (oi := ?oin63) (v := .slice (some ⟨G, 0, none⟩) ps.length cap) ?_ (by kernel_rfl) (by kernel_rfl) (by kernel_rfl) ?_ ?_ hHl ?_
 rotate_left
 · simp only [gA, gB, gC]; rfl
 · exact fun _ _ _ h => h
 · exact Or.inl ⟨by kernel_rfl, fun w hSw => by obtain ⟨s1, s2, s6, s7⟩ := hSw; go_simp⟩
 try simp only [Act.put, gD, gE, gF]
 refine wpAnyH_take (i := 4) (oi := ?oin64) (v := .pointer (some ⟨w.heap.size, 1, none⟩)) ?_ (by kernel_rfl) (by kernel_rfl) (by kernel_rfl) ?_ ?_ hHl ?_
 rotate_left
 · simp only [gA, gB, gC]; rfl
 · exact fun _ _ _ h => h
 · exact Or.inl ⟨by kernel_rfl, fun w hSw => by go_simp⟩
 try simp only [Act.put, gD, gE, gF]
 refine wpAnyH_take (i := 5) (oi := ?oin65) (v := .int .i64 (i : Int)) ?_ (by kernel_rfl) (by kernel_rfl) (by kernel_rfl) ?_ ?_ hHl ?_
 rotate_left
 · simp only [gA, gB, gC]; rfl
 · exact fun _ _ _ h => h
 · exact Or.inl ⟨by kernel_rfl, fun w hSw => by obtain ⟨s1, s2, s6, s7⟩ := hSw; go_simp⟩
 try simp only [Act.put, gD, gE, gF]
 refine wpAnyH_take (i := 6) (oi := ?oin66) (v := .pointer (some ⟨G, i, none⟩)) ?_ (by kernel_rfl) (by kernel_rfl) (by kernel_rfl) ?_ ?_ hHl ?_
 rotate_left
 · simp only [gA, gB, gC]; rfl
 · exact fun _ _ _ h => h
 · exact Or.inl ⟨by kernel_rfl, fun w hSw => by go_simp⟩
 try simp only [Act.put, gD, gE, gF]
 refine wpAnyH_take (i := 7) (oi := ?oin67) (v := .pointer (some ⟨G, i, none⟩)) ?_ (by kernel_rfl) (by kernel_rfl) (by kernel_rfl) ?_ ?_ hHl ?_
 rotate_left
 · simp only [gA, gB, gC]; rfl
 · exact fun _ _ _ h => h
 · exact Or.inl ⟨by kernel_rfl, fun w hSw => by go_simp⟩
 try simp only [Act.put, gD, gE, gF]
 refine wpAnyH_done (by kernel_rfl) ?_ _
 have HB1 : Hid (Below base w W1.drew) := HB0.out.drew
 have e9 : W1.drew.cell? ⟨w.heap.size, 0, none⟩ = some (.int .i64 k) := e0
 generalize W1.drew = W2 at *
 go_wp2
 go_ret
 exact ⟨rfl, HB1.out⟩
end Go.Proofs.YtldagpfeaabcdaaGreatDoor
