/-
 Put together out of: FlowImpl, SpecFlow.
-/
import Derived.Test.YtnjbihfceckpfaaFlowRel
import Derived.BigRegion
/-
 Chapter 7, the program's side: Flow.
-/
namespace Go.Proofs.Ytnjbihfceckpfaa
open Go.RowKit
set_option linter.unusedVariables false
set_option maxHeartbeats 2000000
set_option maxRecDepth 4000

theorem relationOfElse (k x y : Int) (h2 : ¬ k = 2) (h3 : ¬ k = 3) (h4 : ¬ k = 4) (h5 : ¬ k = 5) (m : Nat) (w : World) :
 Calls Try.prog 147 #[flowsV m, .agg #[.int .i64 k, .int .i64 x, .int .i64 y]] w fun e w' => e = .returned (relV unitL) ∧ Below w.heap.size w w' := by
 have hun := fun W => implUnit W
 obtain ⟨us, hus⟩ : ∃ us, unitL = us := ⟨_, rfl⟩
 have hu7 : us.length = 7 := by rw [← hus]; rfl
 rw [hus] at hun ⊢
 clear hus
 unfold flowsV
 go_enter Try.func147, Try.ntmps147
 go_wp2_with fail
 go_at_call 142
 refine (hun _).mono ?_
 rintro e w1 ⟨a, rfl, oa, b1⟩
 clear hun
 obtain ⟨g, off, cap, rfl, hrg⟩ := reads_range (reads_own oa) hu7
 have HG : Hid (w1.rangeAt g off (ints us)) := hrg
 clear hrg oa
 have hst := fresh_there w1
 have HT : Hid _ := hst
 clear hst
 obtain ⟨bF, bS, bR, L1, hU1⟩ := three_blocks b1
 clear b1
 have hpre : ∀ (B : Nat) (o : Obj), B < w1.heap.size → w1.heap[B]? = some o → ((fresh7 w1).setCells w1.heap.size 0 (ints us)).heap[B]? = some o := fun B o hB h => by
  refine ((grown_setCells7 _ _ _ _).block _ (by simp; omega) (by simp; omega)).trans ?_
  rw [old_block hB]
  exact h
 have bU : RelAt ((fresh7 w1).setCells w1.heap.size 0 (ints us)) w1.heap.size us := fresh_rel w1 us hu7
 have L2 : Below w.heap.size w ((fresh7 w1).setCells w1.heap.size 0 (ints us)) := fresh_below L1 (by omega) _
 have bS := hpre _ _ (by omega) bS
 have bR : RelAt ((fresh7 w1).setCells w1.heap.size 0 (ints us)) (w.heap.size + 1 + 1) (List.replicate 7 0) := hpre _ _ (by omega) bR
 have HBU : Hid _ := bU.range
 have ht : ((fresh7 w1).setCells w1.heap.size 0 (ints us)).there (w.heap.size + 1 + 1) 0 7 := by simpa using bR.there
 have HBR : Hid _ := ht
 have hk0 : ((fresh7 w1).setCells w1.heap.size 0 (ints us)).cell? ⟨w.heap.size + 1, 0, none⟩ = some (.int .i64 k) := by rw [cell_of_row _ _ 0 _ _ (0, 0) bS]; rfl
 clear hpre bF bS bR bU L1 ht
 go_wp2_with (first
  | refine wpList_arrayAt rfl (.tmp 6) rfl g off cap rfl ?_
  | refine wpList_loadRel rfl (.tmp 7) rfl g off us rfl hu7 HG.out ?_
  | refine wpList_loadRel rfl (.tmp 5) rfl w1.heap.size 0 us rfl hu7 HBU.out ?_
  | refine wpList_storeRel rfl rfl (.tmp 5) (.tmp 8) rfl w1.heap.size 0 us rfl rfl hu7 HT.out ?_
  | refine wpList_storeRel rfl rfl (.tmp 4) (.tmp 51) rfl (w.heap.size + 1 + 1) 0 us rfl rfl hu7 HBR.out ?_)
 refine bodyPost_cellR rfl (w.heap.size + 1 + 1) 0 (ints us) _ rfl (World.rangeAt_setCells_same _ _ _ _ (by rw [ints_length, hu7]; exact HBR.out)) relUnd rfl (by rw [relInfo]; simp [ints, hu7]) rfl ⟨rfl, ?_⟩
 exact L2.grown (grown_setCells7 _ _ _ _) (by have := L2.size; omega) (fun k hk => by simp at hk; omega)

/-- What a statement does. -/
def flowL (c k x y : Int) : List Int :=
 if k = 2 then mkL unitL (factN x.toNat) (factN y.toNat)
 else if k = 3 then mkL unitL (factN x.toNat) (lor (factN x.toNat) (factN y.toNat))
 else if k = 4 then mkL unitL (factN x.toNat) 0
 else if k = 5 then mkL unitL (factN x.toNat) (if c = 1 then 1 else 0)
 else unitL

def flowAns (c k x y : Int) : List Int := if (c = 1 ∨ c = 2) ∧ stmtOk k x y = true then flowL c k x y else []

theorem flowL_length (c k x y : Int) : (flowL c k x y).length = 7 := by
 unfold flowL
 split
 · exact mkL_length _ _ _
 split
 · exact mkL_length _ _ _
 split
 · exact mkL_length _ _ _
 split
 · exact mkL_length _ _ _
 rfl

theorem inB_nat {x n : Int} (h : inB x 0 n = true) : ∃ i : Nat, x = i ∧ (i : Int) ≤ n := by
 simp [inB] at h
 exact ⟨x.toNat, by omega, by omega⟩

theorem stmtOk_xy {k x y : Int} (h : stmtOk k x y = true) (hk : k = 2 ∨ k = 3) : ∃ i j : Nat, x = i ∧ y = j ∧ i < 6 ∧ j < 6 := by
 have h1 : inB x 0 5 = true ∧ inB y 0 5 = true := by
  rcases hk with rfl | rfl <;> simpa [stmtOk] using h
 obtain ⟨i, rfl, hi⟩ := inB_nat h1.1
 obtain ⟨j, rfl, hj⟩ := inB_nat h1.2
 exact ⟨i, j, rfl, rfl, by omega, by omega⟩

theorem stmtOk_x {k x y : Int} (h : stmtOk k x y = true) (hk : k = 4 ∨ k = 5) : ∃ i : Nat, x = i ∧ i < 6 := by
 have h1 : inB x 0 5 = true ∧ inB y 0 0 = true := by
  rcases hk with rfl | rfl <;> simpa [stmtOk] using h
 obtain ⟨i, rfl, hi⟩ := inB_nat h1.1
 exact ⟨i, rfl, by omega⟩

/-- A client's function for a mark. -/
def markFn (c : Int) : Nat := if c = 1 then 108 else 107

theorem relationOf (c k x y : Int) (hc : c = 1 ∨ c = 2) (h : stmtOk k x y = true) (w : World) :
 Calls Try.prog 147 #[flowsV (markFn c), .agg #[.int .i64 k, .int .i64 x, .int .i64 y]] w fun e w' => e = .returned (relV (flowL c k x y)) ∧ Below w.heap.size w w' := by
 by_cases h2 : k = 2
 · subst h2
   obtain ⟨i, j, rfl, rfl, hi, hj⟩ := stmtOk_xy h (.inl rfl)
   exact relationOf2 i j hi hj _ w
 · by_cases h3 : k = 3
   · subst h3
     obtain ⟨i, j, rfl, rfl, hi, hj⟩ := stmtOk_xy h (.inr rfl)
     exact relationOf3 i j hi hj _ w
   · by_cases h4 : k = 4
     · subst h4
       obtain ⟨i, rfl, hi⟩ := stmtOk_x h (.inl rfl)
       exact relationOf4 i y hi _ w
     · by_cases h5 : k = 5
       · subst h5
         obtain ⟨i, rfl, hi⟩ := stmtOk_x h (.inr rfl)
         rcases hc with rfl | rfl
         · exact relationOf5a i y hi w
         · exact relationOf5b i y hi w
       · have e : flowL c k x y = unitL := by simp [flowL, h2, h3, h4, h5]
         rw [e]
         exact relationOfElse k x y h2 h3 h4 h5 _ w

theorem flowsOf (c : Int) (hc : c = 1 ∨ c = 2) (w : World) : Calls Try.prog 75 #[.int .i64 c] w fun e w' => e = .returned (.tuple #[flowsV (markFn c), .bool true]) ∧ Below w.heap.size w w' := by
 rcases hc with rfl | rfl
 · exact flowsOf1 w
 · exact flowsOf2 w

theorem stmt_cells {W : World} {B : Nat} {k x y : Int} {t : TypeId} (q : W.heap[B]? = some (.cells #[.int .i64 k, .int .i64 x, .int .i64 y] t (0, 0))) :
 W.cell? ⟨B, 0, none⟩ = some (.int .i64 k) ∧ W.cell? ⟨B, 1, none⟩ = some (.int .i64 x) ∧ W.cell? ⟨B, 2, none⟩ = some (.int .i64 y) :=
 ⟨by rw [cell_of_row _ _ 0 _ _ (0, 0) q]; rfl, by rw [cell_of_row _ _ 1 _ _ (0, 0) q]; rfl, by rw [cell_of_row _ _ 2 _ _ (0, 0) q]; rfl⟩

theorem four_cells {W : World} {B : Nat} {v0 v1 v2 v3 : Value} {t : TypeId} (q : W.heap[B]? = some (.cells #[v0, v1, v2, v3] t (0, 0))) :
 W.cell? ⟨B, 0, none⟩ = some v0 ∧ W.cell? ⟨B, 1, none⟩ = some v1 ∧ W.cell? ⟨B, 2, none⟩ = some v2 ∧ W.cell? ⟨B, 3, none⟩ = some v3 :=
 ⟨by rw [cell_of_row _ _ 0 _ _ (0, 0) q]; rfl, by rw [cell_of_row _ _ 1 _ _ (0, 0) q]; rfl, by rw [cell_of_row _ _ 2 _ _ (0, 0) q]; rfl, by rw [cell_of_row _ _ 3 _ _ (0, 0) q]; rfl⟩

theorem flow_pre {w w1 : World} {o : Obj} (b1 : Below (w.alloc o).heap.size (w.alloc o) w1) : Below w.heap.size w w1 ∧ w1.heap[w.heap.size]? = some o := by
 have a1 : Below w.heap.size w (w.alloc o) := (Below.refl _ _).alloc (Nat.le_refl _) o
 exact ⟨a1.trans (b1.mono a1.size), (b1.block _ (by simp)).trans (heap_alloc_new w _)⟩

theorem implFlow (c k x y : Int) (w : World) :
 Calls Try.prog 130 #[.int .i64 c, .agg #[.int .i64 k, .int .i64 x, .int .i64 y]] w fun e w' => ∃ a, e = .returned a ∧ w'.ownsRow w.heap.size 64 1 a (flowAns c k x y).length (ints (flowAns c k x y)) ∧ Below w.heap.size w w' := by
 have hso := fun W => implStmtOk k x y W
 by_cases hc : c = 1 ∨ c = 2
 · have hfo := fun W => flowsOf c hc W
   cases hs : stmtOk k x y
   · have h1 : flowAns c k x y = [] := by simp [flowAns, hs]
     rw [h1]
     rw [hs] at hso
     generalize markFn c = m at *
     unfold flowsV at hfo
     clear hc h1 hs
     go_enter Try.func130, Try.ntmps130
     go_wp2_with fail
     go_at_call 75
     refine (hfo _).mono ?_
     rintro e w1 ⟨rfl, b1⟩
     clear hfo
     obtain ⟨L1, q1⟩ := flow_pre b1
     have hlt : w.heap.size < w1.heap.size := (Array.getElem?_eq_some_iff.1 q1).1
     have q2 : ∀ o, (w1.alloc o).heap[w.heap.size]? = _ := fun o => (old_block hlt).trans q1
     have g0 := fun o => (stmt_cells (q2 o)).1
     have g1 := fun o => (stmt_cells (q2 o)).2.1
     have g2 := fun o => (stmt_cells (q2 o)).2.2
     have s1 := L1.size
     clear q1 q2 b1
     go_wp2_with (go_at_call 136; refine (hso _).mono ?_; rintro e w2 ⟨rfl, b2⟩)
     go_ret
     exact ⟨_, rfl, ⟨rfl, .inl ⟨rfl, rfl⟩⟩, (L1.alloc (by omega) _).trans (b2.mono (by simp; omega))⟩
   · have h1 : flowAns c k x y = flowL c k x y := by simp [flowAns, hs, hc]
     rw [h1]
     rw [hs] at hso
     have hz7 := flowL_length c k x y
     have hro := fun W => relationOf c k x y hc hs W
     generalize flowL c k x y = zs at *
     generalize markFn c = m at *
     unfold flowsV at hfo hro
     clear hc h1 hs
     go_enter Try.func130, Try.ntmps130
     go_wp2_with fail
     go_at_call 75
     refine (hfo _).mono ?_
     rintro e w1 ⟨rfl, b1⟩
     clear hfo
     obtain ⟨L1, q1⟩ := flow_pre b1
     have hlt : w.heap.size < w1.heap.size := (Array.getElem?_eq_some_iff.1 q1).1
     have q2 : ∀ o, (w1.alloc o).heap[w.heap.size]? = _ := fun o => (old_block hlt).trans q1
     have g0 := fun o => (stmt_cells (q2 o)).1
     have g1 := fun o => (stmt_cells (q2 o)).2.1
     have g2 := fun o => (stmt_cells (q2 o)).2.2
     have s1 := L1.size
     have HQ : Hid _ := q2
     clear q1 q2 b1
     go_wp2_with fail
     go_at_call 136
     refine (hso _).mono ?_
     rintro e w2 ⟨rfl, b2⟩
     clear hso g0 g1 g2
     have s2 := b2.size
     simp only [World.size_alloc] at s2
     obtain ⟨g0, g1, g2⟩ := stmt_cells ((b2.block _ (by simp; omega)).trans (HQ.out _))
     obtain ⟨k0, k1, k2, k3⟩ := four_cells ((b2.block w1.heap.size (by simp)).trans (heap_alloc_new w1 _))
     have L2 := (L1.alloc (by omega) _).trans (b2.mono (by simp; omega))
     clear HQ b2
     go_wp2_with fail
     go_at_call 147
     refine (hro _).mono ?_
     rintro e w3 ⟨rfl, b3⟩
     have L3 := L2.trans (b3.mono L2.size)
     have s3 := L3.size
     clear hro g0 g1 g2 k0 k1 k2 k3 b3
     have hst := fresh_there w3
     have HS : Hid _ := hst
     clear hst
     go_wp2_with (refine wpList_storeRel rfl rfl (.tmp 7) (.tmp 22) rfl w3.heap.size 0 zs rfl rfl hz7 HS.out ?_)
     go_ret
     exact ⟨_, rfl, by rw [hz7]; exact RelAt.own (fresh_rel w3 zs hz7) L3.size hz7, fresh_below L3 L3.size _⟩
 · have h1 : flowAns c k x y = [] := by simp [flowAns, hc]
   rw [h1]
   have hfo := fun W => flowsOfNo c (fun e => hc (.inl e)) (fun e => hc (.inr e)) W
   clear h1 hc
   go_enter Try.func130, Try.ntmps130
   go_wp2_with fail
   go_at_call 75
   refine (hfo _).mono ?_
   rintro e w1 ⟨rfl, b1⟩
   clear hfo
   obtain ⟨L1, q1⟩ := flow_pre b1
   have s1 := L1.size
   clear q1 b1
   go_wp2
   go_ret
   exact ⟨_, rfl, ⟨rfl, .inl ⟨rfl, rfl⟩⟩, L1.alloc (by omega) _⟩

end Go.Proofs.Ytnjbihfceckpfaa

/-
 Chapter 7, the specification's side: Start, Leave, Keep, Enter, Flow.
-/
namespace Go.Proofs.Ytnjbihfceckpfaa
open Go.RowKit
set_option linter.unusedVariables false
set_option maxHeartbeats 2000000
set_option maxRecDepth 4000

theorem specStart (c : Int) (w : World) : Calls Try.prog 68 #[.int .i64 c] w fun e w' => e = .returned (.int .i64 (startAns c)) ∧ Below w.heap.size w w' := by
 by_cases h1 : c = 1
 · subst h1
   go_enter Try.func68, Try.ntmps68
   go_wp2
   go_ret
   exact ⟨rfl, Below.refl _ _⟩
 · by_cases h2 : c = 2
   · subst h2
     go_enter Try.func68, Try.ntmps68
     go_wp2
     go_ret
     exact ⟨rfl, Below.refl _ _⟩
   · go_enter Try.func68, Try.ntmps68
     go_wp2
     go_ret
     exact ⟨by simp [startAns, h1, h2], Below.refl _ _⟩

theorem specLeave (w : World) : Calls Try.prog 131 #[] w fun e w' => ∃ a, e = .returned a ∧ w'.ownsRow w.heap.size 2 1 a leaveL.length (ints leaveL) ∧ Below w.heap.size w w' := by
 go_enter Try.func131, Try.ntmps131
 go_wp2
 go_ret
 refine ⟨_, rfl, ?_, by go_grown⟩
 exact World.ownsRow_lit (base := w.heap.size) (e := 2) (size := 1) w #[.int .i64 1, .int .i64 2, .int .i64 4, .int .i64 8, .int .i64 0, .int .i64 0, .int .i64 0] 7 (Nat.le_refl _) (by decide) (by simp)

theorem specKeep (w : World) : Calls Try.prog 132 #[] w fun e w' => ∃ a, e = .returned a ∧ w'.ownsRow w.heap.size 2 1 a keepL.length (ints keepL) ∧ Below w.heap.size w w' := by
 go_enter Try.func132, Try.ntmps132
 go_wp2
 go_ret
 refine ⟨_, rfl, ?_, by go_grown⟩
 exact World.ownsRow_lit (base := w.heap.size) (e := 2) (size := 1) w #[.int .i64 1, .int .i64 0, .int .i64 0, .int .i64 0, .int .i64 16, .int .i64 32, .int .i64 64] 7 (Nat.le_refl _) (by decide) (by simp)

theorem specEnter (c : Int) (w : World) : Calls Try.prog 71 #[.int .i64 c] w fun e w' => ∃ a, e = .returned a ∧ w'.ownsRow w.heap.size 2 1 a (enterAns c).length (ints (enterAns c)) ∧ Below w.heap.size w w' := by
 by_cases h1 : c = 1
 · subst h1
   go_enter Try.func71, Try.ntmps71
   go_wp2
   go_ret
   refine ⟨_, rfl, ?_, by go_grown⟩
   exact World.ownsRow_lit (base := w.heap.size) (e := 2) (size := 1) w #[.int .i64 1, .int .i64 2, .int .i64 4, .int .i64 8, .int .i64 0, .int .i64 0, .int .i64 0] 7 (Nat.le_refl _) (by decide) (by simp)
 · by_cases h2 : c = 2
   · subst h2
     go_enter Try.func71, Try.ntmps71
     go_wp2
     go_ret
     refine ⟨_, rfl, ?_, by go_grown⟩
     exact World.ownsRow_lit (base := w.heap.size) (e := 2) (size := 1) w #[.int .i64 113, .int .i64 2, .int .i64 4, .int .i64 8, .int .i64 0, .int .i64 0, .int .i64 0] 7 (Nat.le_refl _) (by decide) (by simp)
   · have e : enterAns c = [] := by simp [enterAns, h1, h2]
     rw [e]
     go_enter Try.func71, Try.ntmps71
     go_wp2
     go_ret
     exact ⟨_, rfl, made0 w, by go_grown⟩

/-- The block B holds these seven numbers. -/
abbrev IntAt (w : World) (B : Nat) (xs : List Int) : Prop := w.heap[B]? = some (.cells (ints xs).toArray 2 (0, 0))

theorem IntAt.cell {w : World} {B : Nat} {xs : List Int} (h : IntAt w B xs) (j : Nat) (hj : j < xs.length) : w.cell? ⟨B, j, none⟩ = some (.int .i64 (xs.getD j 0)) ∧ w.frozen? ⟨B, j, none⟩ = false := by
 refine ⟨?_, frozen_of_row w B j _ _ h⟩
 rw [cell_of_row w B j _ _ (0, 0) h]
 simp [ints, List.getD, hj]

theorem IntAt.set {w : World} {B : Nat} {xs : List Int} (h : IntAt w B xs) (j : Nat) (x : Int) : IntAt (w.setCell ⟨B, j, none⟩ (.int .i64 x)) B (xs.set j x) := by
 have := heap_setCell_same w B j _ _ (.int .i64 x) h
 show (w.setCell ⟨B, j, none⟩ (.int .i64 x)).heap[B]? = _
 rw [this]
 simp [ints, List.map_set]

theorem IntAt.lt {w : World} {B : Nat} {xs : List Int} (h : IntAt w B xs) : B < w.heap.size := (Array.getElem?_eq_some_iff.1 h).1

theorem IntAt.own {w : World} {B : Nat} {xs : List Int} (h : IntAt w B xs) {base : Nat} (hb : base ≤ B) (hl : xs.length = 7) : w.ownsRow base 2 1 (.slice (some ⟨B, 0, none⟩) 7 7) 7 (ints xs) :=
 ⟨by simp [ints, hl], .inr ⟨B, 7, (ints xs).toArray, rfl, hb, h, by omega, by unfold maxLen; omega, by simp [ints, hl], by rw [List.toList_toArray, Nat.mul_one]; exact List.take_of_length_le (by simp [ints, hl])⟩⟩

theorem specUnitAt (w : World) : Calls Try.prog 97 #[] w fun e w' => e = .returned (.slice (some ⟨w.heap.size, 0, none⟩) 7 7) ∧ IntAt w' w.heap.size unitL ∧ Below w.heap.size w w' := by
 go_enter Try.func97, Try.ntmps97
 go_wp2
 go_ret
 exact ⟨rfl, heap_alloc_new w _, by go_grown⟩

theorem l7Client (c : Int) (w : World) : Calls Try.prog 40 #[.int .i64 c] w fun e w' => e = .returned (.bool (decide (c = 1 ∨ c = 2))) ∧ w = w' := by
 have h : inB c 1 2 = decide (c = 1 ∨ c = 2) := by
  rw [Bool.eq_iff_iff]; simp [inB]; omega
 rw [← h]
 clear h
 go_enter Try.func40, Try.ntmps40
 go_wp2_with (go_at_call 51; refine (l1In _ _ _ _).mono ?_; rintro e w' ⟨rfl, rfl⟩)
 go_ret
 exact ⟨rfl, rfl⟩

theorem l7Without (x : Nat) (hx : x < 6) (w : World) : Calls Try.prog 148 #[.int .i64 (x : Int)] w fun e w' => e = .returned (.slice (some ⟨w.heap.size, 0, none⟩) 7 7) ∧ IntAt w' w.heap.size (unitL.set (x + 1) 0) ∧ Below w.heap.size w w' := by
 have hun := fun W => specUnitAt W
 generalize hus : unitL = us at *
 have hu7 : us.length = 7 := by rw [← hus]; rfl
 clear hus
 have hx' : (x : Int) + 1 < 7 := by omega
 go_enter Try.func148, Try.ntmps148
 go_wp2_with fail
 go_at_call 97
 refine (hun _).mono ?_
 rintro e w1 ⟨rfl, i1, b1⟩
 obtain ⟨c0, f0⟩ := i1.cell (x + 1) (by omega)
 have H1 : Hid (IntAt w1 w.heap.size us) := i1
 clear i1 hun
 go_wp2
 go_ret
 exact ⟨rfl, by simpa using H1.out.set (x + 1) 0, b1.setCell (Nat.le_refl _) _⟩

theorem flow2_same (x : Nat) (hx : x < 6) : mkL unitL (factN x) (factN x) = unitL := by
 have hc : x = 0 ∨ x = 1 ∨ x = 2 ∨ x = 3 ∨ x = 4 ∨ x = 5 := by omega
 rcases hc with rfl | rfl | rfl | rfl | rfl | rfl <;> first | decide | kernel_rfl

theorem flow2_set (x y : Nat) (hx : x < 6) (hy : y < 6) (hn : ¬ x = y) : (unitL.set (x + 1) 0).set (y + 1) (bits .or .i64 ((unitL.set (x + 1) 0).getD (y + 1) 0) (2 * 2 ^ x)) = mkL unitL (factN x) (factN y) := by
 have hc : x = 0 ∨ x = 1 ∨ x = 2 ∨ x = 3 ∨ x = 4 ∨ x = 5 := by omega
 have hd : y = 0 ∨ y = 1 ∨ y = 2 ∨ y = 3 ∨ y = 4 ∨ y = 5 := by omega
 rcases hc with rfl | rfl | rfl | rfl | rfl | rfl <;> rcases hd with rfl | rfl | rfl | rfl | rfl | rfl <;> first | exact absurd rfl hn | decide

theorem wrap_bit (x : Nat) (hx : x < 6) : wrap64 (2 * 2 ^ x) = 2 * 2 ^ x := by
 unfold wrap64
 have hc : x = 0 ∨ x = 1 ∨ x = 2 ∨ x = 3 ∨ x = 4 ∨ x = 5 := by omega
 rcases hc with rfl | rfl | rfl | rfl | rfl | rfl <;> decide

theorem l7Flow2 (c : Int) (x y : Nat) (hx : x < 6) (hy : y < 6) (w : World) :
 Calls Try.prog 133 #[.int .i64 c, .agg #[.int .i64 2, .int .i64 (x : Int), .int .i64 (y : Int)]] w fun e w' => ∃ B, e = .returned (.slice (some ⟨B, 0, none⟩) 7 7) ∧ w.heap.size ≤ B ∧ IntAt w' B (mkL unitL (factN x) (factN y)) ∧ Below w.heap.size w w' := by
 have hun := fun W => specUnitAt W
 have hwi := fun W => l7Without x hx W
 have hwr := wrap_bit x hx
 have hy1 : IntKind.i64.wrap ((y : Int) + 1) = (y : Int) + 1 := IntWalk.i64_in _ (by omega)
 have hy2 : (0 : Int) ≤ (y : Int) + 1 := by omega
 have hy3 : ((y : Int) + 1).toNat = y + 1 := by omega
 have hy' : (y : Int) + 1 < 7 := by omega
 go_enter Try.func133, Try.ntmps133
 go_wp2_with fail
 go_at_call 97
 refine (hun _).mono ?_
 rintro e w1 ⟨rfl, i1, b1⟩
 obtain ⟨L1, q1⟩ := flow_pre b1
 obtain ⟨g0, g1, g2⟩ := stmt_cells q1
 have hlt : w.heap.size < w1.heap.size := (Array.getElem?_eq_some_iff.1 q1).1
 have Q1 : Hid _ := q1
 clear q1 b1 hun
 by_cases hxy : (x : Int) = (y : Int)
 · have e := flow2_same x hx
   obtain rfl : x = y := by omega
   rw [← e] at i1
   have I1 : Hid _ := i1
   clear e i1
   go_wp2
   go_ret
   exact ⟨_, rfl, by simp, by simpa using I1.out, L1⟩
 · have hzs := flow2_set x y hx hy (fun e => hxy (by omega))
   have h7 : (unitL.set (x + 1) 0).length = 7 := by simp [unitL]
   generalize unitL.set (x + 1) 0 = vs at *
   have HZ : Hid _ := hzs
   clear hzs i1
   go_wp2_with fail
   go_at_call 148
   refine (hwi _).mono ?_
   rintro e w2 ⟨rfl, i2, b2⟩
   obtain ⟨k0, k1, k2⟩ := stmt_cells ((b2.block _ hlt).trans Q1.out)
   obtain ⟨c0, f0⟩ := i2.cell (y + 1) (by omega)
   have I2 : Hid (IntAt w2 w1.heap.size vs) := i2
   have L2 := L1.trans (b2.mono L1.size)
   clear g0 g1 g2 i2 hwi b2 Q1
   go_wp2_with fail
   go_region
   go_wp2
   go_ret
   exact ⟨w1.heap.size, rfl, by omega, by rw [← HZ.out]; exact I2.out.set (y + 1) _, Below.drew (Below.setCell L2 (by show w.heap.size ≤ w1.heap.size; omega) _)⟩

theorem flow3_set (x y : Nat) (hx : x < 6) (hy : y < 6) : unitL.set (y + 1) (bits .or .i64 (unitL.getD (y + 1) 0) (2 * 2 ^ x)) = mkL unitL (factN x) (lor (factN x) (factN y)) := by
 have hc : x = 0 ∨ x = 1 ∨ x = 2 ∨ x = 3 ∨ x = 4 ∨ x = 5 := by omega
 have hd : y = 0 ∨ y = 1 ∨ y = 2 ∨ y = 3 ∨ y = 4 ∨ y = 5 := by omega
 rcases hc with rfl | rfl | rfl | rfl | rfl | rfl <;> rcases hd with rfl | rfl | rfl | rfl | rfl | rfl <;> decide

theorem l7Flow3 (c : Int) (x y : Nat) (hx : x < 6) (hy : y < 6) (w : World) :
 Calls Try.prog 133 #[.int .i64 c, .agg #[.int .i64 3, .int .i64 (x : Int), .int .i64 (y : Int)]] w fun e w' => ∃ B, e = .returned (.slice (some ⟨B, 0, none⟩) 7 7) ∧ w.heap.size ≤ B ∧ IntAt w' B (mkL unitL (factN x) (lor (factN x) (factN y))) ∧ Below w.heap.size w w' := by
 have hun := fun W => specUnitAt W
 have hwr := wrap_bit x hx
 have hy1 : IntKind.i64.wrap ((y : Int) + 1) = (y : Int) + 1 := IntWalk.i64_in _ (by omega)
 have hy2 : (0 : Int) ≤ (y : Int) + 1 := by omega
 have hy3 : ((y : Int) + 1).toNat = y + 1 := by omega
 have hy' : (y : Int) + 1 < 7 := by omega
 have hzs := flow3_set x y hx hy
 obtain ⟨us, hus⟩ : ∃ us, us = unitL := ⟨_, rfl⟩
 have HZ : Hid (us.set (y + 1) (bits .or .i64 (us.getD (y + 1) 0) (2 * 2 ^ x)) = mkL unitL (factN x) (lor (factN x) (factN y))) := by rw [hus]; exact hzs
 have h7 : us.length = 7 := by rw [hus]; rfl
 rw [← hus] at hun
 clear hzs hus
 go_enter Try.func133, Try.ntmps133
 go_wp2_with fail
 go_at_call 97
 refine (hun _).mono ?_
 rintro e w1 ⟨rfl, i1, b1⟩
 obtain ⟨L1, q1⟩ := flow_pre b1
 obtain ⟨g0, g1, g2⟩ := stmt_cells q1
 have hlt : w.heap.size < w1.heap.size := (Array.getElem?_eq_some_iff.1 q1).1
 clear q1 b1 hun
 obtain ⟨c0, f0⟩ := i1.cell (y + 1) (by omega)
 have I1 : Hid _ := i1
 simp only [World.size_alloc] at c0 f0
 clear i1
 go_wp2_with fail
 go_region
 go_wp2
 go_ret
 exact ⟨w.heap.size + 1, rfl, by omega, by rw [← HZ.out]; exact IntAt.set (by simpa using I1.out) (y + 1) _, Below.drew (Below.setCell L1 (by show w.heap.size ≤ w.heap.size + 1; omega) _)⟩

theorem flow4_set (x : Nat) (hx : x < 6) : unitL.set (x + 1) 0 = mkL unitL (factN x) 0 := by
 have hc : x = 0 ∨ x = 1 ∨ x = 2 ∨ x = 3 ∨ x = 4 ∨ x = 5 := by omega
 rcases hc with rfl | rfl | rfl | rfl | rfl | rfl <;> decide

theorem flow5_set (x : Nat) (hx : x < 6) : (unitL.set (x + 1) 0).set 0 (bits .or .i64 ((unitL.set (x + 1) 0).getD 0 0) (2 * 2 ^ x)) = mkL unitL (factN x) 1 := by
 have hc : x = 0 ∨ x = 1 ∨ x = 2 ∨ x = 3 ∨ x = 4 ∨ x = 5 := by omega
 rcases hc with rfl | rfl | rfl | rfl | rfl | rfl <;> decide

theorem l7Flow4 (c : Int) (x : Nat) (y : Int) (hx : x < 6) (w : World) :
 Calls Try.prog 133 #[.int .i64 c, .agg #[.int .i64 4, .int .i64 (x : Int), .int .i64 y]] w fun e w' => ∃ B, e = .returned (.slice (some ⟨B, 0, none⟩) 7 7) ∧ w.heap.size ≤ B ∧ IntAt w' B (mkL unitL (factN x) 0) ∧ Below w.heap.size w w' := by
 have hun := fun W => specUnitAt W
 have hwi := fun W => l7Without x hx W
 have hwr := wrap_bit x hx
 rw [flow4_set x hx] at hwi
 go_enter Try.func133, Try.ntmps133
 go_wp2_with fail
 go_at_call 97
 refine (hun _).mono ?_
 rintro e w1 ⟨rfl, i1, b1⟩
 obtain ⟨L1, q1⟩ := flow_pre b1
 obtain ⟨g0, g1, g2⟩ := stmt_cells q1
 have hlt : w.heap.size < w1.heap.size := (Array.getElem?_eq_some_iff.1 q1).1
 clear q1 b1 hun i1
 go_wp2_with fail
 go_at_call 148
 refine (hwi _).mono ?_
 rintro e w2 ⟨rfl, i2, b2⟩
 have I2 : Hid _ := i2
 have L2 := L1.trans (b2.mono L1.size)
 clear g0 g1 g2 i2 hwi b2
 go_wp2
 go_ret
 exact ⟨w1.heap.size, rfl, by omega, I2.out, L2⟩

theorem l7Flow5a (x : Nat) (y : Int) (hx : x < 6) (w : World) :
 Calls Try.prog 133 #[.int .i64 1, .agg #[.int .i64 5, .int .i64 (x : Int), .int .i64 y]] w fun e w' => ∃ B, e = .returned (.slice (some ⟨B, 0, none⟩) 7 7) ∧ w.heap.size ≤ B ∧ IntAt w' B (mkL unitL (factN x) 1) ∧ Below w.heap.size w w' := by
 have hun := fun W => specUnitAt W
 have hwi := fun W => l7Without x hx W
 have hwr := wrap_bit x hx
 have hzs := flow5_set x hx
 have h7 : (unitL.set (x + 1) 0).length = 7 := by simp [unitL]
 have hv0 : (unitL.set (x + 1) 0).getD 0 0 = 1 := rfl
 rw [hv0] at hzs
 generalize unitL.set (x + 1) 0 = vs at hwi hzs h7 hv0
 have HZ : Hid _ := hzs
 clear hzs
 go_enter Try.func133, Try.ntmps133
 go_wp2_with fail
 go_at_call 97
 refine (hun _).mono ?_
 rintro e w1 ⟨rfl, i1, b1⟩
 obtain ⟨L1, q1⟩ := flow_pre b1
 obtain ⟨g0, g1, g2⟩ := stmt_cells q1
 have hlt : w.heap.size < w1.heap.size := (Array.getElem?_eq_some_iff.1 q1).1
 clear q1 b1 hun i1
 go_wp2_with fail
 go_at_call 148
 refine (hwi _).mono ?_
 rintro e w2 ⟨rfl, i2, b2⟩
 obtain ⟨c0, f0⟩ := i2.cell 0 (by omega)
 rw [hv0] at c0
 have I2 : Hid (IntAt w2 w1.heap.size vs) := i2
 have L2 := L1.trans (b2.mono L1.size)
 clear g0 g1 g2 i2 hwi b2
 go_wp2
 go_ret
 exact ⟨w1.heap.size, rfl, by omega, by rw [← HZ.out]; exact I2.out.set 0 _, Below.setCell L2 (by show w.heap.size ≤ w1.heap.size; omega) _⟩

theorem l7Flow5b (x : Nat) (y : Int) (hx : x < 6) (w : World) :
 Calls Try.prog 133 #[.int .i64 2, .agg #[.int .i64 5, .int .i64 (x : Int), .int .i64 y]] w fun e w' => ∃ B, e = .returned (.slice (some ⟨B, 0, none⟩) 7 7) ∧ w.heap.size ≤ B ∧ IntAt w' B (mkL unitL (factN x) 0) ∧ Below w.heap.size w w' := by
 have hun := fun W => specUnitAt W
 have hwi := fun W => l7Without x hx W
 have hwr := wrap_bit x hx
 rw [flow4_set x hx] at hwi
 go_enter Try.func133, Try.ntmps133
 go_wp2_with fail
 go_at_call 97
 refine (hun _).mono ?_
 rintro e w1 ⟨rfl, i1, b1⟩
 obtain ⟨L1, q1⟩ := flow_pre b1
 obtain ⟨g0, g1, g2⟩ := stmt_cells q1
 have hlt : w.heap.size < w1.heap.size := (Array.getElem?_eq_some_iff.1 q1).1
 clear q1 b1 hun i1
 go_wp2_with fail
 go_at_call 148
 refine (hwi _).mono ?_
 rintro e w2 ⟨rfl, i2, b2⟩
 have I2 : Hid _ := i2
 have L2 := L1.trans (b2.mono L1.size)
 clear g0 g1 g2 i2 hwi b2
 go_wp2
 go_ret
 exact ⟨w1.heap.size, rfl, by omega, I2.out, L2⟩

theorem l7FlowElse (c k : Int) (x : Nat) (y : Int) (hx : x < 6) (h2 : ¬ k = 2) (h3 : ¬ k = 3) (h4 : ¬ k = 4) (h5 : ¬ k = 5) (w : World) :
 Calls Try.prog 133 #[.int .i64 c, .agg #[.int .i64 k, .int .i64 (x : Int), .int .i64 y]] w fun e w' => ∃ B, e = .returned (.slice (some ⟨B, 0, none⟩) 7 7) ∧ w.heap.size ≤ B ∧ IntAt w' B unitL ∧ Below w.heap.size w w' := by
 have hun := fun W => specUnitAt W
 have hwr := wrap_bit x hx
 go_enter Try.func133, Try.ntmps133
 go_wp2_with fail
 go_at_call 97
 refine (hun _).mono ?_
 rintro e w1 ⟨rfl, i1, b1⟩
 obtain ⟨L1, q1⟩ := flow_pre b1
 obtain ⟨g0, g1, g2⟩ := stmt_cells q1
 have hlt : w.heap.size < w1.heap.size := (Array.getElem?_eq_some_iff.1 q1).1
 have I1 : Hid _ := i1
 clear q1 b1 hun i1
 go_wp2
 go_ret
 exact ⟨w.heap.size + 1, rfl, by omega, by simpa using I1.out, L1⟩

theorem stmtOk_x6 {k x y : Int} (h : stmtOk k x y = true) : ∃ i : Nat, x = i ∧ i < 6 := by
 have h1 : inB x 0 5 = true := by
  rcases kinds k with rfl | rfl | rfl | rfl | rfl | rfl | rfl | rfl | rfl | ⟨h1, h2, h3, h4, h5, h6, h7, h8, h9⟩
  all_goals simp [stmtOk, *] at h
  all_goals simp [inB] at h ⊢
  all_goals omega
 obtain ⟨i, rfl, hi⟩ := inB_nat h1
 exact ⟨i, rfl, by omega⟩

theorem l7Flow (c k x y : Int) (hc : c = 1 ∨ c = 2) (h : stmtOk k x y = true) (w : World) :
 Calls Try.prog 133 #[.int .i64 c, .agg #[.int .i64 k, .int .i64 x, .int .i64 y]] w fun e w' => ∃ B, e = .returned (.slice (some ⟨B, 0, none⟩) 7 7) ∧ w.heap.size ≤ B ∧ IntAt w' B (flowL c k x y) ∧ Below w.heap.size w w' := by
 by_cases h2 : k = 2
 · subst h2
   obtain ⟨i, j, rfl, rfl, hi, hj⟩ := stmtOk_xy h (.inl rfl)
   exact l7Flow2 c i j hi hj w
 · by_cases h3 : k = 3
   · subst h3
     obtain ⟨i, j, rfl, rfl, hi, hj⟩ := stmtOk_xy h (.inr rfl)
     exact l7Flow3 c i j hi hj w
   · by_cases h4 : k = 4
     · subst h4
       obtain ⟨i, rfl, hi⟩ := stmtOk_x h (.inl rfl)
       exact l7Flow4 c i y hi w
     · by_cases h5 : k = 5
       · subst h5
         obtain ⟨i, rfl, hi⟩ := stmtOk_x h (.inr rfl)
         rcases hc with rfl | rfl
         · exact l7Flow5a i y hi w
         · exact l7Flow5b i y hi w
       · have e : flowL c k x y = unitL := by simp [flowL, h2, h3, h4, h5]
         rw [e]
         obtain ⟨i, rfl, hi⟩ := stmtOk_x6 h
         exact l7FlowElse c k i y hi h2 h3 h4 h5 w

end Go.Proofs.Ytnjbihfceckpfaa
