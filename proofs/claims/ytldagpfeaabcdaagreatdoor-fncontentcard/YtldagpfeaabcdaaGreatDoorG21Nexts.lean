/-
  Put together out of: FlowImpl, SpecFlow, RelMath, FlowsMath, Nexts.
-/
import Derived.Test.YtldagpfeaabcdaaGreatDoorFlowRel
import Derived.BigRegion
import Derived.Test.YtldagpfeaabcdaaGreatDoorG19FlowTop
import Derived.Test.YtldagpfeaabcdaaGreatDoorG16Put
import Derived.Test.YtldagpfeaabcdaaGreatDoorProc
import Derived.Laws.OwnMore
/-
  Chapter 7, the program's side: Flow.
-/
namespace Go.Proofs.YtldagpfeaabcdaaGreatDoor
open Go.RowKit
set_option linter.unusedVariables false
set_option maxHeartbeats 2000000
set_option maxRecDepth 4000

theorem relationOfElse (k x y : Int) (h2 : ¬ k = 2) (h3 : ¬ k = 3) (h4 : ¬ k = 4) (h5 : ¬ k = 5) (m : Nat) (w : World) :
    Calls Tryz.prog 116 #[flowsV m, .agg #[.int .i64 k, .int .i64 x, .int .i64 y]] w fun e w' => e = .returned (relV unitL) ∧ Below w.heap.size w w' := by
  have hun := fun W => implUnit W
  obtain ⟨us, hus⟩ : ∃ us, unitL = us := ⟨_, rfl⟩
  have hu7 : us.length = 7 := by rw [← hus]; rfl
  rw [hus] at hun ⊢
  clear hus
  unfold flowsV
  go_enter Tryz.func116, Tryz.ntmps116
  go_wp2_with fail
  go_at_call 96
  refine (hun _).mono ?_
  rintro e w1 ⟨a, rfl, oa, b1⟩
  clear hun
  obtain ⟨g, off, cap, rfl, hrg⟩ := reads_range (reads_own oa) hu7
  have HG : Hid (w1.rangeAt g off (ints us)) := hrg
  clear hrg oa
  have hst := fresh_there w1
  have HT : Hid _ := hst
  clear hst
  obtain ⟨bF, bS, bR, L1, hU1⟩ := three_blocks b1
  clear b1
  have hpre : ∀ (B : Nat) (o : Obj), B < w1.heap.size → w1.heap[B]? = some o → ((fresh7 w1).setCells w1.heap.size 0 (ints us)).heap[B]? = some o := fun B o hB h => by
    refine ((grown_setCells7 _ _ _ _).block _ (by simp; omega) (by simp; omega)).trans ?_
    rw [old_block hB]
    exact h
  have bU : RelAt ((fresh7 w1).setCells w1.heap.size 0 (ints us)) w1.heap.size us := fresh_rel w1 us hu7
  have L2 : Below w.heap.size w ((fresh7 w1).setCells w1.heap.size 0 (ints us)) := fresh_below L1 (by omega) _
  have bS := hpre _ _ (by omega) bS
  have bR : RelAt ((fresh7 w1).setCells w1.heap.size 0 (ints us)) (w.heap.size + 1 + 1) (List.replicate 7 0) := hpre _ _ (by omega) bR
  have HBU : Hid _ := bU.range
  have ht : ((fresh7 w1).setCells w1.heap.size 0 (ints us)).there (w.heap.size + 1 + 1) 0 7 := by simpa using bR.there
  have HBR : Hid _ := ht
  have hk0 : ((fresh7 w1).setCells w1.heap.size 0 (ints us)).cell? ⟨w.heap.size + 1, 0, none⟩ = some (.int .i64 k) := by rw [cell_of_row _ _ 0 _ _ (0, 0) bS]; rfl
  clear hpre bF bS bR bU L1 ht
  go_wp2_with (first
    | refine wpList_arrayAt rfl (.tmp 6) rfl g off cap rfl ?_
    | refine wpList_loadRel rfl (.tmp 7) rfl g off us rfl hu7 HG.out ?_
    | refine wpList_loadRel rfl (.tmp 5) rfl w1.heap.size 0 us rfl hu7 HBU.out ?_
    | refine wpList_storeRel rfl rfl (.tmp 5) (.tmp 8) rfl w1.heap.size 0 us rfl rfl hu7 HT.out ?_
    | refine wpList_storeRel rfl rfl (.tmp 4) (.tmp 51) rfl (w.heap.size + 1 + 1) 0 us rfl rfl hu7 HBR.out ?_)
  refine bodyPost_cellR rfl (w.heap.size + 1 + 1) 0 (ints us) _ rfl (World.rangeAt_setCells_same _ _ _ _ (by rw [ints_length, hu7]; exact HBR.out)) relUnd rfl (by rw [relInfo]; simp [ints, hu7]) rfl ⟨rfl, ?_⟩
  exact L2.grown (grown_setCells7 _ _ _ _) (by have := L2.size; omega) (fun k hk => by simp at hk; omega)

/-- What a statement does. -/
def flowL (c k x y : Int) : List Int :=
  if k = 2 then mkL unitL (factN x.toNat) (factN y.toNat)
  else if k = 3 then mkL unitL (factN x.toNat) (lor (factN x.toNat) (factN y.toNat))
  else if k = 4 then mkL unitL (factN x.toNat) 0
  else if k = 5 then mkL unitL (factN x.toNat) (if c = 1 then 1 else 0)
  else unitL

def flowAns (c k x y : Int) : List Int := if (c = 1 ∨ c = 2) ∧ stmtOk k x y = true then flowL c k x y else []

theorem flowL_length (c k x y : Int) : (flowL c k x y).length = 7 := by
  unfold flowL
  split
  · exact mkL_length _ _ _
  split
  · exact mkL_length _ _ _
  split
  · exact mkL_length _ _ _
  split
  · exact mkL_length _ _ _
  rfl

theorem inB_nat {x n : Int} (h : inB x 0 n = true) : ∃ i : Nat, x = i ∧ (i : Int) ≤ n := by
  simp [inB] at h
  exact ⟨x.toNat, by omega, by omega⟩

theorem stmtOk_xy {k x y : Int} (h : stmtOk k x y = true) (hk : k = 2 ∨ k = 3) : ∃ i j : Nat, x = i ∧ y = j ∧ i < 6 ∧ j < 6 := by
  have h1 : inB x 0 5 = true ∧ inB y 0 5 = true := by
    rcases hk with rfl | rfl <;> simpa [stmtOk] using h
  obtain ⟨i, rfl, hi⟩ := inB_nat h1.1
  obtain ⟨j, rfl, hj⟩ := inB_nat h1.2
  exact ⟨i, j, rfl, rfl, by omega, by omega⟩

theorem stmtOk_x {k x y : Int} (h : stmtOk k x y = true) (hk : k = 4 ∨ k = 5) : ∃ i : Nat, x = i ∧ i < 6 := by
  have h1 : inB x 0 5 = true ∧ inB y 0 0 = true := by
    rcases hk with rfl | rfl <;> simpa [stmtOk] using h
  obtain ⟨i, rfl, hi⟩ := inB_nat h1.1
  exact ⟨i, rfl, by omega⟩

/-- A client's function for a mark. -/
def markFn (c : Int) : Nat := if c = 1 then 88 else 87

theorem relationOf (c k x y : Int) (hc : c = 1 ∨ c = 2) (h : stmtOk k x y = true) (w : World) :
    Calls Tryz.prog 116 #[flowsV (markFn c), .agg #[.int .i64 k, .int .i64 x, .int .i64 y]] w fun e w' => e = .returned (relV (flowL c k x y)) ∧ Below w.heap.size w w' := by
  by_cases h2 : k = 2
  · subst h2
    obtain ⟨i, j, rfl, rfl, hi, hj⟩ := stmtOk_xy h (.inl rfl)
    exact relationOf2 i j hi hj _ w
  · by_cases h3 : k = 3
    · subst h3
      obtain ⟨i, j, rfl, rfl, hi, hj⟩ := stmtOk_xy h (.inr rfl)
      exact relationOf3 i j hi hj _ w
    · by_cases h4 : k = 4
      · subst h4
        obtain ⟨i, rfl, hi⟩ := stmtOk_x h (.inl rfl)
        exact relationOf4 i y hi _ w
      · by_cases h5 : k = 5
        · subst h5
          obtain ⟨i, rfl, hi⟩ := stmtOk_x h (.inr rfl)
          rcases hc with rfl | rfl
          · exact relationOf5a i y hi w
          · exact relationOf5b i y hi w
        · have e : flowL c k x y = unitL := by simp [flowL, h2, h3, h4, h5]
          rw [e]
          exact relationOfElse k x y h2 h3 h4 h5 _ w

theorem flowsOf (c : Int) (hc : c = 1 ∨ c = 2) (w : World) : Calls Tryz.prog 65 #[.int .i64 c] w fun e w' => e = .returned (.tuple #[flowsV (markFn c), .bool true]) ∧ Below w.heap.size w w' := by
  rcases hc with rfl | rfl
  · exact flowsOf1 w
  · exact flowsOf2 w

theorem stmt_cells {W : World} {B : Nat} {k x y : Int} {t : TypeId} (q : W.heap[B]? = some (.cells #[.int .i64 k, .int .i64 x, .int .i64 y] t (0, 0))) :
    W.cell? ⟨B, 0, none⟩ = some (.int .i64 k) ∧ W.cell? ⟨B, 1, none⟩ = some (.int .i64 x) ∧ W.cell? ⟨B, 2, none⟩ = some (.int .i64 y) :=
  ⟨by rw [cell_of_row _ _ 0 _ _ (0, 0) q]; rfl, by rw [cell_of_row _ _ 1 _ _ (0, 0) q]; rfl, by rw [cell_of_row _ _ 2 _ _ (0, 0) q]; rfl⟩

theorem four_cells {W : World} {B : Nat} {v0 v1 v2 v3 : Value} {t : TypeId} (q : W.heap[B]? = some (.cells #[v0, v1, v2, v3] t (0, 0))) :
    W.cell? ⟨B, 0, none⟩ = some v0 ∧ W.cell? ⟨B, 1, none⟩ = some v1 ∧ W.cell? ⟨B, 2, none⟩ = some v2 ∧ W.cell? ⟨B, 3, none⟩ = some v3 :=
  ⟨by rw [cell_of_row _ _ 0 _ _ (0, 0) q]; rfl, by rw [cell_of_row _ _ 1 _ _ (0, 0) q]; rfl, by rw [cell_of_row _ _ 2 _ _ (0, 0) q]; rfl, by rw [cell_of_row _ _ 3 _ _ (0, 0) q]; rfl⟩

theorem flow_pre {w w1 : World} {o : Obj} (b1 : Below (w.alloc o).heap.size (w.alloc o) w1) : Below w.heap.size w w1 ∧ w1.heap[w.heap.size]? = some o := by
  have a1 : Below w.heap.size w (w.alloc o) := (Below.refl _ _).alloc (Nat.le_refl _) o
  exact ⟨a1.trans (b1.mono a1.size), (b1.block _ (by simp)).trans (heap_alloc_new w _)⟩

theorem implFlow (c k x y : Int) (w : World) :
    Calls Tryz.prog 105 #[.int .i64 c, .agg #[.int .i64 k, .int .i64 x, .int .i64 y]] w fun e w' => ∃ a, e = .returned a ∧ w'.ownsRow w.heap.size 67 1 a (flowAns c k x y).length (ints (flowAns c k x y)) ∧ Below w.heap.size w w' := by
  have hso := fun W => implStmtOk k x y W
  by_cases hc : c = 1 ∨ c = 2
  · have hfo := fun W => flowsOf c hc W
    cases hs : stmtOk k x y
    · have h1 : flowAns c k x y = [] := by simp [flowAns, hs]
      rw [h1]
      rw [hs] at hso
      generalize markFn c = m at *
      unfold flowsV at hfo
      clear hc h1 hs
      go_enter Tryz.func105, Tryz.ntmps105
      go_wp2_with fail
      go_at_call 65
      refine (hfo _).mono ?_
      rintro e w1 ⟨rfl, b1⟩
      clear hfo
      obtain ⟨L1, q1⟩ := flow_pre b1
      have hlt : w.heap.size < w1.heap.size := (Array.getElem?_eq_some_iff.1 q1).1
      have q2 : ∀ o, (w1.alloc o).heap[w.heap.size]? = _ := fun o => (old_block hlt).trans q1
      have g0 := fun o => (stmt_cells (q2 o)).1
      have g1 := fun o => (stmt_cells (q2 o)).2.1
      have g2 := fun o => (stmt_cells (q2 o)).2.2
      have s1 := L1.size
      clear q1 q2 b1
      go_wp2_with (go_at_call 70; refine (hso _).mono ?_; rintro e w2 ⟨rfl, b2⟩)
      go_ret
      exact ⟨_, rfl, ⟨rfl, .inl ⟨rfl, rfl⟩⟩, (L1.alloc (by omega) _).trans (b2.mono (by simp; omega))⟩
    · have h1 : flowAns c k x y = flowL c k x y := by simp [flowAns, hs, hc]
      rw [h1]
      rw [hs] at hso
      have hz7 := flowL_length c k x y
      have hro := fun W => relationOf c k x y hc hs W
      generalize flowL c k x y = zs at *
      generalize markFn c = m at *
      unfold flowsV at hfo hro
      clear hc h1 hs
      go_enter Tryz.func105, Tryz.ntmps105
      go_wp2_with fail
      go_at_call 65
      refine (hfo _).mono ?_
      rintro e w1 ⟨rfl, b1⟩
      clear hfo
      obtain ⟨L1, q1⟩ := flow_pre b1
      have hlt : w.heap.size < w1.heap.size := (Array.getElem?_eq_some_iff.1 q1).1
      have q2 : ∀ o, (w1.alloc o).heap[w.heap.size]? = _ := fun o => (old_block hlt).trans q1
      have g0 := fun o => (stmt_cells (q2 o)).1
      have g1 := fun o => (stmt_cells (q2 o)).2.1
      have g2 := fun o => (stmt_cells (q2 o)).2.2
      have s1 := L1.size
      have HQ : Hid _ := q2
      clear q1 q2 b1
      go_wp2_with fail
      go_at_call 70
      refine (hso _).mono ?_
      rintro e w2 ⟨rfl, b2⟩
      clear hso g0 g1 g2
      have s2 := b2.size
      simp only [World.size_alloc] at s2
      obtain ⟨g0, g1, g2⟩ := stmt_cells ((b2.block _ (by simp; omega)).trans (HQ.out _))
      obtain ⟨k0, k1, k2, k3⟩ := four_cells ((b2.block w1.heap.size (by simp)).trans (heap_alloc_new w1 _))
      have L2 := (L1.alloc (by omega) _).trans (b2.mono (by simp; omega))
      clear HQ b2
      go_wp2_with fail
      go_at_call 116
      refine (hro _).mono ?_
      rintro e w3 ⟨rfl, b3⟩
      have L3 := L2.trans (b3.mono L2.size)
      have s3 := L3.size
      clear hro g0 g1 g2 k0 k1 k2 k3 b3
      have hst := fresh_there w3
      have HS : Hid _ := hst
      clear hst
      go_wp2_with (refine wpList_storeRel rfl rfl (.tmp 7) (.tmp 22) rfl w3.heap.size 0 zs rfl rfl hz7 HS.out ?_)
      go_ret
      exact ⟨_, rfl, by rw [hz7]; exact RelAt.own (fresh_rel w3 zs hz7) L3.size hz7, fresh_below L3 L3.size _⟩
  · have h1 : flowAns c k x y = [] := by simp [flowAns, hc]
    rw [h1]
    have hfo := fun W => flowsOfNo c (fun e => hc (.inl e)) (fun e => hc (.inr e)) W
    clear h1 hc
    go_enter Tryz.func105, Tryz.ntmps105
    go_wp2_with fail
    go_at_call 65
    refine (hfo _).mono ?_
    rintro e w1 ⟨rfl, b1⟩
    clear hfo
    obtain ⟨L1, q1⟩ := flow_pre b1
    have s1 := L1.size
    clear q1 b1
    go_wp2
    go_ret
    exact ⟨_, rfl, ⟨rfl, .inl ⟨rfl, rfl⟩⟩, L1.alloc (by omega) _⟩

end Go.Proofs.YtldagpfeaabcdaaGreatDoor

/-
  Chapter 7, the specification's side: Start, Leave, Keep, Enter, Flow.
-/
namespace Go.Proofs.YtldagpfeaabcdaaGreatDoor
open Go.RowKit
set_option linter.unusedVariables false
set_option maxHeartbeats 2000000
set_option maxRecDepth 4000

/-- The block B holds these seven numbers. -/
abbrev IntAt (w : World) (B : Nat) (xs : List Int) : Prop := w.heap[B]? = some (.cells (ints xs).toArray 2 (0, 0))

theorem IntAt.cell {w : World} {B : Nat} {xs : List Int} (h : IntAt w B xs) (j : Nat) (hj : j < xs.length) : w.cell? ⟨B, j, none⟩ = some (.int .i64 (xs.getD j 0)) ∧ w.frozen? ⟨B, j, none⟩ = false := by
  refine ⟨?_, frozen_of_row w B j _ _ h⟩
  rw [cell_of_row w B j _ _ (0, 0) h]
  simp [ints, List.getD, hj]

theorem IntAt.set {w : World} {B : Nat} {xs : List Int} (h : IntAt w B xs) (j : Nat) (x : Int) : IntAt (w.setCell ⟨B, j, none⟩ (.int .i64 x)) B (xs.set j x) := by
  have := heap_setCell_same w B j _ _ (.int .i64 x) h
  show (w.setCell ⟨B, j, none⟩ (.int .i64 x)).heap[B]? = _
  rw [this]
  simp [ints, List.map_set]

theorem IntAt.lt {w : World} {B : Nat} {xs : List Int} (h : IntAt w B xs) : B < w.heap.size := (Array.getElem?_eq_some_iff.1 h).1

theorem IntAt.own {w : World} {B : Nat} {xs : List Int} (h : IntAt w B xs) {base : Nat} (hb : base ≤ B) (hl : xs.length = 7) : w.ownsRow base 2 1 (.slice (some ⟨B, 0, none⟩) 7 7) 7 (ints xs) :=
  ⟨by simp [ints, hl], .inr ⟨B, 7, (ints xs).toArray, rfl, hb, h, by omega, by unfold maxLen; omega, by simp [ints, hl], by rw [List.toList_toArray, Nat.mul_one]; exact List.take_of_length_le (by simp [ints, hl])⟩⟩

theorem flow2_same (x : Nat) (hx : x < 6) : mkL unitL (factN x) (factN x) = unitL := by
  have hc : x = 0 ∨ x = 1 ∨ x = 2 ∨ x = 3 ∨ x = 4 ∨ x = 5 := by omega
  rcases hc with rfl | rfl | rfl | rfl | rfl | rfl <;> first | decide | kernel_rfl

theorem flow2_set (x y : Nat) (hx : x < 6) (hy : y < 6) (hn : ¬ x = y) : (unitL.set (x + 1) 0).set (y + 1) (bits .or .i64 ((unitL.set (x + 1) 0).getD (y + 1) 0) (2 * 2 ^ x)) = mkL unitL (factN x) (factN y) := by
  have hc : x = 0 ∨ x = 1 ∨ x = 2 ∨ x = 3 ∨ x = 4 ∨ x = 5 := by omega
  have hd : y = 0 ∨ y = 1 ∨ y = 2 ∨ y = 3 ∨ y = 4 ∨ y = 5 := by omega
  rcases hc with rfl | rfl | rfl | rfl | rfl | rfl <;> rcases hd with rfl | rfl | rfl | rfl | rfl | rfl <;> first | exact absurd rfl hn | decide

theorem wrap_bit (x : Nat) (hx : x < 6) : wrap64 (2 * 2 ^ x) = 2 * 2 ^ x := by
  unfold wrap64
  have hc : x = 0 ∨ x = 1 ∨ x = 2 ∨ x = 3 ∨ x = 4 ∨ x = 5 := by omega
  rcases hc with rfl | rfl | rfl | rfl | rfl | rfl <;> decide

theorem flow3_set (x y : Nat) (hx : x < 6) (hy : y < 6) : unitL.set (y + 1) (bits .or .i64 (unitL.getD (y + 1) 0) (2 * 2 ^ x)) = mkL unitL (factN x) (lor (factN x) (factN y)) := by
  have hc : x = 0 ∨ x = 1 ∨ x = 2 ∨ x = 3 ∨ x = 4 ∨ x = 5 := by omega
  have hd : y = 0 ∨ y = 1 ∨ y = 2 ∨ y = 3 ∨ y = 4 ∨ y = 5 := by omega
  rcases hc with rfl | rfl | rfl | rfl | rfl | rfl <;> rcases hd with rfl | rfl | rfl | rfl | rfl | rfl <;> decide

theorem flow4_set (x : Nat) (hx : x < 6) : unitL.set (x + 1) 0 = mkL unitL (factN x) 0 := by
  have hc : x = 0 ∨ x = 1 ∨ x = 2 ∨ x = 3 ∨ x = 4 ∨ x = 5 := by omega
  rcases hc with rfl | rfl | rfl | rfl | rfl | rfl <;> decide

theorem flow5_set (x : Nat) (hx : x < 6) : (unitL.set (x + 1) 0).set 0 (bits .or .i64 ((unitL.set (x + 1) 0).getD 0 0) (2 * 2 ^ x)) = mkL unitL (factN x) 1 := by
  have hc : x = 0 ∨ x = 1 ∨ x = 2 ∨ x = 3 ∨ x = 4 ∨ x = 5 := by omega
  rcases hc with rfl | rfl | rfl | rfl | rfl | rfl <;> decide

theorem stmtOk_x6 {k x y : Int} (h : stmtOk k x y = true) : ∃ i : Nat, x = i ∧ i < 6 := by
  have h1 : inB x 0 5 = true := by
    rcases kinds k with rfl | rfl | rfl | rfl | rfl | rfl | rfl | rfl | rfl | ⟨h1, h2, h3, h4, h5, h6, h7, h8, h9⟩
    all_goals simp [stmtOk, *] at h
    all_goals simp [inB] at h ⊢
    all_goals omega
  obtain ⟨i, rfl, hi⟩ := inB_nat h1
  exact ⟨i, rfl, by omega⟩

end Go.Proofs.YtldagpfeaabcdaaGreatDoor

/-
  Chapter 6, mathematics: to compose goes in any order of doing, the unit changes nothing, over what is joined it goes to each; images of sets together.
-/
namespace Go.Proofs.YtldagpfeaabcdaaGreatDoor
open Go.RowKit
set_option linter.unusedVariables false

theorem comp_get {xs ys : List Int} (hx : Smalls xs) {j : Nat} (hj : j < 7) : (comp xs ys).getD j 0 = img ys (xs.getD j 0) := by
  simp [comp, List.getD, hx.1, hj]

theorem joi_get {xs ys : List Int} (hx : Smalls xs) (hy : Smalls ys) {j : Nat} (hj : j < 7) : (joi xs ys).getD j 0 = lor (xs.getD j 0) (ys.getD j 0) := by
  simp [joi, List.getD, hx.1, hy.1, hj]

theorem smalls_of {xs : List Int} (hl : xs.length = 7) (h : ∀ j, j < 7 → Small (xs.getD j 0)) : Smalls xs := by
  refine ⟨hl, fun x hx => ?_⟩
  obtain ⟨j, hj, rfl⟩ := List.getElem_of_mem hx
  have := h j (by omega)
  simpa [List.getD, hj] using this

theorem comp_smalls {xs ys : List Int} (hx : Smalls xs) (hy : Smalls ys) : Smalls (comp xs ys) :=
  smalls_of (by simp [comp, hx.1]) (fun j hj => by rw [comp_get hx hj]; exact img_small hy _)

theorem joi_smalls {xs ys : List Int} (hx : Smalls xs) (hy : Smalls ys) : Smalls (joi xs ys) :=
  smalls_of (by simp [joi, hx.1, hy.1]) (fun j hj => by rw [joi_get hx hy hj]; exact lor_small (hx.getD j) (hy.getD j))

theorem unit_smalls : Smalls unitL := relOk_iff.1 (by decide)

theorem bit_eq {a b : Int} (ha : Small a) (hb : Small b) (h : ∀ t, t < 7 → (bit a t = true ↔ bit b t = true)) : a = b :=
  bit_ext ha hb (fun t ht => Bool.eq_iff_iff.2 (h t ht))

theorem unit_get {j : Nat} (hj : j < 7) (t : Nat) (ht : t < 7) : bit (unitL.getD j 0) t = true ↔ j = t := by
  have h : ∀ j, j < 7 → ∀ t, t < 7 → (bit (unitL.getD j 0) t = decide (j = t)) := by decide
  rw [h j hj t ht, decide_eq_true_eq]

theorem img_comp {xs ys : List Int} (hx : Smalls xs) (hy : Smalls ys) (s : Int) : img (comp xs ys) s = img ys (img xs s) := by
  have hc := comp_smalls hx hy
  refine bit_eq (img_small hc s) (img_small hy _) (fun t ht => ?_)
  rw [bit_img hc, bit_img hy]
  constructor
  · rintro ⟨i, hi, h1, h2⟩
    rw [comp_get hx hi, bit_img hy] at h2
    obtain ⟨k, hk, h3, h4⟩ := h2
    exact ⟨k, hk, (bit_img hx s k).2 ⟨i, hi, h1, h3⟩, h4⟩
  · rintro ⟨k, hk, h3, h4⟩
    obtain ⟨i, hi, h1, h2⟩ := (bit_img hx s k).1 h3
    exact ⟨i, hi, h1, by rw [comp_get hx hi, bit_img hy]; exact ⟨k, hk, h2, h4⟩⟩

theorem comp_assoc {xs ys zs : List Int} (hx : Smalls xs) (hy : Smalls ys) (hz : Smalls zs) : comp (comp xs ys) zs = comp xs (comp ys zs) := by
  have h1 := comp_smalls hx hy
  have h2 := comp_smalls hy hz
  refine list7 (comp_smalls h1 hz).1 (comp_smalls hx h2).1 (fun j hj => ?_)
  rw [comp_get h1 hj, comp_get hx hj, comp_get hx hj, img_comp hy hz]

theorem img_joi {xs ys : List Int} (hx : Smalls xs) (hy : Smalls ys) (s : Int) : img (joi xs ys) s = lor (img xs s) (img ys s) := by
  have hj := joi_smalls hx hy
  refine bit_eq (img_small hj s) (lor_small (img_small hx s) (img_small hy s)) (fun t ht => ?_)
  rw [bit_img hj, bit_lor (img_small hx s) (img_small hy s), Bool.or_eq_true, bit_img hx, bit_img hy]
  constructor
  · rintro ⟨i, hi, h1, h2⟩
    rw [joi_get hx hy hi, bit_lor (hx.getD i) (hy.getD i), Bool.or_eq_true] at h2
    rcases h2 with h | h
    · exact .inl ⟨i, hi, h1, h⟩
    · exact .inr ⟨i, hi, h1, h⟩
  · rintro (⟨i, hi, h1, h2⟩ | ⟨i, hi, h1, h2⟩)
    · exact ⟨i, hi, h1, by rw [joi_get hx hy hi, bit_lor (hx.getD i) (hy.getD i), Bool.or_eq_true]; exact .inl h2⟩
    · exact ⟨i, hi, h1, by rw [joi_get hx hy hi, bit_lor (hx.getD i) (hy.getD i), Bool.or_eq_true]; exact .inr h2⟩

theorem img_lor {rs : List Int} (hr : Smalls rs) {s t : Int} (hs : Small s) (ht : Small t) : img rs (lor s t) = lor (img rs s) (img rs t) := by
  refine bit_eq (img_small hr _) (lor_small (img_small hr s) (img_small hr t)) (fun k hk => ?_)
  rw [bit_img hr, bit_lor (img_small hr s) (img_small hr t), Bool.or_eq_true, bit_img hr, bit_img hr]
  constructor
  · rintro ⟨i, hi, h1, h2⟩
    rw [bit_lor hs ht, Bool.or_eq_true] at h1
    rcases h1 with h | h
    · exact .inl ⟨i, hi, h, h2⟩
    · exact .inr ⟨i, hi, h, h2⟩
  · rintro (⟨i, hi, h1, h2⟩ | ⟨i, hi, h1, h2⟩)
    · exact ⟨i, hi, by rw [bit_lor hs ht, h1, Bool.true_or], h2⟩
    · exact ⟨i, hi, by rw [bit_lor hs ht, h1, Bool.or_true], h2⟩

theorem img_zero {rs : List Int} (hr : Smalls rs) : img rs 0 = 0 := by
  refine bit_eq (img_small hr _) ⟨by omega, by omega⟩ (fun k hk => ?_)
  rw [bit_img hr]
  simp [bit_zero]

theorem img_unit {s : Int} (hs : Small s) : img unitL s = s := by
  refine bit_eq (img_small unit_smalls s) hs (fun t ht => ?_)
  rw [bit_img unit_smalls]
  constructor
  · rintro ⟨i, hi, h1, h2⟩
    rw [unit_get hi t ht] at h2
    rw [← h2]; exact h1
  · intro h
    exact ⟨t, ht, h, (unit_get ht t ht).2 rfl⟩

theorem comp_unit {xs : List Int} (hx : Smalls xs) : comp xs unitL = xs := by
  refine list7 (comp_smalls hx unit_smalls).1 hx.1 (fun j hj => ?_)
  rw [comp_get hx hj, img_unit (hx.getD j)]

theorem img_at {xs : List Int} (hx : Smalls xs) {j : Nat} (hj : j < 7) : img xs (unitL.getD j 0) = xs.getD j 0 := by
  refine bit_eq (img_small hx _) (hx.getD j) (fun t ht => ?_)
  rw [bit_img hx]
  constructor
  · rintro ⟨i, hi, h1, h2⟩
    rw [unit_get hj i hi] at h1
    rw [h1]; exact h2
  · intro h
    exact ⟨j, hj, (unit_get hj j hj).2 rfl, h⟩

theorem unit_comp {xs : List Int} (hx : Smalls xs) : comp unitL xs = xs := by
  refine list7 (comp_smalls unit_smalls hx).1 hx.1 (fun j hj => ?_)
  rw [comp_get unit_smalls hj, img_at hx hj]

theorem comp_joi {ds xs ys : List Int} (hd : Smalls ds) (hx : Smalls xs) (hy : Smalls ys) : comp ds (joi xs ys) = joi (comp ds xs) (comp ds ys) := by
  have h1 := joi_smalls hx hy
  have h2 := comp_smalls hd hx
  have h3 := comp_smalls hd hy
  refine list7 (comp_smalls hd h1).1 (joi_smalls h2 h3).1 (fun j hj => ?_)
  rw [comp_get hd hj, joi_get h2 h3 hj, comp_get hd hj, comp_get hd hj, img_joi hx hy]

theorem joi_comp {ds xs ys : List Int} (hd : Smalls ds) (hx : Smalls xs) (hy : Smalls ys) : comp (joi xs ys) ds = joi (comp xs ds) (comp ys ds) := by
  have h1 := joi_smalls hx hy
  have h2 := comp_smalls hx hd
  have h3 := comp_smalls hy hd
  refine list7 (comp_smalls h1 hd).1 (joi_smalls h2 h3).1 (fun j hj => ?_)
  rw [comp_get h1 hj, joi_get h2 h3 hj, comp_get hx hj, comp_get hy hj, joi_get hx hy hj, img_lor hd (hx.getD j) (hy.getD j)]

theorem lor_left {a b : Int} (ha : Small a) (hb : Small b) : lor a (lor a b) = lor a b :=
  bit_ext (lor_small ha (lor_small ha hb)) (lor_small ha hb) (fun t _ => by rw [bit_lor ha (lor_small ha hb), bit_lor ha hb]; cases bit a t <;> simp)

theorem lor_right {a b : Int} (ha : Small a) (hb : Small b) : lor b (lor a b) = lor a b :=
  bit_ext (lor_small hb (lor_small ha hb)) (lor_small ha hb) (fun t _ => by rw [bit_lor hb (lor_small ha hb), bit_lor ha hb]; cases bit a t <;> cases bit b t <;> simp)

theorem joi_left {xs ys : List Int} (hx : Smalls xs) (hy : Smalls ys) : joi xs (joi xs ys) = joi xs ys := by
  have h := joi_smalls hx hy
  refine list7 (joi_smalls hx h).1 h.1 (fun j hj => ?_)
  rw [joi_get hx h hj, joi_get hx hy hj, lor_left (hx.getD j) (hy.getD j)]

theorem joi_right {xs ys : List Int} (hx : Smalls xs) (hy : Smalls ys) : joi ys (joi xs ys) = joi xs ys := by
  have h := joi_smalls hx hy
  refine list7 (joi_smalls hy h).1 h.1 (fun j hj => ?_)
  rw [joi_get hy h hj, joi_get hx hy hj, lor_right (hx.getD j) (hy.getD j)]

end Go.Proofs.YtldagpfeaabcdaaGreatDoor

/-
  Chapter 7, mathematics: what a statement makes of a set, fact by fact.
-/
namespace Go.Proofs.YtldagpfeaabcdaaGreatDoor
open Go.RowKit
set_option linter.unusedVariables false
set_option maxHeartbeats 1000000

theorem bit_made : ∀ j, j < 7 → ∀ x, x < 6 → ∀ t, t < 7 → ∀ b : Bool,
    bit (if b = true then lor (cut (unitL.getD j 0) (factN x)) (factN x) else cut (unitL.getD j 0) (factN x)) t = if t = x + 1 then b else decide (j = t) := by
  decide +kernel

theorem small_made : ∀ j, j < 7 → ∀ x, x < 6 → ∀ b : Bool,
    (0 ≤ (if b = true then lor (cut (unitL.getD j 0) (factN x)) (factN x) else cut (unitL.getD j 0) (factN x))) ∧ (if b = true then lor (cut (unitL.getD j 0) (factN x)) (factN x) else cut (unitL.getD j 0) (factN x)) ≤ 127 := by
  decide +kernel

theorem mkL_smalls (x : Nat) (hx : x < 6) (m : Int) : Smalls (mkL unitL (factN x) m) := by
  refine smalls_of (mkL_length _ _ _) (fun j hj => ?_)
  rw [mkL_getD _ _ _ _ hj]
  exact small_made j hj x hx (bit m j)

theorem bit_mkL (x : Nat) (hx : x < 6) (m : Int) (j : Nat) (hj : j < 7) (t : Nat) (ht : t < 7) : bit ((mkL unitL (factN x) m).getD j 0) t = if t = x + 1 then bit m j else decide (j = t) := by
  rw [mkL_getD _ _ _ _ hj]
  exact bit_made j hj x hx t ht (bit m j)

/-- Other facts stay. -/
theorem img_other (x : Nat) (hx : x < 6) (m s : Int) (t : Nat) (ht : t < 7) (hn : ¬ t = x + 1) : bit (img (mkL unitL (factN x) m) s) t = bit s t := by
  rw [Bool.eq_iff_iff, bit_img (mkL_smalls x hx m)]
  constructor
  · rintro ⟨i, hi, h1, h2⟩
    rw [bit_mkL x hx m i hi t ht, if_neg hn] at h2
    obtain rfl : i = t := by simpa using h2
    exact h1
  · intro h
    exact ⟨t, ht, h, by rw [bit_mkL x hx m t ht t ht, if_neg hn]; simp⟩

/-- The fact of X is made by those of m. -/
theorem img_own (x : Nat) (hx : x < 6) (m s : Int) : bit (img (mkL unitL (factN x) m) s) (x + 1) = true ↔ ∃ i, i < 7 ∧ bit s i = true ∧ bit m i = true := by
  rw [bit_img (mkL_smalls x hx m)]
  constructor
  · rintro ⟨i, hi, h1, h2⟩
    rw [bit_mkL x hx m i hi (x + 1) (by omega), if_pos rfl] at h2
    exact ⟨i, hi, h1, h2⟩
  · rintro ⟨i, hi, h1, h2⟩
    exact ⟨i, hi, h1, by rw [bit_mkL x hx m i hi (x + 1) (by omega), if_pos rfl]; exact h2⟩

theorem bit_fact : ∀ y, y < 6 → ∀ i, i < 7 → bit (factN y) i = decide (i = y + 1) := by decide +kernel

theorem own_copy (x y : Nat) (hx : x < 6) (hy : y < 6) (s : Int) : bit (img (mkL unitL (factN x) (factN y)) s) (x + 1) = bit s (y + 1) := by
  rw [Bool.eq_iff_iff, img_own x hx]
  constructor
  · rintro ⟨i, hi, h1, h2⟩
    rw [bit_fact y hy i hi] at h2
    obtain rfl : i = y + 1 := by simpa using h2
    exact h1
  · intro h
    exact ⟨y + 1, by omega, h, by rw [bit_fact y hy _ (by omega)]; simp⟩

theorem own_both (x y : Nat) (hx : x < 6) (hy : y < 6) (s : Int) : bit (img (mkL unitL (factN x) (lor (factN x) (factN y))) s) (x + 1) = (bit s (x + 1) || bit s (y + 1)) := by
  rw [Bool.eq_iff_iff, img_own x hx, Bool.or_eq_true]
  constructor
  · rintro ⟨i, hi, h1, h2⟩
    rw [bit_lor (factN_small x hx) (factN_small y hy), Bool.or_eq_true, bit_fact x hx i hi, bit_fact y hy i hi] at h2
    rcases h2 with h2 | h2
    · obtain rfl : i = x + 1 := by simpa using h2
      exact .inl h1
    · obtain rfl : i = y + 1 := by simpa using h2
      exact .inr h1
  · rintro (h | h)
    · exact ⟨x + 1, by omega, h, by rw [bit_lor (factN_small x hx) (factN_small y hy), bit_fact x hx _ (by omega)]; simp⟩
    · exact ⟨y + 1, by omega, h, by rw [bit_lor (factN_small x hx) (factN_small y hy), bit_fact y hy _ (by omega)]; simp⟩

theorem own_clear (x : Nat) (hx : x < 6) (s : Int) : bit (img (mkL unitL (factN x) 0) s) (x + 1) = false := by
  rw [Bool.eq_false_iff]
  intro h
  obtain ⟨i, hi, h1, h2⟩ := (img_own x hx 0 s).1 h
  rw [bit_zero] at h2
  exact absurd h2 (by simp)

theorem own_mark (x : Nat) (hx : x < 6) (s : Int) (h0 : bit s 0 = true) : bit (img (mkL unitL (factN x) 1) s) (x + 1) = true :=
  (img_own x hx 1 s).2 ⟨0, by omega, h0, by decide⟩

theorem flowL_smalls {c k x y : Int} (h : stmtOk k x y = true) : Smalls (flowL c k x y) := by
  obtain ⟨i, rfl, hi⟩ := stmtOk_x6 h
  unfold flowL
  split
  · exact mkL_smalls i hi _
  split
  · exact mkL_smalls i hi _
  split
  · exact mkL_smalls i hi _
  split
  · exact mkL_smalls i hi _
  exact unit_smalls

end Go.Proofs.YtldagpfeaabcdaaGreatDoor

/-
  Chapter 4: what may come next: impl.nextsOf, spec.l4Next, and who asks: l4In, hasStmt.
-/
namespace Go.Proofs.YtldagpfeaabcdaaGreatDoor
open Go.RowKit
set_option linter.unusedVariables false
set_option maxHeartbeats 1000000

/-- What may come behind a statement that lies at i. -/
def nextsS (s : Stm) (i : Int) : List Int :=
  if s.k = 9 then []
  else if s.k = 7 then (if s.y ≤ i then [s.y, i + 1] else if i + 1 < s.y then [i + 1, s.y] else [i + 1])
  else [i + 1]

theorem nextsS_length (s : Stm) (i : Int) : (nextsS s i).length ≤ 2 := by
  unfold nextsS
  repeat' split
  all_goals simp

theorem made1 (w : World) (a : Int) : (w.alloc (.cells #[.int .i64 a] 2)).ownsRow w.heap.size 2 1 (.slice (some ⟨w.heap.size, 0, none⟩) 1 1) 1 [.int .i64 a] :=
  World.ownsRow_lit w #[.int .i64 a] 1 (size := 1) (Nat.le_refl _) (by decide) (by simp)

theorem made2 (w : World) (a b : Int) : (w.alloc (.cells #[.int .i64 a, .int .i64 b] 2)).ownsRow w.heap.size 2 1 (.slice (some ⟨w.heap.size, 0, none⟩) 2 2) 2 [.int .i64 a, .int .i64 b] :=
  World.ownsRow_lit w #[.int .i64 a, .int .i64 b] 2 (size := 1) (Nat.le_refl _) (by decide) (by simp)

theorem made1_at {w : World} {n base : Nat} (hn : w.heap.size = n) (hb : base ≤ n) (a : Int) : (w.alloc (.cells #[.int .i64 a] 2)).ownsRow base 2 1 (.slice (some ⟨n, 0, none⟩) 1 1) 1 [.int .i64 a] := by
  subst hn
  exact own_mono (made1 w a) hb

theorem made2_at {w : World} {n base : Nat} (hn : w.heap.size = n) (hb : base ≤ n) (a b : Int) : (w.alloc (.cells #[.int .i64 a, .int .i64 b] 2)).ownsRow base 2 1 (.slice (some ⟨n, 0, none⟩) 2 2) 2 [.int .i64 a, .int .i64 b] := by
  subst hn
  exact own_mono (made2 w a b) hb

theorem nil_own (w : World) (base : Nat) : w.ownsRow base 2 1 (.slice none 0 0) 0 [] := ⟨by simp, .inl ⟨rfl, rfl⟩⟩

theorem nextsOf (ss : List Stm) (i : Nat) (v : Value) (w : World) (hi : i < ss.length) (hl : ss.length ≤ 12) (hv : Reads3 w v ss) :
    Calls Tryz.prog 98 #[.agg #[v], .int .i64 i] w fun e w' => ∃ u, e = .returned u ∧ w'.ownsRow w.heap.size 2 1 u (nextsS ss[i] i).length (ints (nextsS ss[i] i)) ∧ Below w.heap.size w w' := by
  obtain ⟨ao, cap, rfl, hc⟩ := hv
  obtain ⟨g, off, rfl, p0, p1, p2⟩ := hc i ss[i] (by simp [hi])
  have pB := World.block_lt_of_cell? w _ p0
  have hi' : (i : Int) < (ss.length : Int) := by omega
  have hl' : (ss.length : Int) ≤ 12 := by omega
  clear hc
  generalize ss[i] = s at *
  obtain ⟨sk, sx, sy⟩ := s
  simp only at p0 p1 p2
  unfold nextsS
  simp only
  by_cases h9 : sk = 9
  · subst h9
    simp only [if_true]
    go_enter Tryz.func98, Tryz.ntmps98
    go_wp2
    go_ret
    exact ⟨_, rfl, nil_own _ _, by go_grown⟩
  have h9' : (sk == 9) = false := by simpa using h9
  rw [if_neg h9]
  by_cases h7 : sk = 7
  · subst h7
    rw [if_pos rfl]
    clear h9 h9'
    by_cases hy : sy ≤ i
    · rw [if_pos hy]
      go_enter Tryz.func98, Tryz.ntmps98
      go_wp2
      go_ret
      exact ⟨.slice (some ⟨w.heap.size + 1 + 1, 0, none⟩) 2 2, rfl, made2_at (by simp) (by omega) _ _, by go_grown⟩
    rw [if_neg hy]
    by_cases hy2 : (i : Int) + 1 < sy
    · rw [if_pos hy2]
      go_enter Tryz.func98, Tryz.ntmps98
      go_wp2
      go_ret
      exact ⟨.slice (some ⟨w.heap.size + 1 + 1, 0, none⟩) 2 2, rfl, made2_at (by simp) (by omega) _ _, by go_grown⟩
    · rw [if_neg hy2]
      go_enter Tryz.func98, Tryz.ntmps98
      go_wp2
      go_ret
      exact ⟨.slice (some ⟨w.heap.size + 1 + 1, 0, none⟩) 1 1, rfl, made1_at (by simp) (by omega) _, by go_grown⟩
  · have h7' : (sk == 7) = false := by simpa using h7
    rw [if_neg h7]
    go_enter Tryz.func98, Tryz.ntmps98
    go_wp2
    go_ret
    exact ⟨.slice (some ⟨w.heap.size + 1 + 1, 0, none⟩) 1 1, rfl, made1_at (by simp) (by omega) _, by go_grown⟩

theorem procOk_parts {ss : List Stm} (h : procOk ss = true) : 1 ≤ ss.length ∧ ss.length ≤ 12 ∧ (∀ (i : Nat) (hi : i < ss.length), stmOk ss.length ss[i] = true ∧ (ss[i].k ≠ 9 → i + 1 < ss.length)) := by
  unfold procOk at h
  simp only [Bool.and_eq_true, decide_eq_true_eq] at h
  obtain ⟨⟨⟨h1, h2⟩, h3⟩, h4⟩ := h
  refine ⟨h1, h2, fun i hi => ⟨List.all_eq_true.1 h4 _ (List.getElem_mem hi), fun h9 => ?_⟩⟩
  rcases Nat.lt_or_ge (i + 1) ss.length with h | h
  · exact h
  · have : i = ss.length - 1 := by omega
    subst this
    simp [hi, h9] at h3

theorem stmOk_jump {n : Nat} {s : Stm} (h : stmOk n s = true) (h7 : s.k = 7) : 0 ≤ s.y ∧ s.y < n := by
  unfold stmOk at h
  simp only [Bool.and_eq_true] at h
  obtain ⟨h1, h2⟩ := h
  rw [h7] at h1
  refine ⟨stmtOk_jump h1, ?_⟩
  simpa [h7] using h2

/-- What may come next lies within. -/
theorem nextsS_in {ss : List Stm} (h : procOk ss = true) {i : Nat} (hi : i < ss.length) : ∀ x ∈ nextsS ss[i] i, ∃ j : Nat, x = (j : Int) ∧ j < ss.length := by
  obtain ⟨_, _, h3⟩ := procOk_parts h
  obtain ⟨h4, h5⟩ := h3 i hi
  intro x hx
  unfold nextsS at hx
  by_cases h9 : ss[i].k = 9
  · simp [h9] at hx
  rw [if_neg h9] at hx
  have hn : ∃ j : Nat, ((i : Int) + 1) = (j : Int) ∧ j < ss.length := ⟨i + 1, by omega, h5 h9⟩
  by_cases h7 : ss[i].k = 7
  · rw [if_pos h7] at hx
    obtain ⟨y0, y1⟩ := stmOk_jump h4 h7
    have hy : ∃ j : Nat, ss[i].y = (j : Int) ∧ j < ss.length := ⟨ss[i].y.toNat, by omega, by omega⟩
    split at hx
    · simp at hx; rcases hx with rfl | rfl <;> assumption
    · split at hx
      · simp at hx; rcases hx with rfl | rfl <;> assumption
      · simp at hx; subst hx; assumption
  · rw [if_neg h7] at hx
    simp at hx; subst hx; assumption

theorem ins_len1 (n : Int) : (ins n []).length ≤ 1 := by simp [ins]

theorem three_cells' {w : World} {b : Nat} {x0 x1 x2 : Value} {T : TypeId} (h : w.heap[b]? = some (.cells #[x0, x1, x2] T (0, 0))) :
    w.cell? ⟨b, 0, none⟩ = some x0 ∧ w.cell? ⟨b, 1, none⟩ = some x1 ∧ w.cell? ⟨b, 2, none⟩ = some x2 ∧
      w.frozen? ⟨b, 0, none⟩ = false ∧ w.frozen? ⟨b, 1, none⟩ = false ∧ w.frozen? ⟨b, 2, none⟩ = false := by
  refine ⟨?_, ?_, ?_, ?_, ?_, ?_⟩ <;> simp [World.cell?, World.frozen?, h]


/-- Is there such a statement? -/
def hasS (ss : List Stm) (i : Int) : Bool := procOk ss && wiB i ss.length

theorem hasS_true {ss : List Stm} {i : Int} (h : hasS ss i = true) : procOk ss = true ∧ ∃ j : Nat, i = (j : Int) ∧ j < ss.length := by
  unfold hasS wiB at h
  simp only [Bool.and_eq_true, decide_eq_true_eq] at h
  obtain ⟨h1, h2, h3⟩ := h
  exact ⟨h1, i.toNat, by omega, by omega⟩



end Go.Proofs.YtldagpfeaabcdaaGreatDoor
