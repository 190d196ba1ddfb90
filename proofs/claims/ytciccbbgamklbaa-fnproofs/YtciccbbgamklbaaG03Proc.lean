/-
  Put together out of: FlowImpl, SpecFlow, RelMath, FlowsMath, Proc.
-/
import Derived.Test.YtciccbbgamklbaaFlowRel
import Derived.BigRegion
import Derived.Test.YtciccbbgamklbaaG01FlowTop
import Derived.Test.YtciccbbgamklbaaG00RelA
/-
  Chapter 7, the program's side: Flow.
-/
namespace Go.Proofs.Ytciccbbgamklbaa
open Go.RowKit
set_option linter.unusedVariables false
set_option maxHeartbeats 2000000
set_option maxRecDepth 4000

theorem relationOfElse (k x y : Int) (h2 : ¬ k = 2) (h3 : ¬ k = 3) (h4 : ¬ k = 4) (h5 : ¬ k = 5) (m : Nat) (w : World) :
    Calls Try.prog 41 #[flowsV m, .agg #[.int .i64 k, .int .i64 x, .int .i64 y]] w fun e w' => e = .returned (relV unitL) ∧ Below w.heap.size w w' := by
  have hun := fun W => implUnit W
  obtain ⟨us, hus⟩ : ∃ us, unitL = us := ⟨_, rfl⟩
  have hu7 : us.length = 7 := by rw [← hus]; rfl
  rw [hus] at hun ⊢
  clear hus
  unfold flowsV
  go_enter Try.func41, Try.ntmps41
  go_wp2_with fail
  go_at_call 65
  refine (hun _).mono ?_
  rintro e w1 ⟨a, rfl, oa, b1⟩
  clear hun
  obtain ⟨g, off, cap, rfl, hrg⟩ := reads_range (reads_own oa) hu7
  have HG : Hid (w1.rangeAt g off (ints us)) := hrg
  clear hrg oa
  have hst := fresh_there w1
  have HT : Hid _ := hst
  clear hst
  obtain ⟨bF, bS, bR, L1, hU1⟩ := three_blocks b1
  clear b1
  have hpre : ∀ (B : Nat) (o : Obj), B < w1.heap.size → w1.heap[B]? = some o → ((fresh7 w1).setCells w1.heap.size 0 (ints us)).heap[B]? = some o := fun B o hB h => by
    refine ((grown_setCells7 _ _ _ _).block _ (by simp; omega) (by simp; omega)).trans ?_
    rw [old_block hB]
    exact h
  have bU : RelAt ((fresh7 w1).setCells w1.heap.size 0 (ints us)) w1.heap.size us := fresh_rel w1 us hu7
  have L2 : Below w.heap.size w ((fresh7 w1).setCells w1.heap.size 0 (ints us)) := fresh_below L1 (by omega) _
  have bS := hpre _ _ (by omega) bS
  have bR : RelAt ((fresh7 w1).setCells w1.heap.size 0 (ints us)) (w.heap.size + 1 + 1) (List.replicate 7 0) := hpre _ _ (by omega) bR
  have HBU : Hid _ := bU.range
  have ht : ((fresh7 w1).setCells w1.heap.size 0 (ints us)).there (w.heap.size + 1 + 1) 0 7 := by simpa using bR.there
  have HBR : Hid _ := ht
  have hk0 : ((fresh7 w1).setCells w1.heap.size 0 (ints us)).cell? ⟨w.heap.size + 1, 0, none⟩ = some (.int .i64 k) := by rw [cell_of_row _ _ 0 _ _ (0, 0) bS]; rfl
  clear hpre bF bS bR bU L1 ht
  go_wp2_with (first
    | refine wpList_arrayAt rfl (.tmp 6) rfl g off cap rfl ?_
    | refine wpList_loadRel rfl (.tmp 7) rfl g off us rfl hu7 HG.out ?_
    | refine wpList_loadRel rfl (.tmp 5) rfl w1.heap.size 0 us rfl hu7 HBU.out ?_
    | refine wpList_storeRel rfl rfl (.tmp 5) (.tmp 8) rfl w1.heap.size 0 us rfl rfl hu7 HT.out ?_
    | refine wpList_storeRel rfl rfl (.tmp 4) (.tmp 51) rfl (w.heap.size + 1 + 1) 0 us rfl rfl hu7 HBR.out ?_)
  refine bodyPost_cellR rfl (w.heap.size + 1 + 1) 0 (ints us) _ rfl (World.rangeAt_setCells_same _ _ _ _ (by rw [ints_length, hu7]; exact HBR.out)) relUnd rfl (by rw [relInfo]; simp [ints, hu7]) rfl ⟨rfl, ?_⟩
  exact L2.grown (grown_setCells7 _ _ _ _) (by have := L2.size; omega) (fun k hk => by simp at hk; omega)

/-- What a statement does. -/
def flowL (c k x y : Int) : List Int :=
  if k = 2 then mkL unitL (factN x.toNat) (factN y.toNat)
  else if k = 3 then mkL unitL (factN x.toNat) (lor (factN x.toNat) (factN y.toNat))
  else if k = 4 then mkL unitL (factN x.toNat) 0
  else if k = 5 then mkL unitL (factN x.toNat) (if c = 1 then 1 else 0)
  else unitL

def flowAns (c k x y : Int) : List Int := if (c = 1 ∨ c = 2) ∧ stmtOk k x y = true then flowL c k x y else []

theorem flowL_length (c k x y : Int) : (flowL c k x y).length = 7 := by
  unfold flowL
  split
  · exact mkL_length _ _ _
  split
  · exact mkL_length _ _ _
  split
  · exact mkL_length _ _ _
  split
  · exact mkL_length _ _ _
  rfl

theorem inB_nat {x n : Int} (h : inB x 0 n = true) : ∃ i : Nat, x = i ∧ (i : Int) ≤ n := by
  simp [inB] at h
  exact ⟨x.toNat, by omega, by omega⟩

theorem stmtOk_xy {k x y : Int} (h : stmtOk k x y = true) (hk : k = 2 ∨ k = 3) : ∃ i j : Nat, x = i ∧ y = j ∧ i < 6 ∧ j < 6 := by
  have h1 : inB x 0 5 = true ∧ inB y 0 5 = true := by
    rcases hk with rfl | rfl <;> simpa [stmtOk] using h
  obtain ⟨i, rfl, hi⟩ := inB_nat h1.1
  obtain ⟨j, rfl, hj⟩ := inB_nat h1.2
  exact ⟨i, j, rfl, rfl, by omega, by omega⟩

theorem stmtOk_x {k x y : Int} (h : stmtOk k x y = true) (hk : k = 4 ∨ k = 5) : ∃ i : Nat, x = i ∧ i < 6 := by
  have h1 : inB x 0 5 = true ∧ inB y 0 0 = true := by
    rcases hk with rfl | rfl <;> simpa [stmtOk] using h
  obtain ⟨i, rfl, hi⟩ := inB_nat h1.1
  exact ⟨i, rfl, by omega⟩

/-- A client's function for a mark. -/
def markFn (c : Int) : Nat := if c = 1 then 73 else 72

theorem relationOf (c k x y : Int) (hc : c = 1 ∨ c = 2) (h : stmtOk k x y = true) (w : World) :
    Calls Try.prog 41 #[flowsV (markFn c), .agg #[.int .i64 k, .int .i64 x, .int .i64 y]] w fun e w' => e = .returned (relV (flowL c k x y)) ∧ Below w.heap.size w w' := by
  by_cases h2 : k = 2
  · subst h2
    obtain ⟨i, j, rfl, rfl, hi, hj⟩ := stmtOk_xy h (.inl rfl)
    exact relationOf2 i j hi hj _ w
  · by_cases h3 : k = 3
    · subst h3
      obtain ⟨i, j, rfl, rfl, hi, hj⟩ := stmtOk_xy h (.inr rfl)
      exact relationOf3 i j hi hj _ w
    · by_cases h4 : k = 4
      · subst h4
        obtain ⟨i, rfl, hi⟩ := stmtOk_x h (.inl rfl)
        exact relationOf4 i y hi _ w
      · by_cases h5 : k = 5
        · subst h5
          obtain ⟨i, rfl, hi⟩ := stmtOk_x h (.inr rfl)
          rcases hc with rfl | rfl
          · exact relationOf5a i y hi w
          · exact relationOf5b i y hi w
        · have e : flowL c k x y = unitL := by simp [flowL, h2, h3, h4, h5]
          rw [e]
          exact relationOfElse k x y h2 h3 h4 h5 _ w

theorem flowsOf (c : Int) (hc : c = 1 ∨ c = 2) (w : World) : Calls Try.prog 52 #[.int .i64 c] w fun e w' => e = .returned (.tuple #[flowsV (markFn c), .bool true]) ∧ Below w.heap.size w w' := by
  rcases hc with rfl | rfl
  · exact flowsOf1 w
  · exact flowsOf2 w

theorem stmt_cells {W : World} {B : Nat} {k x y : Int} {t : TypeId} (q : W.heap[B]? = some (.cells #[.int .i64 k, .int .i64 x, .int .i64 y] t (0, 0))) :
    W.cell? ⟨B, 0, none⟩ = some (.int .i64 k) ∧ W.cell? ⟨B, 1, none⟩ = some (.int .i64 x) ∧ W.cell? ⟨B, 2, none⟩ = some (.int .i64 y) :=
  ⟨by rw [cell_of_row _ _ 0 _ _ (0, 0) q]; rfl, by rw [cell_of_row _ _ 1 _ _ (0, 0) q]; rfl, by rw [cell_of_row _ _ 2 _ _ (0, 0) q]; rfl⟩

theorem four_cells {W : World} {B : Nat} {v0 v1 v2 v3 : Value} {t : TypeId} (q : W.heap[B]? = some (.cells #[v0, v1, v2, v3] t (0, 0))) :
    W.cell? ⟨B, 0, none⟩ = some v0 ∧ W.cell? ⟨B, 1, none⟩ = some v1 ∧ W.cell? ⟨B, 2, none⟩ = some v2 ∧ W.cell? ⟨B, 3, none⟩ = some v3 :=
  ⟨by rw [cell_of_row _ _ 0 _ _ (0, 0) q]; rfl, by rw [cell_of_row _ _ 1 _ _ (0, 0) q]; rfl, by rw [cell_of_row _ _ 2 _ _ (0, 0) q]; rfl, by rw [cell_of_row _ _ 3 _ _ (0, 0) q]; rfl⟩

theorem flow_pre {w w1 : World} {o : Obj} (b1 : Below (w.alloc o).heap.size (w.alloc o) w1) : Below w.heap.size w w1 ∧ w1.heap[w.heap.size]? = some o := by
  have a1 : Below w.heap.size w (w.alloc o) := (Below.refl _ _).alloc (Nat.le_refl _) o
  exact ⟨a1.trans (b1.mono a1.size), (b1.block _ (by simp)).trans (heap_alloc_new w _)⟩

end Go.Proofs.Ytciccbbgamklbaa

/-
  Chapter 7, the specification's side: Start, Leave, Keep, Enter, Flow.
-/
namespace Go.Proofs.Ytciccbbgamklbaa
open Go.RowKit
set_option linter.unusedVariables false
set_option maxHeartbeats 2000000
set_option maxRecDepth 4000

theorem specStart (c : Int) (w : World) : Calls Try.prog 62 #[.int .i64 c] w fun e w' => e = .returned (.int .i64 (startAns c)) ∧ Below w.heap.size w w' := by
  by_cases h1 : c = 1
  · subst h1
    go_enter Try.func62, Try.ntmps62
    go_wp2
    go_ret
    exact ⟨rfl, Below.refl _ _⟩
  · by_cases h2 : c = 2
    · subst h2
      go_enter Try.func62, Try.ntmps62
      go_wp2
      go_ret
      exact ⟨rfl, Below.refl _ _⟩
    · go_enter Try.func62, Try.ntmps62
      go_wp2
      go_ret
      exact ⟨by simp [startAns, h1, h2], Below.refl _ _⟩

/-- The block B holds these seven numbers. -/
abbrev IntAt (w : World) (B : Nat) (xs : List Int) : Prop := w.heap[B]? = some (.cells (ints xs).toArray 2 (0, 0))

theorem IntAt.cell {w : World} {B : Nat} {xs : List Int} (h : IntAt w B xs) (j : Nat) (hj : j < xs.length) : w.cell? ⟨B, j, none⟩ = some (.int .i64 (xs.getD j 0)) ∧ w.frozen? ⟨B, j, none⟩ = false := by
  refine ⟨?_, frozen_of_row w B j _ _ h⟩
  rw [cell_of_row w B j _ _ (0, 0) h]
  simp [ints, List.getD, hj]

theorem IntAt.set {w : World} {B : Nat} {xs : List Int} (h : IntAt w B xs) (j : Nat) (x : Int) : IntAt (w.setCell ⟨B, j, none⟩ (.int .i64 x)) B (xs.set j x) := by
  have := heap_setCell_same w B j _ _ (.int .i64 x) h
  show (w.setCell ⟨B, j, none⟩ (.int .i64 x)).heap[B]? = _
  rw [this]
  simp [ints, List.map_set]

theorem IntAt.lt {w : World} {B : Nat} {xs : List Int} (h : IntAt w B xs) : B < w.heap.size := (Array.getElem?_eq_some_iff.1 h).1

theorem IntAt.own {w : World} {B : Nat} {xs : List Int} (h : IntAt w B xs) {base : Nat} (hb : base ≤ B) (hl : xs.length = 7) : w.ownsRow base 2 1 (.slice (some ⟨B, 0, none⟩) 7 7) 7 (ints xs) :=
  ⟨by simp [ints, hl], .inr ⟨B, 7, (ints xs).toArray, rfl, hb, h, by omega, by unfold maxLen; omega, by simp [ints, hl], by rw [List.toList_toArray, Nat.mul_one]; exact List.take_of_length_le (by simp [ints, hl])⟩⟩

theorem specUnitAt (w : World) : Calls Try.prog 47 #[] w fun e w' => e = .returned (.slice (some ⟨w.heap.size, 0, none⟩) 7 7) ∧ IntAt w' w.heap.size unitL ∧ Below w.heap.size w w' := by
  go_enter Try.func47, Try.ntmps47
  go_wp2
  go_ret
  exact ⟨rfl, heap_alloc_new w _, by go_grown⟩

theorem l7Client (c : Int) (w : World) : Calls Try.prog 23 #[.int .i64 c] w fun e w' => e = .returned (.bool (decide (c = 1 ∨ c = 2))) ∧ w = w' := by
  have h : inB c 1 2 = decide (c = 1 ∨ c = 2) := by
    rw [Bool.eq_iff_iff]; simp [inB]; omega
  rw [← h]
  clear h
  go_enter Try.func23, Try.ntmps23
  go_wp2_with (go_at_call 24; refine (l1In _ _ _ _).mono ?_; rintro e w' ⟨rfl, rfl⟩)
  go_ret
  exact ⟨rfl, rfl⟩

theorem l7Without (x : Nat) (hx : x < 6) (w : World) : Calls Try.prog 48 #[.int .i64 (x : Int)] w fun e w' => e = .returned (.slice (some ⟨w.heap.size, 0, none⟩) 7 7) ∧ IntAt w' w.heap.size (unitL.set (x + 1) 0) ∧ Below w.heap.size w w' := by
  have hun := fun W => specUnitAt W
  generalize hus : unitL = us at *
  have hu7 : us.length = 7 := by rw [← hus]; rfl
  clear hus
  have hx' : (x : Int) + 1 < 7 := by omega
  go_enter Try.func48, Try.ntmps48
  go_wp2_with fail
  go_at_call 47
  refine (hun _).mono ?_
  rintro e w1 ⟨rfl, i1, b1⟩
  obtain ⟨c0, f0⟩ := i1.cell (x + 1) (by omega)
  have H1 : Hid (IntAt w1 w.heap.size us) := i1
  clear i1 hun
  go_wp2
  go_ret
  exact ⟨rfl, by simpa using H1.out.set (x + 1) 0, b1.setCell (Nat.le_refl _) _⟩

theorem flow2_same (x : Nat) (hx : x < 6) : mkL unitL (factN x) (factN x) = unitL := by
  have hc : x = 0 ∨ x = 1 ∨ x = 2 ∨ x = 3 ∨ x = 4 ∨ x = 5 := by omega
  rcases hc with rfl | rfl | rfl | rfl | rfl | rfl <;> first | decide | kernel_rfl

theorem flow2_set (x y : Nat) (hx : x < 6) (hy : y < 6) (hn : ¬ x = y) : (unitL.set (x + 1) 0).set (y + 1) (bits .or .i64 ((unitL.set (x + 1) 0).getD (y + 1) 0) (2 * 2 ^ x)) = mkL unitL (factN x) (factN y) := by
  have hc : x = 0 ∨ x = 1 ∨ x = 2 ∨ x = 3 ∨ x = 4 ∨ x = 5 := by omega
  have hd : y = 0 ∨ y = 1 ∨ y = 2 ∨ y = 3 ∨ y = 4 ∨ y = 5 := by omega
  rcases hc with rfl | rfl | rfl | rfl | rfl | rfl <;> rcases hd with rfl | rfl | rfl | rfl | rfl | rfl <;> first | exact absurd rfl hn | decide

theorem wrap_bit (x : Nat) (hx : x < 6) : wrap64 (2 * 2 ^ x) = 2 * 2 ^ x := by
  unfold wrap64
  have hc : x = 0 ∨ x = 1 ∨ x = 2 ∨ x = 3 ∨ x = 4 ∨ x = 5 := by omega
  rcases hc with rfl | rfl | rfl | rfl | rfl | rfl <;> decide

theorem l7Flow2 (c : Int) (x y : Nat) (hx : x < 6) (hy : y < 6) (w : World) :
    Calls Try.prog 27 #[.int .i64 c, .agg #[.int .i64 2, .int .i64 (x : Int), .int .i64 (y : Int)]] w fun e w' => ∃ B, e = .returned (.slice (some ⟨B, 0, none⟩) 7 7) ∧ w.heap.size ≤ B ∧ IntAt w' B (mkL unitL (factN x) (factN y)) ∧ Below w.heap.size w w' := by
  have hun := fun W => specUnitAt W
  have hwi := fun W => l7Without x hx W
  have hwr := wrap_bit x hx
  have hy1 : IntKind.i64.wrap ((y : Int) + 1) = (y : Int) + 1 := IntWalk.i64_in _ (by omega)
  have hy2 : (0 : Int) ≤ (y : Int) + 1 := by omega
  have hy3 : ((y : Int) + 1).toNat = y + 1 := by omega
  have hy' : (y : Int) + 1 < 7 := by omega
  go_enter Try.func27, Try.ntmps27
  go_wp2_with fail
  go_at_call 47
  refine (hun _).mono ?_
  rintro e w1 ⟨rfl, i1, b1⟩
  obtain ⟨L1, q1⟩ := flow_pre b1
  obtain ⟨g0, g1, g2⟩ := stmt_cells q1
  have hlt : w.heap.size < w1.heap.size := (Array.getElem?_eq_some_iff.1 q1).1
  have Q1 : Hid _ := q1
  clear q1 b1 hun
  by_cases hxy : (x : Int) = (y : Int)
  · have e := flow2_same x hx
    obtain rfl : x = y := by omega
    rw [← e] at i1
    have I1 : Hid _ := i1
    clear e i1
    go_wp2
    go_ret
    exact ⟨_, rfl, by simp, by simpa using I1.out, L1⟩
  · have hzs := flow2_set x y hx hy (fun e => hxy (by omega))
    have h7 : (unitL.set (x + 1) 0).length = 7 := by simp [unitL]
    generalize unitL.set (x + 1) 0 = vs at *
    have HZ : Hid _ := hzs
    clear hzs i1
    go_wp2_with fail
    go_at_call 48
    refine (hwi _).mono ?_
    rintro e w2 ⟨rfl, i2, b2⟩
    obtain ⟨k0, k1, k2⟩ := stmt_cells ((b2.block _ hlt).trans Q1.out)
    obtain ⟨c0, f0⟩ := i2.cell (y + 1) (by omega)
    have I2 : Hid (IntAt w2 w1.heap.size vs) := i2
    have L2 := L1.trans (b2.mono L1.size)
    clear g0 g1 g2 i2 hwi b2 Q1
    go_wp2_with fail
    go_region
    go_wp2
    go_ret
    exact ⟨w1.heap.size, rfl, by omega, by rw [← HZ.out]; exact I2.out.set (y + 1) _, Below.drew (Below.setCell L2 (by show w.heap.size ≤ w1.heap.size; omega) _)⟩

theorem flow3_set (x y : Nat) (hx : x < 6) (hy : y < 6) : unitL.set (y + 1) (bits .or .i64 (unitL.getD (y + 1) 0) (2 * 2 ^ x)) = mkL unitL (factN x) (lor (factN x) (factN y)) := by
  have hc : x = 0 ∨ x = 1 ∨ x = 2 ∨ x = 3 ∨ x = 4 ∨ x = 5 := by omega
  have hd : y = 0 ∨ y = 1 ∨ y = 2 ∨ y = 3 ∨ y = 4 ∨ y = 5 := by omega
  rcases hc with rfl | rfl | rfl | rfl | rfl | rfl <;> rcases hd with rfl | rfl | rfl | rfl | rfl | rfl <;> decide

theorem l7Flow3 (c : Int) (x y : Nat) (hx : x < 6) (hy : y < 6) (w : World) :
    Calls Try.prog 27 #[.int .i64 c, .agg #[.int .i64 3, .int .i64 (x : Int), .int .i64 (y : Int)]] w fun e w' => ∃ B, e = .returned (.slice (some ⟨B, 0, none⟩) 7 7) ∧ w.heap.size ≤ B ∧ IntAt w' B (mkL unitL (factN x) (lor (factN x) (factN y))) ∧ Below w.heap.size w w' := by
  have hun := fun W => specUnitAt W
  have hwr := wrap_bit x hx
  have hy1 : IntKind.i64.wrap ((y : Int) + 1) = (y : Int) + 1 := IntWalk.i64_in _ (by omega)
  have hy2 : (0 : Int) ≤ (y : Int) + 1 := by omega
  have hy3 : ((y : Int) + 1).toNat = y + 1 := by omega
  have hy' : (y : Int) + 1 < 7 := by omega
  have hzs := flow3_set x y hx hy
  obtain ⟨us, hus⟩ : ∃ us, us = unitL := ⟨_, rfl⟩
  have HZ : Hid (us.set (y + 1) (bits .or .i64 (us.getD (y + 1) 0) (2 * 2 ^ x)) = mkL unitL (factN x) (lor (factN x) (factN y))) := by rw [hus]; exact hzs
  have h7 : us.length = 7 := by rw [hus]; rfl
  rw [← hus] at hun
  clear hzs hus
  go_enter Try.func27, Try.ntmps27
  go_wp2_with fail
  go_at_call 47
  refine (hun _).mono ?_
  rintro e w1 ⟨rfl, i1, b1⟩
  obtain ⟨L1, q1⟩ := flow_pre b1
  obtain ⟨g0, g1, g2⟩ := stmt_cells q1
  have hlt : w.heap.size < w1.heap.size := (Array.getElem?_eq_some_iff.1 q1).1
  clear q1 b1 hun
  obtain ⟨c0, f0⟩ := i1.cell (y + 1) (by omega)
  have I1 : Hid _ := i1
  simp only [World.size_alloc] at c0 f0
  clear i1
  go_wp2_with fail
  go_region
  go_wp2
  go_ret
  exact ⟨w.heap.size + 1, rfl, by omega, by rw [← HZ.out]; exact IntAt.set (by simpa using I1.out) (y + 1) _, Below.drew (Below.setCell L1 (by show w.heap.size ≤ w.heap.size + 1; omega) _)⟩

theorem flow4_set (x : Nat) (hx : x < 6) : unitL.set (x + 1) 0 = mkL unitL (factN x) 0 := by
  have hc : x = 0 ∨ x = 1 ∨ x = 2 ∨ x = 3 ∨ x = 4 ∨ x = 5 := by omega
  rcases hc with rfl | rfl | rfl | rfl | rfl | rfl <;> decide

theorem flow5_set (x : Nat) (hx : x < 6) : (unitL.set (x + 1) 0).set 0 (bits .or .i64 ((unitL.set (x + 1) 0).getD 0 0) (2 * 2 ^ x)) = mkL unitL (factN x) 1 := by
  have hc : x = 0 ∨ x = 1 ∨ x = 2 ∨ x = 3 ∨ x = 4 ∨ x = 5 := by omega
  rcases hc with rfl | rfl | rfl | rfl | rfl | rfl <;> decide

theorem l7Flow4 (c : Int) (x : Nat) (y : Int) (hx : x < 6) (w : World) :
    Calls Try.prog 27 #[.int .i64 c, .agg #[.int .i64 4, .int .i64 (x : Int), .int .i64 y]] w fun e w' => ∃ B, e = .returned (.slice (some ⟨B, 0, none⟩) 7 7) ∧ w.heap.size ≤ B ∧ IntAt w' B (mkL unitL (factN x) 0) ∧ Below w.heap.size w w' := by
  have hun := fun W => specUnitAt W
  have hwi := fun W => l7Without x hx W
  have hwr := wrap_bit x hx
  rw [flow4_set x hx] at hwi
  go_enter Try.func27, Try.ntmps27
  go_wp2_with fail
  go_at_call 47
  refine (hun _).mono ?_
  rintro e w1 ⟨rfl, i1, b1⟩
  obtain ⟨L1, q1⟩ := flow_pre b1
  obtain ⟨g0, g1, g2⟩ := stmt_cells q1
  have hlt : w.heap.size < w1.heap.size := (Array.getElem?_eq_some_iff.1 q1).1
  clear q1 b1 hun i1
  go_wp2_with fail
  go_at_call 48
  refine (hwi _).mono ?_
  rintro e w2 ⟨rfl, i2, b2⟩
  have I2 : Hid _ := i2
  have L2 := L1.trans (b2.mono L1.size)
  clear g0 g1 g2 i2 hwi b2
  go_wp2
  go_ret
  exact ⟨w1.heap.size, rfl, by omega, I2.out, L2⟩

theorem l7Flow5a (x : Nat) (y : Int) (hx : x < 6) (w : World) :
    Calls Try.prog 27 #[.int .i64 1, .agg #[.int .i64 5, .int .i64 (x : Int), .int .i64 y]] w fun e w' => ∃ B, e = .returned (.slice (some ⟨B, 0, none⟩) 7 7) ∧ w.heap.size ≤ B ∧ IntAt w' B (mkL unitL (factN x) 1) ∧ Below w.heap.size w w' := by
  have hun := fun W => specUnitAt W
  have hwi := fun W => l7Without x hx W
  have hwr := wrap_bit x hx
  have hzs := flow5_set x hx
  have h7 : (unitL.set (x + 1) 0).length = 7 := by simp [unitL]
  have hv0 : (unitL.set (x + 1) 0).getD 0 0 = 1 := rfl
  rw [hv0] at hzs
  generalize unitL.set (x + 1) 0 = vs at hwi hzs h7 hv0
  have HZ : Hid _ := hzs
  clear hzs
  go_enter Try.func27, Try.ntmps27
  go_wp2_with fail
  go_at_call 47
  refine (hun _).mono ?_
  rintro e w1 ⟨rfl, i1, b1⟩
  obtain ⟨L1, q1⟩ := flow_pre b1
  obtain ⟨g0, g1, g2⟩ := stmt_cells q1
  have hlt : w.heap.size < w1.heap.size := (Array.getElem?_eq_some_iff.1 q1).1
  clear q1 b1 hun i1
  go_wp2_with fail
  go_at_call 48
  refine (hwi _).mono ?_
  rintro e w2 ⟨rfl, i2, b2⟩
  obtain ⟨c0, f0⟩ := i2.cell 0 (by omega)
  rw [hv0] at c0
  have I2 : Hid (IntAt w2 w1.heap.size vs) := i2
  have L2 := L1.trans (b2.mono L1.size)
  clear g0 g1 g2 i2 hwi b2
  go_wp2
  go_ret
  exact ⟨w1.heap.size, rfl, by omega, by rw [← HZ.out]; exact I2.out.set 0 _, Below.setCell L2 (by show w.heap.size ≤ w1.heap.size; omega) _⟩

theorem l7Flow5b (x : Nat) (y : Int) (hx : x < 6) (w : World) :
    Calls Try.prog 27 #[.int .i64 2, .agg #[.int .i64 5, .int .i64 (x : Int), .int .i64 y]] w fun e w' => ∃ B, e = .returned (.slice (some ⟨B, 0, none⟩) 7 7) ∧ w.heap.size ≤ B ∧ IntAt w' B (mkL unitL (factN x) 0) ∧ Below w.heap.size w w' := by
  have hun := fun W => specUnitAt W
  have hwi := fun W => l7Without x hx W
  have hwr := wrap_bit x hx
  rw [flow4_set x hx] at hwi
  go_enter Try.func27, Try.ntmps27
  go_wp2_with fail
  go_at_call 47
  refine (hun _).mono ?_
  rintro e w1 ⟨rfl, i1, b1⟩
  obtain ⟨L1, q1⟩ := flow_pre b1
  obtain ⟨g0, g1, g2⟩ := stmt_cells q1
  have hlt : w.heap.size < w1.heap.size := (Array.getElem?_eq_some_iff.1 q1).1
  clear q1 b1 hun i1
  go_wp2_with fail
  go_at_call 48
  refine (hwi _).mono ?_
  rintro e w2 ⟨rfl, i2, b2⟩
  have I2 : Hid _ := i2
  have L2 := L1.trans (b2.mono L1.size)
  clear g0 g1 g2 i2 hwi b2
  go_wp2
  go_ret
  exact ⟨w1.heap.size, rfl, by omega, I2.out, L2⟩

theorem l7FlowElse (c k : Int) (x : Nat) (y : Int) (hx : x < 6) (h2 : ¬ k = 2) (h3 : ¬ k = 3) (h4 : ¬ k = 4) (h5 : ¬ k = 5) (w : World) :
    Calls Try.prog 27 #[.int .i64 c, .agg #[.int .i64 k, .int .i64 (x : Int), .int .i64 y]] w fun e w' => ∃ B, e = .returned (.slice (some ⟨B, 0, none⟩) 7 7) ∧ w.heap.size ≤ B ∧ IntAt w' B unitL ∧ Below w.heap.size w w' := by
  have hun := fun W => specUnitAt W
  have hwr := wrap_bit x hx
  go_enter Try.func27, Try.ntmps27
  go_wp2_with fail
  go_at_call 47
  refine (hun _).mono ?_
  rintro e w1 ⟨rfl, i1, b1⟩
  obtain ⟨L1, q1⟩ := flow_pre b1
  obtain ⟨g0, g1, g2⟩ := stmt_cells q1
  have hlt : w.heap.size < w1.heap.size := (Array.getElem?_eq_some_iff.1 q1).1
  have I1 : Hid _ := i1
  clear q1 b1 hun i1
  go_wp2
  go_ret
  exact ⟨w.heap.size + 1, rfl, by omega, by simpa using I1.out, L1⟩

theorem stmtOk_x6 {k x y : Int} (h : stmtOk k x y = true) : ∃ i : Nat, x = i ∧ i < 6 := by
  have h1 : inB x 0 5 = true := by
    rcases kinds k with rfl | rfl | rfl | rfl | rfl | rfl | rfl | rfl | rfl | ⟨h1, h2, h3, h4, h5, h6, h7, h8, h9⟩
    all_goals simp [stmtOk, *] at h
    all_goals simp [inB] at h ⊢
    all_goals omega
  obtain ⟨i, rfl, hi⟩ := inB_nat h1
  exact ⟨i, rfl, by omega⟩

theorem l7Flow (c k x y : Int) (hc : c = 1 ∨ c = 2) (h : stmtOk k x y = true) (w : World) :
    Calls Try.prog 27 #[.int .i64 c, .agg #[.int .i64 k, .int .i64 x, .int .i64 y]] w fun e w' => ∃ B, e = .returned (.slice (some ⟨B, 0, none⟩) 7 7) ∧ w.heap.size ≤ B ∧ IntAt w' B (flowL c k x y) ∧ Below w.heap.size w w' := by
  by_cases h2 : k = 2
  · subst h2
    obtain ⟨i, j, rfl, rfl, hi, hj⟩ := stmtOk_xy h (.inl rfl)
    exact l7Flow2 c i j hi hj w
  · by_cases h3 : k = 3
    · subst h3
      obtain ⟨i, j, rfl, rfl, hi, hj⟩ := stmtOk_xy h (.inr rfl)
      exact l7Flow3 c i j hi hj w
    · by_cases h4 : k = 4
      · subst h4
        obtain ⟨i, rfl, hi⟩ := stmtOk_x h (.inl rfl)
        exact l7Flow4 c i y hi w
      · by_cases h5 : k = 5
        · subst h5
          obtain ⟨i, rfl, hi⟩ := stmtOk_x h (.inr rfl)
          rcases hc with rfl | rfl
          · exact l7Flow5a i y hi w
          · exact l7Flow5b i y hi w
        · have e : flowL c k x y = unitL := by simp [flowL, h2, h3, h4, h5]
          rw [e]
          obtain ⟨i, rfl, hi⟩ := stmtOk_x6 h
          exact l7FlowElse c k i y hi h2 h3 h4 h5 w

end Go.Proofs.Ytciccbbgamklbaa

/-
  Chapter 6, mathematics: to compose goes in any order of doing, the unit changes nothing, over what is joined it goes to each; images of sets together.
-/
namespace Go.Proofs.Ytciccbbgamklbaa
open Go.RowKit
set_option linter.unusedVariables false

theorem comp_get {xs ys : List Int} (hx : Smalls xs) {j : Nat} (hj : j < 7) : (comp xs ys).getD j 0 = img ys (xs.getD j 0) := by
  simp [comp, List.getD, hx.1, hj]

theorem joi_get {xs ys : List Int} (hx : Smalls xs) (hy : Smalls ys) {j : Nat} (hj : j < 7) : (joi xs ys).getD j 0 = lor (xs.getD j 0) (ys.getD j 0) := by
  simp [joi, List.getD, hx.1, hy.1, hj]

theorem smalls_of {xs : List Int} (hl : xs.length = 7) (h : ∀ j, j < 7 → Small (xs.getD j 0)) : Smalls xs := by
  refine ⟨hl, fun x hx => ?_⟩
  obtain ⟨j, hj, rfl⟩ := List.getElem_of_mem hx
  have := h j (by omega)
  simpa [List.getD, hj] using this

theorem comp_smalls {xs ys : List Int} (hx : Smalls xs) (hy : Smalls ys) : Smalls (comp xs ys) :=
  smalls_of (by simp [comp, hx.1]) (fun j hj => by rw [comp_get hx hj]; exact img_small hy _)

theorem joi_smalls {xs ys : List Int} (hx : Smalls xs) (hy : Smalls ys) : Smalls (joi xs ys) :=
  smalls_of (by simp [joi, hx.1, hy.1]) (fun j hj => by rw [joi_get hx hy hj]; exact lor_small (hx.getD j) (hy.getD j))

theorem unit_smalls : Smalls unitL := relOk_iff.1 (by decide)

theorem bit_eq {a b : Int} (ha : Small a) (hb : Small b) (h : ∀ t, t < 7 → (bit a t = true ↔ bit b t = true)) : a = b :=
  bit_ext ha hb (fun t ht => Bool.eq_iff_iff.2 (h t ht))

theorem unit_get {j : Nat} (hj : j < 7) (t : Nat) (ht : t < 7) : bit (unitL.getD j 0) t = true ↔ j = t := by
  have h : ∀ j, j < 7 → ∀ t, t < 7 → (bit (unitL.getD j 0) t = decide (j = t)) := by decide
  rw [h j hj t ht, decide_eq_true_eq]

theorem img_comp {xs ys : List Int} (hx : Smalls xs) (hy : Smalls ys) (s : Int) : img (comp xs ys) s = img ys (img xs s) := by
  have hc := comp_smalls hx hy
  refine bit_eq (img_small hc s) (img_small hy _) (fun t ht => ?_)
  rw [bit_img hc, bit_img hy]
  constructor
  · rintro ⟨i, hi, h1, h2⟩
    rw [comp_get hx hi, bit_img hy] at h2
    obtain ⟨k, hk, h3, h4⟩ := h2
    exact ⟨k, hk, (bit_img hx s k).2 ⟨i, hi, h1, h3⟩, h4⟩
  · rintro ⟨k, hk, h3, h4⟩
    obtain ⟨i, hi, h1, h2⟩ := (bit_img hx s k).1 h3
    exact ⟨i, hi, h1, by rw [comp_get hx hi, bit_img hy]; exact ⟨k, hk, h2, h4⟩⟩

theorem comp_assoc {xs ys zs : List Int} (hx : Smalls xs) (hy : Smalls ys) (hz : Smalls zs) : comp (comp xs ys) zs = comp xs (comp ys zs) := by
  have h1 := comp_smalls hx hy
  have h2 := comp_smalls hy hz
  refine list7 (comp_smalls h1 hz).1 (comp_smalls hx h2).1 (fun j hj => ?_)
  rw [comp_get h1 hj, comp_get hx hj, comp_get hx hj, img_comp hy hz]

theorem img_joi {xs ys : List Int} (hx : Smalls xs) (hy : Smalls ys) (s : Int) : img (joi xs ys) s = lor (img xs s) (img ys s) := by
  have hj := joi_smalls hx hy
  refine bit_eq (img_small hj s) (lor_small (img_small hx s) (img_small hy s)) (fun t ht => ?_)
  rw [bit_img hj, bit_lor (img_small hx s) (img_small hy s), Bool.or_eq_true, bit_img hx, bit_img hy]
  constructor
  · rintro ⟨i, hi, h1, h2⟩
    rw [joi_get hx hy hi, bit_lor (hx.getD i) (hy.getD i), Bool.or_eq_true] at h2
    rcases h2 with h | h
    · exact .inl ⟨i, hi, h1, h⟩
    · exact .inr ⟨i, hi, h1, h⟩
  · rintro (⟨i, hi, h1, h2⟩ | ⟨i, hi, h1, h2⟩)
    · exact ⟨i, hi, h1, by rw [joi_get hx hy hi, bit_lor (hx.getD i) (hy.getD i), Bool.or_eq_true]; exact .inl h2⟩
    · exact ⟨i, hi, h1, by rw [joi_get hx hy hi, bit_lor (hx.getD i) (hy.getD i), Bool.or_eq_true]; exact .inr h2⟩

theorem img_lor {rs : List Int} (hr : Smalls rs) {s t : Int} (hs : Small s) (ht : Small t) : img rs (lor s t) = lor (img rs s) (img rs t) := by
  refine bit_eq (img_small hr _) (lor_small (img_small hr s) (img_small hr t)) (fun k hk => ?_)
  rw [bit_img hr, bit_lor (img_small hr s) (img_small hr t), Bool.or_eq_true, bit_img hr, bit_img hr]
  constructor
  · rintro ⟨i, hi, h1, h2⟩
    rw [bit_lor hs ht, Bool.or_eq_true] at h1
    rcases h1 with h | h
    · exact .inl ⟨i, hi, h, h2⟩
    · exact .inr ⟨i, hi, h, h2⟩
  · rintro (⟨i, hi, h1, h2⟩ | ⟨i, hi, h1, h2⟩)
    · exact ⟨i, hi, by rw [bit_lor hs ht, h1, Bool.true_or], h2⟩
    · exact ⟨i, hi, by rw [bit_lor hs ht, h1, Bool.or_true], h2⟩

theorem img_zero {rs : List Int} (hr : Smalls rs) : img rs 0 = 0 := by
  refine bit_eq (img_small hr _) ⟨by omega, by omega⟩ (fun k hk => ?_)
  rw [bit_img hr]
  simp [bit_zero]

theorem img_unit {s : Int} (hs : Small s) : img unitL s = s := by
  refine bit_eq (img_small unit_smalls s) hs (fun t ht => ?_)
  rw [bit_img unit_smalls]
  constructor
  · rintro ⟨i, hi, h1, h2⟩
    rw [unit_get hi t ht] at h2
    rw [← h2]; exact h1
  · intro h
    exact ⟨t, ht, h, (unit_get ht t ht).2 rfl⟩

theorem comp_unit {xs : List Int} (hx : Smalls xs) : comp xs unitL = xs := by
  refine list7 (comp_smalls hx unit_smalls).1 hx.1 (fun j hj => ?_)
  rw [comp_get hx hj, img_unit (hx.getD j)]

theorem img_at {xs : List Int} (hx : Smalls xs) {j : Nat} (hj : j < 7) : img xs (unitL.getD j 0) = xs.getD j 0 := by
  refine bit_eq (img_small hx _) (hx.getD j) (fun t ht => ?_)
  rw [bit_img hx]
  constructor
  · rintro ⟨i, hi, h1, h2⟩
    rw [unit_get hj i hi] at h1
    rw [h1]; exact h2
  · intro h
    exact ⟨j, hj, (unit_get hj j hj).2 rfl, h⟩

theorem unit_comp {xs : List Int} (hx : Smalls xs) : comp unitL xs = xs := by
  refine list7 (comp_smalls unit_smalls hx).1 hx.1 (fun j hj => ?_)
  rw [comp_get unit_smalls hj, img_at hx hj]

theorem comp_joi {ds xs ys : List Int} (hd : Smalls ds) (hx : Smalls xs) (hy : Smalls ys) : comp ds (joi xs ys) = joi (comp ds xs) (comp ds ys) := by
  have h1 := joi_smalls hx hy
  have h2 := comp_smalls hd hx
  have h3 := comp_smalls hd hy
  refine list7 (comp_smalls hd h1).1 (joi_smalls h2 h3).1 (fun j hj => ?_)
  rw [comp_get hd hj, joi_get h2 h3 hj, comp_get hd hj, comp_get hd hj, img_joi hx hy]

theorem joi_comp {ds xs ys : List Int} (hd : Smalls ds) (hx : Smalls xs) (hy : Smalls ys) : comp (joi xs ys) ds = joi (comp xs ds) (comp ys ds) := by
  have h1 := joi_smalls hx hy
  have h2 := comp_smalls hx hd
  have h3 := comp_smalls hy hd
  refine list7 (comp_smalls h1 hd).1 (joi_smalls h2 h3).1 (fun j hj => ?_)
  rw [comp_get h1 hj, joi_get h2 h3 hj, comp_get hx hj, comp_get hy hj, joi_get hx hy hj, img_lor hd (hx.getD j) (hy.getD j)]

theorem lor_left {a b : Int} (ha : Small a) (hb : Small b) : lor a (lor a b) = lor a b :=
  bit_ext (lor_small ha (lor_small ha hb)) (lor_small ha hb) (fun t _ => by rw [bit_lor ha (lor_small ha hb), bit_lor ha hb]; cases bit a t <;> simp)

theorem lor_right {a b : Int} (ha : Small a) (hb : Small b) : lor b (lor a b) = lor a b :=
  bit_ext (lor_small hb (lor_small ha hb)) (lor_small ha hb) (fun t _ => by rw [bit_lor hb (lor_small ha hb), bit_lor ha hb]; cases bit a t <;> cases bit b t <;> simp)

theorem joi_left {xs ys : List Int} (hx : Smalls xs) (hy : Smalls ys) : joi xs (joi xs ys) = joi xs ys := by
  have h := joi_smalls hx hy
  refine list7 (joi_smalls hx h).1 h.1 (fun j hj => ?_)
  rw [joi_get hx h hj, joi_get hx hy hj, lor_left (hx.getD j) (hy.getD j)]

theorem joi_right {xs ys : List Int} (hx : Smalls xs) (hy : Smalls ys) : joi ys (joi xs ys) = joi xs ys := by
  have h := joi_smalls hx hy
  refine list7 (joi_smalls hy h).1 h.1 (fun j hj => ?_)
  rw [joi_get hy h hj, joi_get hx hy hj, lor_right (hx.getD j) (hy.getD j)]

end Go.Proofs.Ytciccbbgamklbaa

/-
  Chapter 7, mathematics: what a statement makes of a set, fact by fact.
-/
namespace Go.Proofs.Ytciccbbgamklbaa
open Go.RowKit
set_option linter.unusedVariables false
set_option maxHeartbeats 1000000

theorem bit_made : ∀ j, j < 7 → ∀ x, x < 6 → ∀ t, t < 7 → ∀ b : Bool,
    bit (if b = true then lor (cut (unitL.getD j 0) (factN x)) (factN x) else cut (unitL.getD j 0) (factN x)) t = if t = x + 1 then b else decide (j = t) := by
  decide +kernel

theorem small_made : ∀ j, j < 7 → ∀ x, x < 6 → ∀ b : Bool,
    (0 ≤ (if b = true then lor (cut (unitL.getD j 0) (factN x)) (factN x) else cut (unitL.getD j 0) (factN x))) ∧ (if b = true then lor (cut (unitL.getD j 0) (factN x)) (factN x) else cut (unitL.getD j 0) (factN x)) ≤ 127 := by
  decide +kernel

theorem mkL_smalls (x : Nat) (hx : x < 6) (m : Int) : Smalls (mkL unitL (factN x) m) := by
  refine smalls_of (mkL_length _ _ _) (fun j hj => ?_)
  rw [mkL_getD _ _ _ _ hj]
  exact small_made j hj x hx (bit m j)

theorem bit_mkL (x : Nat) (hx : x < 6) (m : Int) (j : Nat) (hj : j < 7) (t : Nat) (ht : t < 7) : bit ((mkL unitL (factN x) m).getD j 0) t = if t = x + 1 then bit m j else decide (j = t) := by
  rw [mkL_getD _ _ _ _ hj]
  exact bit_made j hj x hx t ht (bit m j)

/-- Other facts stay. -/
theorem img_other (x : Nat) (hx : x < 6) (m s : Int) (t : Nat) (ht : t < 7) (hn : ¬ t = x + 1) : bit (img (mkL unitL (factN x) m) s) t = bit s t := by
  rw [Bool.eq_iff_iff, bit_img (mkL_smalls x hx m)]
  constructor
  · rintro ⟨i, hi, h1, h2⟩
    rw [bit_mkL x hx m i hi t ht, if_neg hn] at h2
    obtain rfl : i = t := by simpa using h2
    exact h1
  · intro h
    exact ⟨t, ht, h, by rw [bit_mkL x hx m t ht t ht, if_neg hn]; simp⟩

/-- The fact of X is made by those of m. -/
theorem img_own (x : Nat) (hx : x < 6) (m s : Int) : bit (img (mkL unitL (factN x) m) s) (x + 1) = true ↔ ∃ i, i < 7 ∧ bit s i = true ∧ bit m i = true := by
  rw [bit_img (mkL_smalls x hx m)]
  constructor
  · rintro ⟨i, hi, h1, h2⟩
    rw [bit_mkL x hx m i hi (x + 1) (by omega), if_pos rfl] at h2
    exact ⟨i, hi, h1, h2⟩
  · rintro ⟨i, hi, h1, h2⟩
    exact ⟨i, hi, h1, by rw [bit_mkL x hx m i hi (x + 1) (by omega), if_pos rfl]; exact h2⟩

theorem bit_fact : ∀ y, y < 6 → ∀ i, i < 7 → bit (factN y) i = decide (i = y + 1) := by decide +kernel

theorem own_copy (x y : Nat) (hx : x < 6) (hy : y < 6) (s : Int) : bit (img (mkL unitL (factN x) (factN y)) s) (x + 1) = bit s (y + 1) := by
  rw [Bool.eq_iff_iff, img_own x hx]
  constructor
  · rintro ⟨i, hi, h1, h2⟩
    rw [bit_fact y hy i hi] at h2
    obtain rfl : i = y + 1 := by simpa using h2
    exact h1
  · intro h
    exact ⟨y + 1, by omega, h, by rw [bit_fact y hy _ (by omega)]; simp⟩

theorem own_both (x y : Nat) (hx : x < 6) (hy : y < 6) (s : Int) : bit (img (mkL unitL (factN x) (lor (factN x) (factN y))) s) (x + 1) = (bit s (x + 1) || bit s (y + 1)) := by
  rw [Bool.eq_iff_iff, img_own x hx, Bool.or_eq_true]
  constructor
  · rintro ⟨i, hi, h1, h2⟩
    rw [bit_lor (factN_small x hx) (factN_small y hy), Bool.or_eq_true, bit_fact x hx i hi, bit_fact y hy i hi] at h2
    rcases h2 with h2 | h2
    · obtain rfl : i = x + 1 := by simpa using h2
      exact .inl h1
    · obtain rfl : i = y + 1 := by simpa using h2
      exact .inr h1
  · rintro (h | h)
    · exact ⟨x + 1, by omega, h, by rw [bit_lor (factN_small x hx) (factN_small y hy), bit_fact x hx _ (by omega)]; simp⟩
    · exact ⟨y + 1, by omega, h, by rw [bit_lor (factN_small x hx) (factN_small y hy), bit_fact y hy _ (by omega)]; simp⟩

theorem own_clear (x : Nat) (hx : x < 6) (s : Int) : bit (img (mkL unitL (factN x) 0) s) (x + 1) = false := by
  rw [Bool.eq_false_iff]
  intro h
  obtain ⟨i, hi, h1, h2⟩ := (img_own x hx 0 s).1 h
  rw [bit_zero] at h2
  exact absurd h2 (by simp)

theorem own_mark (x : Nat) (hx : x < 6) (s : Int) (h0 : bit s 0 = true) : bit (img (mkL unitL (factN x) 1) s) (x + 1) = true :=
  (img_own x hx 1 s).2 ⟨0, by omega, h0, by decide⟩

theorem flowL_smalls {c k x y : Int} (h : stmtOk k x y = true) : Smalls (flowL c k x y) := by
  obtain ⟨i, rfl, hi⟩ := stmtOk_x6 h
  unfold flowL
  split
  · exact mkL_smalls i hi _
  split
  · exact mkL_smalls i hi _
  split
  · exact mkL_smalls i hi _
  split
  · exact mkL_smalls i hi _
  exact unit_smalls

end Go.Proofs.Ytciccbbgamklbaa

/-
  Procs: toProc, szProc, eqProc, spec.ProcOk, impl.ProcOk.
-/
namespace Go.Proofs.Ytciccbbgamklbaa
open Go.RowKit
set_option linter.unusedVariables false
set_option maxHeartbeats 800000

theorem one_cell {w : World} {b : Nat} {x : Value} {T : TypeId} (h : w.heap[b]? = some (.cells #[x] T (0, 0))) : w.cell? ⟨b, 0, none⟩ = some x ∧ w.frozen? ⟨b, 0, none⟩ = false := by
  constructor <;> simp [World.cell?, World.frozen?, h]

theorem one_set {w : World} {b : Nat} {x : Value} {T : TypeId} (h : w.heap[b]? = some (.cells #[x] T (0, 0))) (y : Value) : (w.setCell ⟨b, 0, none⟩ y).heap[b]? = some (.cells #[y] T (0, 0)) := by
  have h1 := heap_setCell_same w b 0 _ T y h
  simpa using h1

theorem laid3 {w w1 : World} {a b c : Obj} (hb : Below (((w.alloc a).alloc b).alloc c).heap.size (((w.alloc a).alloc b).alloc c) w1) :
    w1.heap[w.heap.size]? = some a ∧ w1.heap[w.heap.size + 1]? = some b ∧ w1.heap[w.heap.size + 1 + 1]? = some c ∧ w.heap.size + 3 ≤ w1.heap.size ∧ Below w.heap.size w w1 := by
  have z1 : (w.alloc a).heap.size = w.heap.size + 1 := by simp
  have z2 : ((w.alloc a).alloc b).heap.size = w.heap.size + 1 + 1 := by simp
  have z3 : (((w.alloc a).alloc b).alloc c).heap.size = w.heap.size + 3 := by simp
  have h0 := heap_alloc_new w a
  have h1 := heap_alloc_new (w.alloc a) b
  have h2 := heap_alloc_new ((w.alloc a).alloc b) c
  rw [z1] at h1
  rw [z2] at h2
  have hs := hb.size
  refine ⟨?_, ?_, ?_, by omega, Below.trans (by go_grown) (hb.mono (by omega))⟩
  · rw [hb.block _ (by omega), old_block (by omega), old_block (by omega)]; exact h0
  · rw [hb.block _ (by omega), old_block (by omega)]; exact h1
  · rw [hb.block _ (by omega)]; exact h2

theorem own_slice {w : World} {base : Nat} {e : TypeId} {s n : Nat} {u : Value} {xs : List Value} (h : w.ownsRow base e s u n xs) : ∃ a m c, u = .slice a m c := by
  rcases h.2 with ⟨rfl, _⟩ | ⟨g, cap, cur, rfl, _⟩
  · exact ⟨_, _, _, rfl⟩
  · exact ⟨_, _, _, rfl⟩

theorem reads3_slice {w : World} {u : Value} {ss : List Stm} (h : Reads3 w u ss) : ∃ a m c, u = .slice a m c := by
  obtain ⟨a, c, rfl, _⟩ := h
  exact ⟨_, _, _, rfl⟩

theorem toProc (ss : List Stm) (v : Value) (w : World) (hl : ss.length ≤ 1048576) (hv : Reads3 w v ss) :
    Calls Try.prog 7 #[.agg #[v]] w fun e w' => ∃ u, e = .returned (.agg #[u]) ∧ w'.ownsRow w.heap.size 54 3 u ss.length (cells3 ss) ∧ Below w.heap.size w w' := by
  have hb0 : Below w.heap.size w (((w.alloc (.cells #[v] 24)).alloc (.cells #[.slice none 0 0] 30)).alloc (.cells #[.slice none 0 0] 30)) := by go_grown
  go_enter Try.func7, Try.ntmps7
  go_wp2_with fail
  go_at_call 29
  refine (toStmtS ss v _ hl (reads3_below hv hb0)).mono ?_
  rintro e w1 ⟨u, rfl, own1, b1⟩
  obtain ⟨H1, H2, H3, s1, L1⟩ := laid3 b1
  have ublk : ∀ k, u.ownBlock = some k → w.heap.size + 3 ≤ k := fun k hk => by have := (own1.lt k hk).1; simpa using this
  have own1 := own_mono own1 (base' := w.heap.size) (by simp; omega)
  have own2 := ownsRow_setCell_other own1 (a := ⟨w.heap.size + 1 + 1, 0, none⟩) (fun e => by have := ublk _ e; simp at this; omega) u
  have own3 := ownsRow_setCell_other own2 (a := ⟨w.heap.size + 1, 0, none⟩) (fun e => by have := ublk _ e; simp at this) u
  have G3 := one_set H3 u
  have G2 : (w1.setCell ⟨w.heap.size + 1 + 1, 0, none⟩ u).heap[w.heap.size + 1]? = _ := (Below.heap_setCell w1 ⟨w.heap.size + 1 + 1, 0, none⟩ u _ (by simp)).trans H2
  have G4 := one_set G2 u
  obtain ⟨c3, f3⟩ := one_cell H3
  obtain ⟨d3, g3⟩ := one_cell G3
  obtain ⟨d2, g2⟩ := one_cell G2
  obtain ⟨e2, i2⟩ := one_cell G4
  clear H1 H2 H3 G2 G3 G4 own1 own2
  obtain ⟨ua, un, uc, rfl⟩ := own_slice own3
  go_wp2
  refine bodyPost_ret (v := .agg #[.slice ua un uc]) (by simp [results, Try.results7, go_sem, e2]) rfl ?_
  exact ⟨_, rfl, own3, (L1.setCell (by simp; omega) _).setCell (by simp) _⟩

theorem szProc (n : Nat) (a : Option Addr) (cap : Nat) (l : Int) (w : World) (hn : n ≤ maxLen) (h0 : 0 ≤ l) (hl : l ≤ 1048576) :
    Calls Try.prog 5 #[.agg #[.slice a n cap], .int .i64 l] w fun e w' => e = .returned (.int .i64 (if l < n then -1 else l - n)) ∧ Below w.heap.size w w' := by
  have hz := szStmtS n a cap l
  by_cases h : l < (n : Int)
  · rw [if_pos h] at hz ⊢
    go_enter Try.func5, Try.ntmps5
    go_wp2_with (go_at_call 21; refine (hz _ hn h0 hl).mono ?_; rintro e w' ⟨rfl, rfl⟩)
    go_ret
    exact ⟨rfl, by go_grown⟩
  · rw [if_neg h] at hz ⊢
    have hx : (decide (l - (n : Int) < 0)) = false := by simp; omega
    go_enter Try.func5, Try.ntmps5
    go_wp2_with (go_at_call 21; refine (hz _ hn h0 hl).mono ?_; rintro e w' ⟨rfl, rfl⟩)
    go_ret
    exact ⟨rfl, by go_grown⟩

theorem eqProc (ss : List Stm) (v u : Value) (w : World) (hl : ss.length ≤ maxLen) (hv : Reads3 w v ss) (hu : Reads3 w u ss) :
    Calls Try.prog 10 #[.agg #[v], .agg #[u]] w fun e w' => e = .returned (.bool true) ∧ Below w.heap.size w w' := by
  have hb0 : Below w.heap.size w ((w.alloc (.cells #[v] 30)).alloc (.cells #[u] 30)) := by go_grown
  go_enter Try.func10, Try.ntmps10
  go_wp2_with fail
  go_at_call 35
  refine (eqStmtS ss v u _ hl (reads3_below hv hb0) (reads3_below hu hb0)).mono ?_
  rintro e w1 ⟨rfl, b1⟩
  go_wp2
  go_ret
  exact ⟨rfl, hb0.trans (b1.mono hb0.size)⟩

/-- Is a statement right within a Proc of n? -/
def stmOk (n : Nat) (s : Stm) : Bool := stmtOk s.k s.x s.y && !(decide (s.k = 7) && decide ((n : Int) ≤ s.y))

/-- What both answer of a Proc. -/
def procOk (ss : List Stm) : Bool :=
  decide (1 ≤ ss.length) && decide (ss.length ≤ 12) && (ss[ss.length - 1]?).any (fun s => decide (s.k = 9)) && ss.all (stmOk ss.length)

theorem all_take_succ {α : Type} (p : α → Bool) (l : List α) (k : Nat) (h : k < l.length) : (l.take (k + 1)).all p = ((l.take k).all p && p l[k]) := by
  rw [List.take_succ_eq_append_getElem h, List.all_append]; simp

theorem all_false {α : Type} (p : α → Bool) (l : List α) (k : Nat) (h : k < l.length) (hp : p l[k] = false) : l.all p = false := by
  rw [List.all_eq_false]
  exact ⟨l[k], List.getElem_mem h, by simp [hp]⟩

theorem specProcOk (ss : List Stm) (v : Value) (w : World) (hl : ss.length ≤ maxLen) (hv : Reads3 w v ss) :
    Calls Try.prog 46 #[.agg #[v]] w fun e w' => e = .returned (.bool (procOk ss)) ∧ Below w.heap.size w w' := by
  unfold maxLen at hl
  obtain ⟨ao, cap, rfl, hc⟩ := hv
  by_cases h1 : ss.length < 1
  · have hr : procOk ss = false := by simp [procOk]; omega
    rw [hr]
    have h1' : (ss.length : Int) < 1 := by omega
    go_enter Try.func46, Try.ntmps46
    go_wp2
    go_ret
    exact ⟨rfl, by go_grown⟩
  by_cases h2 : 12 < ss.length
  · have hr : procOk ss = false := by simp [procOk]; omega
    rw [hr]
    have h1' : ¬ (ss.length : Int) < 1 := by omega
    have h2' : (12 : Int) < (ss.length : Int) := by omega
    go_enter Try.func46, Try.ntmps46
    go_wp2
    go_ret
    exact ⟨rfl, by go_grown⟩
  have hlast : ss.length - 1 < ss.length := by omega
  have hz : ss[ss.length - 1]? = some ss[ss.length - 1] := by simp [hlast]
  obtain ⟨g, off, rfl, z0, _, _⟩ := hc _ _ hz
  have zB := World.block_lt_of_cell? w _ z0
  have n1 : ((ss.length : Int) - 1).toNat = ss.length - 1 := by omega
  by_cases h3 : ss[ss.length - 1].k = 9
  · have hr : procOk ss = ss.all (stmOk ss.length) := by
      have e1 : decide (1 ≤ ss.length) = true := by simp; omega
      have e2 : decide (ss.length ≤ 12) = true := by simp; omega
      rw [procOk, e1, e2, hz]
      simp [h3]
    rw [hr]
    rw [h3] at z0
    clear hz h3 hr
    have i1 : ¬ (ss.length : Int) < 1 := by omega
    have i2 : ¬ (12 : Int) < (ss.length : Int) := by omega
    go_enter Try.func46, Try.ntmps46
    go_wp2
    have hb0 : Below w.heap.size w (w.alloc (.cells #[.slice (some ⟨g, off, none⟩) ss.length cap] 30)) := by go_grown
    have H0 := heap_alloc_new w (.cells #[.slice (some ⟨g, off, none⟩) ss.length cap] 30)
    have s0 : (w.alloc (.cells #[.slice (some ⟨g, off, none⟩) ss.length cap] 30)).heap.size = w.heap.size + 1 := by simp
    generalize w.alloc (.cells #[.slice (some ⟨g, off, none⟩) ss.length cap] 30) = W at *
    go_loopw [4] (fun i wr => ∃ k : Nat, k ≤ ss.length ∧ i = .int .i64 k ∧ Below W.heap.size W wr ∧ (ss.take k).all (stmOk ss.length) = true) (fun i _ => ss.length - (intOf i).toNat)
    case atStart => exact ⟨0, Nat.zero_le _, rfl, Below.refl _ _, by simp⟩
    case round =>
      obtain ⟨k, hk, rfl, hb, hall⟩ := hrel
      have HALL : Hid _ := hall
      clear hall
      have hbw : Below w.heap.size w wr := hb0.trans (hb.mono hb0.size)
      obtain ⟨c0, f0⟩ := one_cell ((hb.block w.heap.size (by omega)).trans H0)
      by_cases hlt : k < ss.length
      · have hlt' : (k : Int) < (ss.length : Int) := by omega
        have e0 : some (⟨g, off, none⟩ : Addr) = some ⟨g, off, none⟩ := rfl
        obtain ⟨g', off', e1, p0, p1, p2⟩ := hc k ss[k] (by simp [hlt])
        simp only [Option.some.injEq, Addr.mk.injEq, and_true] at e1
        obtain ⟨rfl, rfl⟩ := e1
        have pB := World.block_lt_of_cell? w _ p0
        have p0 := (hbw.cell pB).trans p0
        have p1 := (hbw.cell (p := ⟨g, off + k * 3 + 1, none⟩) pB).trans p1
        have p2 := (hbw.cell (p := ⟨g, off + k * 3 + 2, none⟩) pB).trans p2
        have he := specStmtOk ss[k].k ss[k].x ss[k].y wr
        have hstep := all_take_succ (stmOk ss.length) ss k hlt
        have hbad := all_false (stmOk ss.length) ss k hlt
        rw [HALL.out, Bool.true_and] at hstep
        have HS : Hid _ := hstep
        have HB : Hid _ := hbad
        clear hstep hbad hc z0
        generalize hst : ss[k] = s at he p0 p1 p2 HS HB
        clear hst
        obtain ⟨sk, sx, sy⟩ := s
        simp only at he p0 p1 p2
        cases hok : stmtOk sk sx sy
        · rw [hok] at he
          have HF : Hid _ := HB.out (by simp [stmOk, hok])
          clear HS HB
          go_wp2_with (go_at_call 69; refine he.mono ?_; rintro e w2 ⟨rfl, b2⟩)
          go_ret
          exact ⟨by rw [HF.out]; rfl, hbw.trans (b2.mono hbw.size)⟩
        · rw [hok] at he
          by_cases h7 : sk = 7
          · subst h7
            by_cases hy : (ss.length : Int) ≤ sy
            · have HF : Hid _ := HB.out (by simp [stmOk, hok, hy])
              clear HS HB
              go_wp2_with fail
              go_at_call 69
              refine he.mono ?_
              rintro e w2 ⟨rfl, b2⟩
              obtain ⟨hcc, hff⟩ := bcell b2
              have cB := World.block_lt_of_cell? wr _ c0
              have pB' := World.block_lt_of_cell? wr _ p0
              go_wp2
              go_ret
              exact ⟨by rw [HF.out]; rfl, hbw.trans (b2.mono hbw.size)⟩
            · have HF : Hid ((ss.take (k + 1)).all (stmOk ss.length) = true) := HS.out.trans (by simp [stmOk, hok, hy])
              clear HS HB
              go_wp2_with fail
              go_at_call 69
              refine he.mono ?_
              rintro e w2 ⟨rfl, b2⟩
              obtain ⟨hcc, hff⟩ := bcell b2
              have cB := World.block_lt_of_cell? wr _ c0
              have pB' := World.block_lt_of_cell? wr _ p0
              go_wp2
              go_roundw
              case rel => exact ⟨k + 1, by omega, by go_num, hb.trans (b2.mono hb.size), HF.out⟩
              case measure => simp [intOf]; omega
          · have HF : Hid ((ss.take (k + 1)).all (stmOk ss.length) = true) := HS.out.trans (by simp [stmOk, hok, h7])
            clear HS HB
            go_wp2_with fail
            go_at_call 69
            refine he.mono ?_
            rintro e w2 ⟨rfl, b2⟩
            obtain ⟨hcc, hff⟩ := bcell b2
            have cB := World.block_lt_of_cell? wr _ c0
            have pB' := World.block_lt_of_cell? wr _ p0
            have h7' : (sk == 7) = false := by simpa using h7
            go_wp2
            go_roundw
            case rel => exact ⟨k + 1, by omega, by go_num, hb.trans (b2.mono hb.size), HF.out⟩
            case measure => simp [intOf]; omega
      · have hkk : k = ss.length := by omega
        subst hkk
        go_wp2
        go_ret
        have := HALL.out
        rw [List.take_length] at this
        exact ⟨by rw [this]; rfl, hbw⟩
  · have hr : procOk ss = false := by
      rw [procOk, hz]
      simp [h3]
    rw [hr]
    clear hz hr
    have h3' : (ss[ss.length - 1].k != 9) = true := by simp [h3]
    generalize ss[ss.length - 1] = s at *
    go_enter Try.func46, Try.ntmps46
    go_wp2
    go_ret
    exact ⟨rfl, by go_grown⟩

theorem stmtOk_jump {x y : Int} (h : stmtOk 7 x y = true) : 0 ≤ y := by
  unfold stmtOk at h
  simp [inB] at h
  omega

theorem wi_ge {y : Int} {n : Nat} (h0 : 0 ≤ y) : wiB y n = !decide ((n : Int) ≤ y) := by
  unfold wiB
  by_cases h : y < n
  · simp [h0, h]
  · simp [h]; omega

theorem implProcOk (ss : List Stm) (v : Value) (w : World) (hl : ss.length ≤ maxLen) (hv : Reads3 w v ss) :
    Calls Try.prog 43 #[.agg #[v]] w fun e w' => e = .returned (.bool (procOk ss)) ∧ Below w.heap.size w w' := by
  unfold maxLen at hl
  obtain ⟨ao, cap, rfl, hc⟩ := hv
  by_cases h1 : ss.length < 1
  · have hr : procOk ss = false := by simp [procOk]; omega
    rw [hr]
    have h1' : (ss.length : Int) < 1 := by omega
    go_enter Try.func43, Try.ntmps43
    go_wp2
    go_ret
    exact ⟨rfl, by go_grown⟩
  by_cases h2 : 12 < ss.length
  · have hr : procOk ss = false := by simp [procOk]; omega
    rw [hr]
    have h1' : ¬ (ss.length : Int) < 1 := by omega
    have h2' : (12 : Int) < (ss.length : Int) := by omega
    go_enter Try.func43, Try.ntmps43
    go_wp2
    go_ret
    exact ⟨rfl, by go_grown⟩
  have hlast : ss.length - 1 < ss.length := by omega
  have hz : ss[ss.length - 1]? = some ss[ss.length - 1] := by simp [hlast]
  obtain ⟨g, off, rfl, z0, _, _⟩ := hc _ _ hz
  have zB := World.block_lt_of_cell? w _ z0
  have n1 : ((ss.length : Int) - 1).toNat = ss.length - 1 := by omega
  have hr : procOk ss = (ss.all (stmOk ss.length) && (ss[ss.length - 1].k == 9)) := by
    have e1 : decide (1 ≤ ss.length) = true := by simp; omega
    have e2 : decide (ss.length ≤ 12) = true := by simp; omega
    rw [procOk, e1, e2, hz, Bool.and_comm]
    rfl
  rw [hr]
  have i1 : ¬ (ss.length : Int) < 1 := by omega
  have i2 : ¬ (12 : Int) < (ss.length : Int) := by omega
  clear hz hr
  generalize ss[ss.length - 1] = t at *
  obtain ⟨tk, tx, ty⟩ := t
  simp only at z0
  go_enter Try.func43, Try.ntmps43
  go_wp2
  have hb0 : Below w.heap.size w (w.alloc (.cells #[.slice (some ⟨g, off, none⟩) ss.length cap] 30)) := by go_grown
  have H0 := heap_alloc_new w (.cells #[.slice (some ⟨g, off, none⟩) ss.length cap] 30)
  have s0 : (w.alloc (.cells #[.slice (some ⟨g, off, none⟩) ss.length cap] 30)).heap.size = w.heap.size + 1 := by simp
  generalize w.alloc (.cells #[.slice (some ⟨g, off, none⟩) ss.length cap] 30) = W at *
  go_loopw [18] (fun i wr => ∃ k : Nat, k ≤ ss.length ∧ i = .int .i64 k ∧ Below W.heap.size W wr ∧ (ss.take k).all (stmOk ss.length) = true) (fun i _ => ss.length - (intOf i).toNat)
  case atStart => exact ⟨0, Nat.zero_le _, rfl, Below.refl _ _, by simp⟩
  case round =>
    obtain ⟨k, hk, rfl, hb, hall⟩ := hrel
    have HALL : Hid _ := hall
    clear hall
    have hbw : Below w.heap.size w wr := hb0.trans (hb.mono hb0.size)
    have z0 := (hbw.cell zB).trans z0
    obtain ⟨c0, f0⟩ := one_cell ((hb.block w.heap.size (by omega)).trans H0)
    by_cases hlt : k < ss.length
    · have hlt' : (k : Int) < (ss.length : Int) := by omega
      obtain ⟨g', off', e1, p0, p1, p2⟩ := hc k ss[k] (by simp [hlt])
      simp only [Option.some.injEq, Addr.mk.injEq, and_true] at e1
      obtain ⟨rfl, rfl⟩ := e1
      have pB := World.block_lt_of_cell? w _ p0
      have p0 := (hbw.cell pB).trans p0
      have p1 := (hbw.cell (p := ⟨g, off + k * 3 + 1, none⟩) pB).trans p1
      have p2 := (hbw.cell (p := ⟨g, off + k * 3 + 2, none⟩) pB).trans p2
      have he := implStmtOk ss[k].k ss[k].x ss[k].y
      have hstep := all_take_succ (stmOk ss.length) ss k hlt
      have hbad := all_false (stmOk ss.length) ss k hlt
      rw [HALL.out, Bool.true_and] at hstep
      have HS : Hid _ := hstep
      have HB : Hid _ := hbad
      clear hstep hbad hc z0
      generalize hst : ss[k] = s at he p0 p1 p2 HS HB
      clear hst
      obtain ⟨sk, sx, sy⟩ := s
      simp only at he p0 p1 p2
      have hbx : Below W.heap.size W (wr.alloc (.cells #[.int .i64 sk, .int .i64 sx, .int .i64 sy] 54)) := hb.alloc hb.size _
      have hbxw : Below w.heap.size w (wr.alloc (.cells #[.int .i64 sk, .int .i64 sx, .int .i64 sy] 54)) := hbw.alloc hbw.size _
      have sx0 : (wr.alloc (.cells #[.int .i64 sk, .int .i64 sx, .int .i64 sy] 54)).heap.size = wr.heap.size + 1 := by simp
      cases hok : stmtOk sk sx sy
      · rw [hok] at he
        have HF : Hid _ := HB.out (by simp [stmOk, hok])
        clear HS HB
        go_wp2_with (go_at_call 67; refine (he _).mono ?_; rintro e w2 ⟨rfl, b2⟩)
        go_ret
        exact ⟨by rw [HF.out]; rfl, hbxw.trans (b2.mono hbxw.size)⟩
      · rw [hok] at he
        by_cases h7 : sk = 7
        · subst h7
          have hwi := within sy ss.length
          rw [wi_ge (stmtOk_jump hok)] at hwi
          by_cases hy : (ss.length : Int) ≤ sy
          · have HF : Hid _ := HB.out (by simp [stmOk, hok, hy])
            have hd : decide ((ss.length : Int) ≤ sy) = true := by simp [hy]
            rw [hd] at hwi
            clear HS HB hd
            go_wp2_with fail
            go_at_call 67
            refine (he _).mono ?_
            rintro e w2 ⟨rfl, b2⟩
            obtain ⟨hcc, hff⟩ := bcell b2
            have q2 : wr.heap.size < w2.heap.size := by have := b2.size; omega
            go_wp2_with (go_at_call 31; refine (hwi _).mono ?_; rintro e w3 ⟨rfl, rfl⟩)
            go_ret
            exact ⟨by rw [HF.out]; rfl, hbxw.trans (b2.mono hbxw.size)⟩
          · have HF : Hid ((ss.take (k + 1)).all (stmOk ss.length) = true) := HS.out.trans (by simp [stmOk, hok, hy])
            have hd : decide ((ss.length : Int) ≤ sy) = false := by simp; omega
            rw [hd] at hwi
            clear HS HB hd
            go_wp2_with fail
            go_at_call 67
            refine (he _).mono ?_
            rintro e w2 ⟨rfl, b2⟩
            obtain ⟨hcc, hff⟩ := bcell b2
            have q2 : wr.heap.size < w2.heap.size := by have := b2.size; omega
            go_wp2_with (go_at_call 31; refine (hwi _).mono ?_; rintro e w3 ⟨rfl, rfl⟩)
            go_roundw
            case rel => exact ⟨k + 1, by omega, by go_num, hbx.trans (b2.mono hbx.size), HF.out⟩
            case measure => simp [intOf]; omega
        · have HF : Hid ((ss.take (k + 1)).all (stmOk ss.length) = true) := HS.out.trans (by simp [stmOk, hok, h7])
          clear HS HB
          go_wp2_with fail
          go_at_call 67
          refine (he _).mono ?_
          rintro e w2 ⟨rfl, b2⟩
          obtain ⟨hcc, hff⟩ := bcell b2
          have q2 : wr.heap.size < w2.heap.size := by have := b2.size; omega
          have h7' : (sk == 7) = false := by simpa using h7
          go_wp2
          go_roundw
          case rel => exact ⟨k + 1, by omega, by go_num, hbx.trans (b2.mono hbx.size), HF.out⟩
          case measure => simp [intOf]; omega
    · have hkk : k = ss.length := by omega
      subst hkk
      go_wp2
      go_ret
      have hal := HALL.out
      rw [List.take_length] at hal
      exact ⟨by rw [hal, Bool.true_and]; rfl, hbw⟩

end Go.Proofs.Ytciccbbgamklbaa
