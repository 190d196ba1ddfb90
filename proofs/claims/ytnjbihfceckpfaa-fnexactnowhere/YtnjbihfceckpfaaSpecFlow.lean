/-
  Chapter 7, the specification's side: Start, Leave, Keep, Enter, Flow.
-/
import Derived.Test.YtnjbihfceckpfaaFlowImpl
import Derived.BigRegion
namespace Go.Proofs.Ytnjbihfceckpfaa
open Go.RowKit
set_option linter.unusedVariables false
set_option maxHeartbeats 2000000
set_option maxRecDepth 4000

theorem specStart (c : Int) (w : World) : Calls Try.prog 68 #[.int .i64 c] w fun e w' => e = .returned (.int .i64 (startAns c)) ∧ Below w.heap.size w w' := by
  by_cases h1 : c = 1
  · subst h1
    go_enter Try.func68, Try.ntmps68
    go_wp2
    go_ret
    exact ⟨rfl, Below.refl _ _⟩
  · by_cases h2 : c = 2
    · subst h2
      go_enter Try.func68, Try.ntmps68
      go_wp2
      go_ret
      exact ⟨rfl, Below.refl _ _⟩
    · go_enter Try.func68, Try.ntmps68
      go_wp2
      go_ret
      exact ⟨by simp [startAns, h1, h2], Below.refl _ _⟩

theorem specLeave (w : World) : Calls Try.prog 131 #[] w fun e w' => ∃ a, e = .returned a ∧ w'.ownsRow w.heap.size 2 1 a leaveL.length (ints leaveL) ∧ Below w.heap.size w w' := by
  go_enter Try.func131, Try.ntmps131
  go_wp2
  go_ret
  refine ⟨_, rfl, ?_, by go_grown⟩
  exact World.ownsRow_lit (base := w.heap.size) (e := 2) (size := 1) w #[.int .i64 1, .int .i64 2, .int .i64 4, .int .i64 8, .int .i64 0, .int .i64 0, .int .i64 0] 7 (Nat.le_refl _) (by decide) (by simp)

theorem specKeep (w : World) : Calls Try.prog 132 #[] w fun e w' => ∃ a, e = .returned a ∧ w'.ownsRow w.heap.size 2 1 a keepL.length (ints keepL) ∧ Below w.heap.size w w' := by
  go_enter Try.func132, Try.ntmps132
  go_wp2
  go_ret
  refine ⟨_, rfl, ?_, by go_grown⟩
  exact World.ownsRow_lit (base := w.heap.size) (e := 2) (size := 1) w #[.int .i64 1, .int .i64 0, .int .i64 0, .int .i64 0, .int .i64 16, .int .i64 32, .int .i64 64] 7 (Nat.le_refl _) (by decide) (by simp)

theorem specEnter (c : Int) (w : World) : Calls Try.prog 71 #[.int .i64 c] w fun e w' => ∃ a, e = .returned a ∧ w'.ownsRow w.heap.size 2 1 a (enterAns c).length (ints (enterAns c)) ∧ Below w.heap.size w w' := by
  by_cases h1 : c = 1
  · subst h1
    go_enter Try.func71, Try.ntmps71
    go_wp2
    go_ret
    refine ⟨_, rfl, ?_, by go_grown⟩
    exact World.ownsRow_lit (base := w.heap.size) (e := 2) (size := 1) w #[.int .i64 1, .int .i64 2, .int .i64 4, .int .i64 8, .int .i64 0, .int .i64 0, .int .i64 0] 7 (Nat.le_refl _) (by decide) (by simp)
  · by_cases h2 : c = 2
    · subst h2
      go_enter Try.func71, Try.ntmps71
      go_wp2
      go_ret
      refine ⟨_, rfl, ?_, by go_grown⟩
      exact World.ownsRow_lit (base := w.heap.size) (e := 2) (size := 1) w #[.int .i64 113, .int .i64 2, .int .i64 4, .int .i64 8, .int .i64 0, .int .i64 0, .int .i64 0] 7 (Nat.le_refl _) (by decide) (by simp)
    · have e : enterAns c = [] := by simp [enterAns, h1, h2]
      rw [e]
      go_enter Try.func71, Try.ntmps71
      go_wp2
      go_ret
      exact ⟨_, rfl, made0 w, by go_grown⟩

/-- The block B holds these seven numbers. -/
abbrev IntAt (w : World) (B : Nat) (xs : List Int) : Prop := w.heap[B]? = some (.cells (ints xs).toArray 2 (0, 0))

theorem IntAt.cell {w : World} {B : Nat} {xs : List Int} (h : IntAt w B xs) (j : Nat) (hj : j < xs.length) : w.cell? ⟨B, j, none⟩ = some (.int .i64 (xs.getD j 0)) ∧ w.frozen? ⟨B, j, none⟩ = false := by
  refine ⟨?_, frozen_of_row w B j _ _ h⟩
  rw [cell_of_row w B j _ _ (0, 0) h]
  simp [ints, List.getD, hj]

theorem IntAt.set {w : World} {B : Nat} {xs : List Int} (h : IntAt w B xs) (j : Nat) (x : Int) : IntAt (w.setCell ⟨B, j, none⟩ (.int .i64 x)) B (xs.set j x) := by
  have := heap_setCell_same w B j _ _ (.int .i64 x) h
  show (w.setCell ⟨B, j, none⟩ (.int .i64 x)).heap[B]? = _
  rw [this]
  simp [ints, List.map_set]

theorem IntAt.lt {w : World} {B : Nat} {xs : List Int} (h : IntAt w B xs) : B < w.heap.size := (Array.getElem?_eq_some_iff.1 h).1

theorem IntAt.own {w : World} {B : Nat} {xs : List Int} (h : IntAt w B xs) {base : Nat} (hb : base ≤ B) (hl : xs.length = 7) : w.ownsRow base 2 1 (.slice (some ⟨B, 0, none⟩) 7 7) 7 (ints xs) :=
  ⟨by simp [ints, hl], .inr ⟨B, 7, (ints xs).toArray, rfl, hb, h, by omega, by unfold maxLen; omega, by simp [ints, hl], by rw [List.toList_toArray, Nat.mul_one]; exact List.take_of_length_le (by simp [ints, hl])⟩⟩

theorem specUnitAt (w : World) : Calls Try.prog 97 #[] w fun e w' => e = .returned (.slice (some ⟨w.heap.size, 0, none⟩) 7 7) ∧ IntAt w' w.heap.size unitL ∧ Below w.heap.size w w' := by
  go_enter Try.func97, Try.ntmps97
  go_wp2
  go_ret
  exact ⟨rfl, heap_alloc_new w _, by go_grown⟩

theorem l7Client (c : Int) (w : World) : Calls Try.prog 40 #[.int .i64 c] w fun e w' => e = .returned (.bool (decide (c = 1 ∨ c = 2))) ∧ w = w' := by
  have h : inB c 1 2 = decide (c = 1 ∨ c = 2) := by
    rw [Bool.eq_iff_iff]; simp [inB]; omega
  rw [← h]
  clear h
  go_enter Try.func40, Try.ntmps40
  go_wp2_with (go_at_call 51; refine (l1In _ _ _ _).mono ?_; rintro e w' ⟨rfl, rfl⟩)
  go_ret
  exact ⟨rfl, rfl⟩

theorem l7Without (x : Nat) (hx : x < 6) (w : World) : Calls Try.prog 148 #[.int .i64 (x : Int)] w fun e w' => e = .returned (.slice (some ⟨w.heap.size, 0, none⟩) 7 7) ∧ IntAt w' w.heap.size (unitL.set (x + 1) 0) ∧ Below w.heap.size w w' := by
  have hun := fun W => specUnitAt W
  generalize hus : unitL = us at *
  have hu7 : us.length = 7 := by rw [← hus]; rfl
  clear hus
  have hx' : (x : Int) + 1 < 7 := by omega
  go_enter Try.func148, Try.ntmps148
  go_wp2_with fail
  go_at_call 97
  refine (hun _).mono ?_
  rintro e w1 ⟨rfl, i1, b1⟩
  obtain ⟨c0, f0⟩ := i1.cell (x + 1) (by omega)
  have H1 : Hid (IntAt w1 w.heap.size us) := i1
  clear i1 hun
  go_wp2
  go_ret
  exact ⟨rfl, by simpa using H1.out.set (x + 1) 0, b1.setCell (Nat.le_refl _) _⟩

theorem flow2_same (x : Nat) (hx : x < 6) : mkL unitL (factN x) (factN x) = unitL := by
  have hc : x = 0 ∨ x = 1 ∨ x = 2 ∨ x = 3 ∨ x = 4 ∨ x = 5 := by omega
  rcases hc with rfl | rfl | rfl | rfl | rfl | rfl <;> first | decide | kernel_rfl

theorem flow2_set (x y : Nat) (hx : x < 6) (hy : y < 6) (hn : ¬ x = y) : (unitL.set (x + 1) 0).set (y + 1) (bits .or .i64 ((unitL.set (x + 1) 0).getD (y + 1) 0) (2 * 2 ^ x)) = mkL unitL (factN x) (factN y) := by
  have hc : x = 0 ∨ x = 1 ∨ x = 2 ∨ x = 3 ∨ x = 4 ∨ x = 5 := by omega
  have hd : y = 0 ∨ y = 1 ∨ y = 2 ∨ y = 3 ∨ y = 4 ∨ y = 5 := by omega
  rcases hc with rfl | rfl | rfl | rfl | rfl | rfl <;> rcases hd with rfl | rfl | rfl | rfl | rfl | rfl <;> first | exact absurd rfl hn | decide

theorem wrap_bit (x : Nat) (hx : x < 6) : wrap64 (2 * 2 ^ x) = 2 * 2 ^ x := by
  unfold wrap64
  have hc : x = 0 ∨ x = 1 ∨ x = 2 ∨ x = 3 ∨ x = 4 ∨ x = 5 := by omega
  rcases hc with rfl | rfl | rfl | rfl | rfl | rfl <;> decide

theorem l7Flow2 (c : Int) (x y : Nat) (hx : x < 6) (hy : y < 6) (w : World) :
    Calls Try.prog 133 #[.int .i64 c, .agg #[.int .i64 2, .int .i64 (x : Int), .int .i64 (y : Int)]] w fun e w' => ∃ B, e = .returned (.slice (some ⟨B, 0, none⟩) 7 7) ∧ w.heap.size ≤ B ∧ IntAt w' B (mkL unitL (factN x) (factN y)) ∧ Below w.heap.size w w' := by
  have hun := fun W => specUnitAt W
  have hwi := fun W => l7Without x hx W
  have hwr := wrap_bit x hx
  have hy1 : IntKind.i64.wrap ((y : Int) + 1) = (y : Int) + 1 := IntWalk.i64_in _ (by omega)
  have hy2 : (0 : Int) ≤ (y : Int) + 1 := by omega
  have hy3 : ((y : Int) + 1).toNat = y + 1 := by omega
  have hy' : (y : Int) + 1 < 7 := by omega
  go_enter Try.func133, Try.ntmps133
  go_wp2_with fail
  go_at_call 97
  refine (hun _).mono ?_
  rintro e w1 ⟨rfl, i1, b1⟩
  obtain ⟨L1, q1⟩ := flow_pre b1
  obtain ⟨g0, g1, g2⟩ := stmt_cells q1
  have hlt : w.heap.size < w1.heap.size := (Array.getElem?_eq_some_iff.1 q1).1
  have Q1 : Hid _ := q1
  clear q1 b1 hun
  by_cases hxy : (x : Int) = (y : Int)
  · have e := flow2_same x hx
    obtain rfl : x = y := by omega
    rw [← e] at i1
    have I1 : Hid _ := i1
    clear e i1
    go_wp2
    go_ret
    exact ⟨_, rfl, by simp, by simpa using I1.out, L1⟩
  · have hzs := flow2_set x y hx hy (fun e => hxy (by omega))
    have h7 : (unitL.set (x + 1) 0).length = 7 := by simp [unitL]
    generalize unitL.set (x + 1) 0 = vs at *
    have HZ : Hid _ := hzs
    clear hzs i1
    go_wp2_with fail
    go_at_call 148
    refine (hwi _).mono ?_
    rintro e w2 ⟨rfl, i2, b2⟩
    obtain ⟨k0, k1, k2⟩ := stmt_cells ((b2.block _ hlt).trans Q1.out)
    obtain ⟨c0, f0⟩ := i2.cell (y + 1) (by omega)
    have I2 : Hid (IntAt w2 w1.heap.size vs) := i2
    have L2 := L1.trans (b2.mono L1.size)
    clear g0 g1 g2 i2 hwi b2 Q1
    go_wp2_with fail
    go_region
    go_wp2
    go_ret
    exact ⟨w1.heap.size, rfl, by omega, by rw [← HZ.out]; exact I2.out.set (y + 1) _, Below.drew (Below.setCell L2 (by show w.heap.size ≤ w1.heap.size; omega) _)⟩

theorem flow3_set (x y : Nat) (hx : x < 6) (hy : y < 6) : unitL.set (y + 1) (bits .or .i64 (unitL.getD (y + 1) 0) (2 * 2 ^ x)) = mkL unitL (factN x) (lor (factN x) (factN y)) := by
  have hc : x = 0 ∨ x = 1 ∨ x = 2 ∨ x = 3 ∨ x = 4 ∨ x = 5 := by omega
  have hd : y = 0 ∨ y = 1 ∨ y = 2 ∨ y = 3 ∨ y = 4 ∨ y = 5 := by omega
  rcases hc with rfl | rfl | rfl | rfl | rfl | rfl <;> rcases hd with rfl | rfl | rfl | rfl | rfl | rfl <;> decide

theorem l7Flow3 (c : Int) (x y : Nat) (hx : x < 6) (hy : y < 6) (w : World) :
    Calls Try.prog 133 #[.int .i64 c, .agg #[.int .i64 3, .int .i64 (x : Int), .int .i64 (y : Int)]] w fun e w' => ∃ B, e = .returned (.slice (some ⟨B, 0, none⟩) 7 7) ∧ w.heap.size ≤ B ∧ IntAt w' B (mkL unitL (factN x) (lor (factN x) (factN y))) ∧ Below w.heap.size w w' := by
  have hun := fun W => specUnitAt W
  have hwr := wrap_bit x hx
  have hy1 : IntKind.i64.wrap ((y : Int) + 1) = (y : Int) + 1 := IntWalk.i64_in _ (by omega)
  have hy2 : (0 : Int) ≤ (y : Int) + 1 := by omega
  have hy3 : ((y : Int) + 1).toNat = y + 1 := by omega
  have hy' : (y : Int) + 1 < 7 := by omega
  have hzs := flow3_set x y hx hy
  obtain ⟨us, hus⟩ : ∃ us, us = unitL := ⟨_, rfl⟩
  have HZ : Hid (us.set (y + 1) (bits .or .i64 (us.getD (y + 1) 0) (2 * 2 ^ x)) = mkL unitL (factN x) (lor (factN x) (factN y))) := by rw [hus]; exact hzs
  have h7 : us.length = 7 := by rw [hus]; rfl
  rw [← hus] at hun
  clear hzs hus
  go_enter Try.func133, Try.ntmps133
  go_wp2_with fail
  go_at_call 97
  refine (hun _).mono ?_
  rintro e w1 ⟨rfl, i1, b1⟩
  obtain ⟨L1, q1⟩ := flow_pre b1
  obtain ⟨g0, g1, g2⟩ := stmt_cells q1
  have hlt : w.heap.size < w1.heap.size := (Array.getElem?_eq_some_iff.1 q1).1
  clear q1 b1 hun
  obtain ⟨c0, f0⟩ := i1.cell (y + 1) (by omega)
  have I1 : Hid _ := i1
  simp only [World.size_alloc] at c0 f0
  clear i1
  go_wp2_with fail
  go_region
  go_wp2
  go_ret
  exact ⟨w.heap.size + 1, rfl, by omega, by rw [← HZ.out]; exact IntAt.set (by simpa using I1.out) (y + 1) _, Below.drew (Below.setCell L1 (by show w.heap.size ≤ w.heap.size + 1; omega) _)⟩

theorem flow4_set (x : Nat) (hx : x < 6) : unitL.set (x + 1) 0 = mkL unitL (factN x) 0 := by
  have hc : x = 0 ∨ x = 1 ∨ x = 2 ∨ x = 3 ∨ x = 4 ∨ x = 5 := by omega
  rcases hc with rfl | rfl | rfl | rfl | rfl | rfl <;> decide

theorem flow5_set (x : Nat) (hx : x < 6) : (unitL.set (x + 1) 0).set 0 (bits .or .i64 ((unitL.set (x + 1) 0).getD 0 0) (2 * 2 ^ x)) = mkL unitL (factN x) 1 := by
  have hc : x = 0 ∨ x = 1 ∨ x = 2 ∨ x = 3 ∨ x = 4 ∨ x = 5 := by omega
  rcases hc with rfl | rfl | rfl | rfl | rfl | rfl <;> decide

theorem l7Flow4 (c : Int) (x : Nat) (y : Int) (hx : x < 6) (w : World) :
    Calls Try.prog 133 #[.int .i64 c, .agg #[.int .i64 4, .int .i64 (x : Int), .int .i64 y]] w fun e w' => ∃ B, e = .returned (.slice (some ⟨B, 0, none⟩) 7 7) ∧ w.heap.size ≤ B ∧ IntAt w' B (mkL unitL (factN x) 0) ∧ Below w.heap.size w w' := by
  have hun := fun W => specUnitAt W
  have hwi := fun W => l7Without x hx W
  have hwr := wrap_bit x hx
  rw [flow4_set x hx] at hwi
  go_enter Try.func133, Try.ntmps133
  go_wp2_with fail
  go_at_call 97
  refine (hun _).mono ?_
  rintro e w1 ⟨rfl, i1, b1⟩
  obtain ⟨L1, q1⟩ := flow_pre b1
  obtain ⟨g0, g1, g2⟩ := stmt_cells q1
  have hlt : w.heap.size < w1.heap.size := (Array.getElem?_eq_some_iff.1 q1).1
  clear q1 b1 hun i1
  go_wp2_with fail
  go_at_call 148
  refine (hwi _).mono ?_
  rintro e w2 ⟨rfl, i2, b2⟩
  have I2 : Hid _ := i2
  have L2 := L1.trans (b2.mono L1.size)
  clear g0 g1 g2 i2 hwi b2
  go_wp2
  go_ret
  exact ⟨w1.heap.size, rfl, by omega, I2.out, L2⟩

theorem l7Flow5a (x : Nat) (y : Int) (hx : x < 6) (w : World) :
    Calls Try.prog 133 #[.int .i64 1, .agg #[.int .i64 5, .int .i64 (x : Int), .int .i64 y]] w fun e w' => ∃ B, e = .returned (.slice (some ⟨B, 0, none⟩) 7 7) ∧ w.heap.size ≤ B ∧ IntAt w' B (mkL unitL (factN x) 1) ∧ Below w.heap.size w w' := by
  have hun := fun W => specUnitAt W
  have hwi := fun W => l7Without x hx W
  have hwr := wrap_bit x hx
  have hzs := flow5_set x hx
  have h7 : (unitL.set (x + 1) 0).length = 7 := by simp [unitL]
  have hv0 : (unitL.set (x + 1) 0).getD 0 0 = 1 := rfl
  rw [hv0] at hzs
  generalize unitL.set (x + 1) 0 = vs at hwi hzs h7 hv0
  have HZ : Hid _ := hzs
  clear hzs
  go_enter Try.func133, Try.ntmps133
  go_wp2_with fail
  go_at_call 97
  refine (hun _).mono ?_
  rintro e w1 ⟨rfl, i1, b1⟩
  obtain ⟨L1, q1⟩ := flow_pre b1
  obtain ⟨g0, g1, g2⟩ := stmt_cells q1
  have hlt : w.heap.size < w1.heap.size := (Array.getElem?_eq_some_iff.1 q1).1
  clear q1 b1 hun i1
  go_wp2_with fail
  go_at_call 148
  refine (hwi _).mono ?_
  rintro e w2 ⟨rfl, i2, b2⟩
  obtain ⟨c0, f0⟩ := i2.cell 0 (by omega)
  rw [hv0] at c0
  have I2 : Hid (IntAt w2 w1.heap.size vs) := i2
  have L2 := L1.trans (b2.mono L1.size)
  clear g0 g1 g2 i2 hwi b2
  go_wp2
  go_ret
  exact ⟨w1.heap.size, rfl, by omega, by rw [← HZ.out]; exact I2.out.set 0 _, Below.setCell L2 (by show w.heap.size ≤ w1.heap.size; omega) _⟩

theorem l7Flow5b (x : Nat) (y : Int) (hx : x < 6) (w : World) :
    Calls Try.prog 133 #[.int .i64 2, .agg #[.int .i64 5, .int .i64 (x : Int), .int .i64 y]] w fun e w' => ∃ B, e = .returned (.slice (some ⟨B, 0, none⟩) 7 7) ∧ w.heap.size ≤ B ∧ IntAt w' B (mkL unitL (factN x) 0) ∧ Below w.heap.size w w' := by
  have hun := fun W => specUnitAt W
  have hwi := fun W => l7Without x hx W
  have hwr := wrap_bit x hx
  rw [flow4_set x hx] at hwi
  go_enter Try.func133, Try.ntmps133
  go_wp2_with fail
  go_at_call 97
  refine (hun _).mono ?_
  rintro e w1 ⟨rfl, i1, b1⟩
  obtain ⟨L1, q1⟩ := flow_pre b1
  obtain ⟨g0, g1, g2⟩ := stmt_cells q1
  have hlt : w.heap.size < w1.heap.size := (Array.getElem?_eq_some_iff.1 q1).1
  clear q1 b1 hun i1
  go_wp2_with fail
  go_at_call 148
  refine (hwi _).mono ?_
  rintro e w2 ⟨rfl, i2, b2⟩
  have I2 : Hid _ := i2
  have L2 := L1.trans (b2.mono L1.size)
  clear g0 g1 g2 i2 hwi b2
  go_wp2
  go_ret
  exact ⟨w1.heap.size, rfl, by omega, I2.out, L2⟩

theorem l7FlowElse (c k : Int) (x : Nat) (y : Int) (hx : x < 6) (h2 : ¬ k = 2) (h3 : ¬ k = 3) (h4 : ¬ k = 4) (h5 : ¬ k = 5) (w : World) :
    Calls Try.prog 133 #[.int .i64 c, .agg #[.int .i64 k, .int .i64 (x : Int), .int .i64 y]] w fun e w' => ∃ B, e = .returned (.slice (some ⟨B, 0, none⟩) 7 7) ∧ w.heap.size ≤ B ∧ IntAt w' B unitL ∧ Below w.heap.size w w' := by
  have hun := fun W => specUnitAt W
  have hwr := wrap_bit x hx
  go_enter Try.func133, Try.ntmps133
  go_wp2_with fail
  go_at_call 97
  refine (hun _).mono ?_
  rintro e w1 ⟨rfl, i1, b1⟩
  obtain ⟨L1, q1⟩ := flow_pre b1
  obtain ⟨g0, g1, g2⟩ := stmt_cells q1
  have hlt : w.heap.size < w1.heap.size := (Array.getElem?_eq_some_iff.1 q1).1
  have I1 : Hid _ := i1
  clear q1 b1 hun i1
  go_wp2
  go_ret
  exact ⟨w.heap.size + 1, rfl, by omega, by simpa using I1.out, L1⟩

theorem stmtOk_x6 {k x y : Int} (h : stmtOk k x y = true) : ∃ i : Nat, x = i ∧ i < 6 := by
  have h1 : inB x 0 5 = true := by
    rcases kinds k with rfl | rfl | rfl | rfl | rfl | rfl | rfl | rfl | rfl | ⟨h1, h2, h3, h4, h5, h6, h7, h8, h9⟩
    all_goals simp [stmtOk, *] at h
    all_goals simp [inB] at h ⊢
    all_goals omega
  obtain ⟨i, rfl, hi⟩ := inB_nat h1
  exact ⟨i, rfl, by omega⟩

theorem l7Flow (c k x y : Int) (hc : c = 1 ∨ c = 2) (h : stmtOk k x y = true) (w : World) :
    Calls Try.prog 133 #[.int .i64 c, .agg #[.int .i64 k, .int .i64 x, .int .i64 y]] w fun e w' => ∃ B, e = .returned (.slice (some ⟨B, 0, none⟩) 7 7) ∧ w.heap.size ≤ B ∧ IntAt w' B (flowL c k x y) ∧ Below w.heap.size w w' := by
  by_cases h2 : k = 2
  · subst h2
    obtain ⟨i, j, rfl, rfl, hi, hj⟩ := stmtOk_xy h (.inl rfl)
    exact l7Flow2 c i j hi hj w
  · by_cases h3 : k = 3
    · subst h3
      obtain ⟨i, j, rfl, rfl, hi, hj⟩ := stmtOk_xy h (.inr rfl)
      exact l7Flow3 c i j hi hj w
    · by_cases h4 : k = 4
      · subst h4
        obtain ⟨i, rfl, hi⟩ := stmtOk_x h (.inl rfl)
        exact l7Flow4 c i y hi w
      · by_cases h5 : k = 5
        · subst h5
          obtain ⟨i, rfl, hi⟩ := stmtOk_x h (.inr rfl)
          rcases hc with rfl | rfl
          · exact l7Flow5a i y hi w
          · exact l7Flow5b i y hi w
        · have e : flowL c k x y = unitL := by simp [flowL, h2, h3, h4, h5]
          rw [e]
          obtain ⟨i, rfl, hi⟩ := stmtOk_x6 h
          exact l7FlowElse c k i y hi h2 h3 h4 h5 w

end Go.Proofs.Ytnjbihfceckpfaa
