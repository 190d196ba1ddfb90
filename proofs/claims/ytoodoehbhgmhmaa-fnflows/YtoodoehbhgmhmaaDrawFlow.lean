/-
  spec.l7DrawClient, DrawFlow, DrawEnter: clients and statements that are drawn.
-/
import Derived.Test.YtoodoehbhgmhmaaDrawStm
import Derived.Test.YtoodoehbhgmhmaaIntLaws
import Derived.Test.YtoodoehbhgmhmaaSpecFlow
namespace Go.Proofs.Ytoodoehbhgmhmaa
open Go.RowKit
set_option linter.unusedVariables false
set_option maxHeartbeats 2000000

theorem belowSet {base : Nat} {w0 w : World} (h : Below base w0 w) (b o : Nat) (v : Value) (hb : base ≤ b) : Below base w0 (w.setCell ⟨b, o, none⟩ v) := h.setCell hb v

theorem l7DrawClient (g : Nat) (bs : List Int) (w : World) (hl : bs.length ≤ 1048576) (hc : Cur w g bs) :
    Calls Try.prog 22 #[.pointer (some ⟨g, 0, none⟩)] w fun e w' => ∃ x : Int, e = .returned (.int .i64 x) ∧ Cur w' g bs ∧ w.grownBy w' (some g) := by
  go_enter Try.func22, Try.ntmps22
  go_wp2_with fail
  go_at_call 24
  refine (l1Once g bs 14 (by omega) w hl hc).mono ?_
  rintro e w1 ⟨b, rfl, hc1, g1⟩
  cases b
  · go_wp2_with fail
    go_at_call 36
    refine (l1Below g bs 2 (by omega) w1 hl hc1).mono ?_
    rintro e w2 ⟨x, rfl, hx0, hx1, _, hc2, g2⟩
    have hx2 : x < 2 := hx1 (by omega)
    go_wp2
    go_ret
    exact ⟨_, rfl, hc2, grown_trans g1 g2⟩
  · have hcA := curAlloc hc1 (.cells #[.int .i64 0, .int .i64 3, .int .i64 (-1)] 2)
    have HA := heap_alloc_new w1 (.cells #[.int .i64 0, .int .i64 3, .int .i64 (-1)] 2)
    have gA := World.grownBy_alloc w1 (.cells #[.int .i64 0, .int .i64 3, .int .i64 (-1)] 2) (some g)
    have hgl := curLt hc1
    go_wp2_with fail
    go_at_call 36
    refine (l1Below g bs 3 (by omega) _ hl hcA).mono ?_
    rintro e w2 ⟨x, rfl, hx0, hx1, _, hc2, g2⟩
    have hx2 : x < 3 := hx1 (by omega)
    have H2 := blockGrown HA g2 hgl
    obtain ⟨c0, c1, c2⟩ := stmt_cells H2
    have hcs : x = 0 ∨ x = 1 ∨ x = 2 := by omega
    clear HA hcA
    rcases hcs with rfl | rfl | rfl
    all_goals
      go_wp2
      go_ret
      exact ⟨_, rfl, hc2, grown_trans g1 (grown_trans gA g2)⟩

theorem drawEnter (bs : List Int) (v : Value) (w : World) (hl : bs.length ≤ 1048576) (hv : Reads w v (bs.map (Value.int .u8))) :
    Calls Try.prog 7 #[v] w fun e w' => ∃ n : Int, e = .returned (.int .i64 n) ∧ Below w.heap.size w w' := by
  go_enter Try.func7, Try.ntmps7
  go_wp2_with fail
  go_at_call 21
  refine (l1New bs v w hl hv).mono ?_
  rintro e w1 ⟨g, rfl, hg, hc1, b1⟩
  go_wp2_with fail
  go_at_call 22
  refine (l7DrawClient g bs w1 hl hc1).mono ?_
  rintro e w2 ⟨n, rfl, hc2, g2⟩
  have L2 : Below w.heap.size w w2 := b1.grown g2 b1.size (fun k hk => by simp at hk; omega)
  go_wp2
  go_ret
  exact ⟨_, rfl, L2⟩

theorem drawFlow (bs : List Int) (v : Value) (w : World) (hl : bs.length ≤ 1048576) (hv : Reads w v (bs.map (Value.int .u8))) :
    Calls Try.prog 5 #[v] w fun e w' => ∃ n k x y : Int, e = .returned (.tuple #[.int .i64 n, .agg #[.int .i64 k, .int .i64 x, .int .i64 y]]) ∧ Below w.heap.size w w' := by
  go_enter Try.func5, Try.ntmps5
  go_wp2_with fail
  go_at_call 21
  refine (l1New bs v _ hl (reads_below hv (by go_grown))).mono ?_
  rintro e w1 ⟨g, rfl, hg, hc1, b1⟩
  go_wp2_with fail
  go_at_call 22
  refine (l7DrawClient g bs w1 hl hc1).mono ?_
  rintro e w2 ⟨n, rfl, hc2, g2⟩
  go_wp2_with fail
  go_at_call 23
  refine (l3DrawStmt g bs 12 4 (by omega) (by omega) w2 hl hc2).mono ?_
  rintro e w3 ⟨k, x, y, rfl, hc3, g3⟩
  have hlt1 : w.heap.size < g := by simp only [World.size_alloc] at hg; omega
  have hgl := curLt hc3
  have a0 : Below w.heap.size w (w.alloc (.cells #[.int .i64 0, .int .i64 0, .int .i64 0] 25)) := by go_grown
  have R1 := (b1.block w.heap.size (by simp)).trans (heap_alloc_new w (.cells #[.int .i64 0, .int .i64 0, .int .i64 0] 25))
  have hs1 := b1.size
  simp only [World.size_alloc] at hs1
  have R2 := (g2.block w.heap.size (by omega) (by simp; omega)).trans R1
  have hs2 := g2.size
  have R3 := (g3.block w.heap.size (by omega) (by simp; omega)).trans R2
  have hs3 := g3.size
  have L1 := a0.trans (b1.mono a0.size)
  have L2 := L1.grown g2 L1.size (fun k hk => by simp at hk; omega)
  have L3 := L2.grown g3 L2.size (fun k hk => by simp at hk; omega)
  have hcA := curAlloc hc3 (.cells #[.int .i64 k, .int .i64 x, .int .i64 y] 25)
  have HA := heap_alloc_new w3 (.cells #[.int .i64 k, .int .i64 x, .int .i64 y] 25)
  have RA := (old_block (o := .cells #[.int .i64 k, .int .i64 x, .int .i64 y] 25) (by omega)).trans R3
  have LA := L3.alloc (by omega) (.cells #[.int .i64 k, .int .i64 x, .int .i64 y] 25)
  clear R1 R2 R3 L1 L2 L3 a0 b1 g2 g3 hc1 hc2 hc3
  go_wp2_with fail
  go_at_call 24
  refine (l1Once g bs 14 (by omega) _ hl hcA).mono ?_
  rintro e w4 ⟨b, rfl, hc4, g4⟩
  have H4 := blockGrown HA g4 hgl
  have R4 := (g4.block w.heap.size (by simp; omega) (by simp; omega)).trans RA
  have L4 := LA.grown g4 LA.size (fun k hk => by simp at hk; omega)
  have hs4 := g4.size
  simp only [World.size_alloc] at hs4
  clear HA RA LA hcA g4
  cases b
  · obtain ⟨c0, c1, c2⟩ := stmt_cells H4
    obtain ⟨d0, d1, d2⟩ := stmt_cells R4
    have f0 := frozen_of_row w4 w.heap.size 0 _ _ R4
    have f1 := frozen_of_row w4 w.heap.size 1 _ _ R4
    have f2 := frozen_of_row w4 w.heap.size 2 _ _ R4
    have hne : w.heap.size ≠ w3.heap.size := by omega
    go_wp2
    go_region
    go_wp2
    have R6 := threeSet R4 (.int .i64 k) (.int .i64 x) (.int .i64 y)
    have L6 := Below.drew (belowSet (belowSet (belowSet L4 w.heap.size 0 (.int .i64 k) (Nat.le_refl _)) w.heap.size 1 (.int .i64 x) (Nat.le_refl _)) w.heap.size 2 (.int .i64 y) (Nat.le_refl _))
    generalize (((w4.setCell ⟨w.heap.size, 0, none⟩ (.int .i64 k)).setCell ⟨w.heap.size, 1, none⟩ (.int .i64 x)).setCell ⟨w.heap.size, 2, none⟩ (.int .i64 y)) = w6 at *
    clear c0 c1 c2 d0 d1 d2 f0 f1 f2
    obtain ⟨c0, c1, c2⟩ := stmt_cells R6
    refine bodyPost_ret (v := .tuple #[.int .i64 n, .agg #[.int .i64 k, .int .i64 x, .int .i64 y]]) (by simp [results, Try.results5, go_sem, c0, c1, c2]) rfl ?_
    exact ⟨n, k, x, y, rfl, L6⟩
  · obtain ⟨c0, c1, c2⟩ := stmt_cells H4
    go_wp2_with fail
    go_at_call 25
    refine (l1From g bs 0 11 (by omega) (by omega) (by omega) w4 hl hc4).mono ?_
    rintro e w5 ⟨k', rfl, _, _, hc5, g5⟩
    have H5 := blockGrown H4 g5 hgl
    have R5 := (g5.block w.heap.size (by omega) (by simp; omega)).trans R4
    have L5 := L4.grown g5 L4.size (fun k hk => by simp at hk; omega)
    have hs5 := g5.size
    clear H4 R4 L4 hc4 g5 c0 c1 c2
    obtain ⟨c0, c1, c2⟩ := stmt_cells H5
    have q0 := frozen_of_row w5 w3.heap.size 0 _ _ H5
    have q1 := frozen_of_row w5 w3.heap.size 1 _ _ H5
    have q2 := frozen_of_row w5 w3.heap.size 2 _ _ H5
    obtain ⟨d0, d1, d2⟩ := stmt_cells R5
    have f0 := frozen_of_row w5 w.heap.size 0 _ _ R5
    have f1 := frozen_of_row w5 w.heap.size 1 _ _ R5
    have f2 := frozen_of_row w5 w.heap.size 2 _ _ R5
    have hne : w.heap.size ≠ w3.heap.size := by omega
    go_wp2
    go_region
    go_wp2
    have R6 := threeSet ((Below.heap_setCell w5 ⟨w3.heap.size, 0, none⟩ (.int .i64 k') w.heap.size hne).trans R5) (.int .i64 k') (.int .i64 x) (.int .i64 y)
    have L6 := Below.drew (belowSet (belowSet (belowSet (belowSet L5 w3.heap.size 0 (.int .i64 k') (by omega)) w.heap.size 0 (.int .i64 k') (Nat.le_refl _)) w.heap.size 1 (.int .i64 x) (Nat.le_refl _)) w.heap.size 2 (.int .i64 y) (Nat.le_refl _))
    generalize ((((w5.setCell ⟨w3.heap.size, 0, none⟩ (.int .i64 k')).setCell ⟨w.heap.size, 0, none⟩ (.int .i64 k')).setCell ⟨w.heap.size, 1, none⟩ (.int .i64 x)).setCell ⟨w.heap.size, 2, none⟩ (.int .i64 y)) = w6 at *
    clear c0 c1 c2 d0 d1 d2 f0 f1 f2 q0 q1 q2
    obtain ⟨c0, c1, c2⟩ := stmt_cells R6
    refine bodyPost_ret (v := .tuple #[.int .i64 n, .agg #[.int .i64 k', .int .i64 x, .int .i64 y]]) (by simp [results, Try.results5, go_sem, c0, c1, c2]) rfl ?_
    exact ⟨n, k', x, y, rfl, L6⟩

end Go.Proofs.Ytoodoehbhgmhmaa
