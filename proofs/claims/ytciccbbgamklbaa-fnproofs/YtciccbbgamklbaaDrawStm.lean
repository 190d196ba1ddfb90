/-
  spec.l3DrawStmt: some statement; of what was there only the cursor turns.
-/
import Derived.Test.YtciccbbgamklbaaDrawKit
import Derived.Deep.Cut
namespace Go.Proofs.Ytciccbbgamklbaa
open Go.RowKit
set_option linter.unusedVariables false
set_option maxHeartbeats 1000000

theorem l3DrawStmt (g : Nat) (bs : List Int) (n procs : Int) (hn : n ≤ 4294967296) (hq : procs ≤ 4294967296) (w : World) (hl : bs.length ≤ 1048576) (hc : Cur w g bs) :
    Calls Try.prog 78 #[.pointer (some ⟨g, 0, none⟩), .int .i64 n, .int .i64 procs] w fun e w' =>
      ∃ k x y : Int, e = .returned (.agg #[.int .i64 k, .int .i64 x, .int .i64 y]) ∧ Cur w' g bs ∧ w.grownBy w' (some g) := by
  have hgw := curLt hc
  have hcA := curAlloc hc (.cells #[.int .i64 0, .int .i64 0, .int .i64 0] 54)
  have HA := heap_alloc_new w (.cells #[.int .i64 0, .int .i64 0, .int .i64 0] 54)
  have gA := World.grownBy_alloc w (.cells #[.int .i64 0, .int .i64 0, .int .i64 0] 54) (some g)
  go_enter Try.func78, Try.ntmps78
  go_wp2_with fail
  go_at_call 39
  refine (l1Below g bs 9 (by omega) _ hl hcA).mono ?_
  rintro e w1 ⟨z, rfl, hz0, hz1, _, hc1, hg1⟩
  have hz1 := hz1 (by omega)
  have R1 := blockGrown HA hg1 hgw
  have G1 := grown_trans gA hg1
  clear hcA HA gA hg1
  have hg1l := curLt hc1
  have z1 : w.heap.size < w1.heap.size := (Array.getElem?_eq_some_iff.1 R1).1
  have hc2 := curAlloc hc1 (.cells #[.int .i64 (1 + z), .int .i64 0, .int .i64 0] 54)
  have X2 := heap_alloc_new w1 (.cells #[.int .i64 (1 + z), .int .i64 0, .int .i64 0] 54)
  have R2 := (old_block (o := .cells #[.int .i64 (1 + z), .int .i64 0, .int .i64 0] 54) z1).trans R1
  have G2 := grownAlloc G1 (.cells #[.int .i64 (1 + z), .int .i64 0, .int .i64 0] 54)
  clear R1 hc1
  have fin : True := trivial
  obtain ⟨S, hS⟩ : ∃ S, w1.heap.size = S := ⟨_, rfl⟩
  have hgS : g < S := by omega
  have hwS : w.heap.size < S := by omega
  have hk : z = 0 ∨ z = 1 ∨ z = 2 ∨ z = 3 ∨ z = 4 ∨ z = 5 ∨ z = 6 ∨ z = 7 ∨ z = 8 := by omega
  clear fin
  rcases hk with rfl | rfl | rfl | rfl | rfl | rfl | rfl | rfl | rfl
  · simp only [Int.add_zero] at hc2 X2 R2 G2
    rw [hS] at X2
    have XV := X2
    have RV := R2
    have hcV := hc2
    have GV := G2
    clear X2 R2 hc2 G2
    go_upto_region 18 with fail
    generalize (w1.alloc (.cells #[.int .i64 1, .int .i64 0, .int .i64 0] 54)) = V at *
    obtain ⟨c0, c1, c2, f0, f1, f2⟩ := threeCells XV
    obtain ⟨e0, e1, e2, i0, i1, i2⟩ := threeCells RV
    have T := threeSet RV (.int .i64 1) (.int .i64 0) (.int .i64 0)
    obtain ⟨d0, d1, d2, _⟩ := threeCells T
    clear XV RV T
    go_wp2
    refine bodyPost_ret (v := .agg #[(.int .i64 1), (.int .i64 0), (.int .i64 0)]) (by simp [results, Try.results78, go_sem, d0, d1, d2]) rfl ?_
    exact ⟨_, _, _, rfl, curSet (curSet (curSet hcV hgw _) hgw _) hgw _, grownSet (grownSet (grownSet GV (Nat.le_refl _) _) (Nat.le_refl _) _) (Nat.le_refl _) _⟩
  · simp only [Int.reduceAdd] at hc2 X2 R2 G2
    rw [hS] at X2
    have XV := X2
    have RV := R2
    have hcV := hc2
    have GV := G2
    clear X2 R2 hc2 G2
    go_wp2_with fail
    go_at_call 39
    refine (l1Below g bs 6 (by omega) _ hl hcV).mono ?_
    rintro e w3 ⟨x, rfl, _, _, _, hcN, hgN⟩
    have XN := blockGrown XV hgN hgS
    have RN := blockGrown RV hgN hgw
    have GN := grown_trans GV hgN
    clear XV RV hcV GV hgN
    obtain ⟨c0, c1, c2, f0, f1, f2⟩ := threeCells XN
    have XV : (w3.setCell ⟨S, 1, none⟩ (.int .i64 x)).heap[S]? = some (.cells #[.int .i64 2, .int .i64 x, .int .i64 0] 54 (0, 0)) := by
      have := heap_setCell_same w3 S 1 _ 54 (.int .i64 x) XN
      simpa using this
    have RV : (w3.setCell ⟨S, 1, none⟩ (.int .i64 x)).heap[w.heap.size]? = _ := (Below.heap_setCell w3 ⟨S, 1, none⟩ (.int .i64 x) _ (by simp; omega)).trans RN
    have hcV : Cur (w3.setCell ⟨S, 1, none⟩ (.int .i64 x)) g bs := curSet hcN hgS _
    have GV : w.grownBy (w3.setCell ⟨S, 1, none⟩ (.int .i64 x)) (some g) := grownSet GN (by omega) _
    clear XN RN hcN GN
    go_wp2_with fail
    go_at_call 39
    refine (l1Below g bs 6 (by omega) _ hl hcV).mono ?_
    rintro e w4 ⟨y, rfl, _, _, _, hcN, hgN⟩
    have XN := blockGrown XV hgN hgS
    have RN := blockGrown RV hgN hgw
    have GN := grown_trans GV hgN
    clear XV RV hcV GV hgN
    clear c0 c1 c2 f0 f1 f2
    obtain ⟨c0, c1, c2, f0, f1, f2⟩ := threeCells XN
    have XV : (w4.setCell ⟨S, 2, none⟩ (.int .i64 y)).heap[S]? = some (.cells #[.int .i64 2, .int .i64 x, .int .i64 y] 54 (0, 0)) := by
      have := heap_setCell_same w4 S 2 _ 54 (.int .i64 y) XN
      simpa using this
    have RV : (w4.setCell ⟨S, 2, none⟩ (.int .i64 y)).heap[w.heap.size]? = _ := (Below.heap_setCell w4 ⟨S, 2, none⟩ (.int .i64 y) _ (by simp; omega)).trans RN
    have hcV : Cur (w4.setCell ⟨S, 2, none⟩ (.int .i64 y)) g bs := curSet hcN hgS _
    have GV : w.grownBy (w4.setCell ⟨S, 2, none⟩ (.int .i64 y)) (some g) := grownSet GN (by omega) _
    clear XN RN hcN GN
    go_upto_region 18 with fail
    clear c0 c1 c2 f0 f1 f2
    generalize (w4.setCell ⟨S, 2, none⟩ (.int .i64 y)) = V at *
    obtain ⟨c0, c1, c2, f0, f1, f2⟩ := threeCells XV
    obtain ⟨e0, e1, e2, i0, i1, i2⟩ := threeCells RV
    have T := threeSet RV (.int .i64 2) (.int .i64 x) (.int .i64 y)
    obtain ⟨d0, d1, d2, _⟩ := threeCells T
    clear XV RV T
    go_wp2
    refine bodyPost_ret (v := .agg #[(.int .i64 2), (.int .i64 x), (.int .i64 y)]) (by simp [results, Try.results78, go_sem, d0, d1, d2]) rfl ?_
    exact ⟨_, _, _, rfl, curSet (curSet (curSet hcV hgw _) hgw _) hgw _, grownSet (grownSet (grownSet GV (Nat.le_refl _) _) (Nat.le_refl _) _) (Nat.le_refl _) _⟩
  · simp only [Int.reduceAdd] at hc2 X2 R2 G2
    rw [hS] at X2
    have XV := X2
    have RV := R2
    have hcV := hc2
    have GV := G2
    clear X2 R2 hc2 G2
    go_wp2_with fail
    go_at_call 39
    refine (l1Below g bs 6 (by omega) _ hl hcV).mono ?_
    rintro e w3 ⟨x, rfl, _, _, _, hcN, hgN⟩
    have XN := blockGrown XV hgN hgS
    have RN := blockGrown RV hgN hgw
    have GN := grown_trans GV hgN
    clear XV RV hcV GV hgN
    obtain ⟨c0, c1, c2, f0, f1, f2⟩ := threeCells XN
    have XV : (w3.setCell ⟨S, 1, none⟩ (.int .i64 x)).heap[S]? = some (.cells #[.int .i64 3, .int .i64 x, .int .i64 0] 54 (0, 0)) := by
      have := heap_setCell_same w3 S 1 _ 54 (.int .i64 x) XN
      simpa using this
    have RV : (w3.setCell ⟨S, 1, none⟩ (.int .i64 x)).heap[w.heap.size]? = _ := (Below.heap_setCell w3 ⟨S, 1, none⟩ (.int .i64 x) _ (by simp; omega)).trans RN
    have hcV : Cur (w3.setCell ⟨S, 1, none⟩ (.int .i64 x)) g bs := curSet hcN hgS _
    have GV : w.grownBy (w3.setCell ⟨S, 1, none⟩ (.int .i64 x)) (some g) := grownSet GN (by omega) _
    clear XN RN hcN GN
    go_wp2_with fail
    go_at_call 39
    refine (l1Below g bs 6 (by omega) _ hl hcV).mono ?_
    rintro e w4 ⟨y, rfl, _, _, _, hcN, hgN⟩
    have XN := blockGrown XV hgN hgS
    have RN := blockGrown RV hgN hgw
    have GN := grown_trans GV hgN
    clear XV RV hcV GV hgN
    clear c0 c1 c2 f0 f1 f2
    obtain ⟨c0, c1, c2, f0, f1, f2⟩ := threeCells XN
    have XV : (w4.setCell ⟨S, 2, none⟩ (.int .i64 y)).heap[S]? = some (.cells #[.int .i64 3, .int .i64 x, .int .i64 y] 54 (0, 0)) := by
      have := heap_setCell_same w4 S 2 _ 54 (.int .i64 y) XN
      simpa using this
    have RV : (w4.setCell ⟨S, 2, none⟩ (.int .i64 y)).heap[w.heap.size]? = _ := (Below.heap_setCell w4 ⟨S, 2, none⟩ (.int .i64 y) _ (by simp; omega)).trans RN
    have hcV : Cur (w4.setCell ⟨S, 2, none⟩ (.int .i64 y)) g bs := curSet hcN hgS _
    have GV : w.grownBy (w4.setCell ⟨S, 2, none⟩ (.int .i64 y)) (some g) := grownSet GN (by omega) _
    clear XN RN hcN GN
    go_upto_region 18 with fail
    clear c0 c1 c2 f0 f1 f2
    generalize (w4.setCell ⟨S, 2, none⟩ (.int .i64 y)) = V at *
    obtain ⟨c0, c1, c2, f0, f1, f2⟩ := threeCells XV
    obtain ⟨e0, e1, e2, i0, i1, i2⟩ := threeCells RV
    have T := threeSet RV (.int .i64 3) (.int .i64 x) (.int .i64 y)
    obtain ⟨d0, d1, d2, _⟩ := threeCells T
    clear XV RV T
    go_wp2
    refine bodyPost_ret (v := .agg #[(.int .i64 3), (.int .i64 x), (.int .i64 y)]) (by simp [results, Try.results78, go_sem, d0, d1, d2]) rfl ?_
    exact ⟨_, _, _, rfl, curSet (curSet (curSet hcV hgw _) hgw _) hgw _, grownSet (grownSet (grownSet GV (Nat.le_refl _) _) (Nat.le_refl _) _) (Nat.le_refl _) _⟩
  · simp only [Int.reduceAdd] at hc2 X2 R2 G2
    rw [hS] at X2
    have XV := X2
    have RV := R2
    have hcV := hc2
    have GV := G2
    clear X2 R2 hc2 G2
    go_wp2_with fail
    go_at_call 39
    refine (l1Below g bs 6 (by omega) _ hl hcV).mono ?_
    rintro e w3 ⟨x, rfl, _, _, _, hcN, hgN⟩
    have XN := blockGrown XV hgN hgS
    have RN := blockGrown RV hgN hgw
    have GN := grown_trans GV hgN
    clear XV RV hcV GV hgN
    obtain ⟨c0, c1, c2, f0, f1, f2⟩ := threeCells XN
    have XV : (w3.setCell ⟨S, 1, none⟩ (.int .i64 x)).heap[S]? = some (.cells #[.int .i64 4, .int .i64 x, .int .i64 0] 54 (0, 0)) := by
      have := heap_setCell_same w3 S 1 _ 54 (.int .i64 x) XN
      simpa using this
    have RV : (w3.setCell ⟨S, 1, none⟩ (.int .i64 x)).heap[w.heap.size]? = _ := (Below.heap_setCell w3 ⟨S, 1, none⟩ (.int .i64 x) _ (by simp; omega)).trans RN
    have hcV : Cur (w3.setCell ⟨S, 1, none⟩ (.int .i64 x)) g bs := curSet hcN hgS _
    have GV : w.grownBy (w3.setCell ⟨S, 1, none⟩ (.int .i64 x)) (some g) := grownSet GN (by omega) _
    clear XN RN hcN GN
    go_upto_region 18 with fail
    clear c0 c1 c2 f0 f1 f2
    generalize (w3.setCell ⟨S, 1, none⟩ (.int .i64 x)) = V at *
    obtain ⟨c0, c1, c2, f0, f1, f2⟩ := threeCells XV
    obtain ⟨e0, e1, e2, i0, i1, i2⟩ := threeCells RV
    have T := threeSet RV (.int .i64 4) (.int .i64 x) (.int .i64 0)
    obtain ⟨d0, d1, d2, _⟩ := threeCells T
    clear XV RV T
    go_wp2
    refine bodyPost_ret (v := .agg #[(.int .i64 4), (.int .i64 x), (.int .i64 0)]) (by simp [results, Try.results78, go_sem, d0, d1, d2]) rfl ?_
    exact ⟨_, _, _, rfl, curSet (curSet (curSet hcV hgw _) hgw _) hgw _, grownSet (grownSet (grownSet GV (Nat.le_refl _) _) (Nat.le_refl _) _) (Nat.le_refl _) _⟩
  · simp only [Int.reduceAdd] at hc2 X2 R2 G2
    rw [hS] at X2
    have XV := X2
    have RV := R2
    have hcV := hc2
    have GV := G2
    clear X2 R2 hc2 G2
    go_wp2_with fail
    go_at_call 39
    refine (l1Below g bs 6 (by omega) _ hl hcV).mono ?_
    rintro e w3 ⟨x, rfl, _, _, _, hcN, hgN⟩
    have XN := blockGrown XV hgN hgS
    have RN := blockGrown RV hgN hgw
    have GN := grown_trans GV hgN
    clear XV RV hcV GV hgN
    obtain ⟨c0, c1, c2, f0, f1, f2⟩ := threeCells XN
    have XV : (w3.setCell ⟨S, 1, none⟩ (.int .i64 x)).heap[S]? = some (.cells #[.int .i64 5, .int .i64 x, .int .i64 0] 54 (0, 0)) := by
      have := heap_setCell_same w3 S 1 _ 54 (.int .i64 x) XN
      simpa using this
    have RV : (w3.setCell ⟨S, 1, none⟩ (.int .i64 x)).heap[w.heap.size]? = _ := (Below.heap_setCell w3 ⟨S, 1, none⟩ (.int .i64 x) _ (by simp; omega)).trans RN
    have hcV : Cur (w3.setCell ⟨S, 1, none⟩ (.int .i64 x)) g bs := curSet hcN hgS _
    have GV : w.grownBy (w3.setCell ⟨S, 1, none⟩ (.int .i64 x)) (some g) := grownSet GN (by omega) _
    clear XN RN hcN GN
    go_upto_region 18 with fail
    clear c0 c1 c2 f0 f1 f2
    generalize (w3.setCell ⟨S, 1, none⟩ (.int .i64 x)) = V at *
    obtain ⟨c0, c1, c2, f0, f1, f2⟩ := threeCells XV
    obtain ⟨e0, e1, e2, i0, i1, i2⟩ := threeCells RV
    have T := threeSet RV (.int .i64 5) (.int .i64 x) (.int .i64 0)
    obtain ⟨d0, d1, d2, _⟩ := threeCells T
    clear XV RV T
    go_wp2
    refine bodyPost_ret (v := .agg #[(.int .i64 5), (.int .i64 x), (.int .i64 0)]) (by simp [results, Try.results78, go_sem, d0, d1, d2]) rfl ?_
    exact ⟨_, _, _, rfl, curSet (curSet (curSet hcV hgw _) hgw _) hgw _, grownSet (grownSet (grownSet GV (Nat.le_refl _) _) (Nat.le_refl _) _) (Nat.le_refl _) _⟩
  · simp only [Int.reduceAdd] at hc2 X2 R2 G2
    rw [hS] at X2
    have XV := X2
    have RV := R2
    have hcV := hc2
    have GV := G2
    clear X2 R2 hc2 G2
    go_wp2_with fail
    go_at_call 39
    refine (l1Below g bs 6 (by omega) _ hl hcV).mono ?_
    rintro e w3 ⟨x, rfl, _, _, _, hcN, hgN⟩
    have XN := blockGrown XV hgN hgS
    have RN := blockGrown RV hgN hgw
    have GN := grown_trans GV hgN
    clear XV RV hcV GV hgN
    obtain ⟨c0, c1, c2, f0, f1, f2⟩ := threeCells XN
    have XV : (w3.setCell ⟨S, 1, none⟩ (.int .i64 x)).heap[S]? = some (.cells #[.int .i64 6, .int .i64 x, .int .i64 0] 54 (0, 0)) := by
      have := heap_setCell_same w3 S 1 _ 54 (.int .i64 x) XN
      simpa using this
    have RV : (w3.setCell ⟨S, 1, none⟩ (.int .i64 x)).heap[w.heap.size]? = _ := (Below.heap_setCell w3 ⟨S, 1, none⟩ (.int .i64 x) _ (by simp; omega)).trans RN
    have hcV : Cur (w3.setCell ⟨S, 1, none⟩ (.int .i64 x)) g bs := curSet hcN hgS _
    have GV : w.grownBy (w3.setCell ⟨S, 1, none⟩ (.int .i64 x)) (some g) := grownSet GN (by omega) _
    clear XN RN hcN GN
    go_upto_region 18 with fail
    clear c0 c1 c2 f0 f1 f2
    generalize (w3.setCell ⟨S, 1, none⟩ (.int .i64 x)) = V at *
    obtain ⟨c0, c1, c2, f0, f1, f2⟩ := threeCells XV
    obtain ⟨e0, e1, e2, i0, i1, i2⟩ := threeCells RV
    have T := threeSet RV (.int .i64 6) (.int .i64 x) (.int .i64 0)
    obtain ⟨d0, d1, d2, _⟩ := threeCells T
    clear XV RV T
    go_wp2
    refine bodyPost_ret (v := .agg #[(.int .i64 6), (.int .i64 x), (.int .i64 0)]) (by simp [results, Try.results78, go_sem, d0, d1, d2]) rfl ?_
    exact ⟨_, _, _, rfl, curSet (curSet (curSet hcV hgw _) hgw _) hgw _, grownSet (grownSet (grownSet GV (Nat.le_refl _) _) (Nat.le_refl _) _) (Nat.le_refl _) _⟩
  · simp only [Int.reduceAdd] at hc2 X2 R2 G2
    rw [hS] at X2
    have XV := X2
    have RV := R2
    have hcV := hc2
    have GV := G2
    clear X2 R2 hc2 G2
    go_wp2_with fail
    go_at_call 39
    refine (l1Below g bs n (by omega) _ hl hcV).mono ?_
    rintro e w3 ⟨x, rfl, _, _, _, hcN, hgN⟩
    have XN := blockGrown XV hgN hgS
    have RN := blockGrown RV hgN hgw
    have GN := grown_trans GV hgN
    clear XV RV hcV GV hgN
    obtain ⟨c0, c1, c2, f0, f1, f2⟩ := threeCells XN
    have XV : (w3.setCell ⟨S, 2, none⟩ (.int .i64 x)).heap[S]? = some (.cells #[.int .i64 7, .int .i64 0, .int .i64 x] 54 (0, 0)) := by
      have := heap_setCell_same w3 S 2 _ 54 (.int .i64 x) XN
      simpa using this
    have RV : (w3.setCell ⟨S, 2, none⟩ (.int .i64 x)).heap[w.heap.size]? = _ := (Below.heap_setCell w3 ⟨S, 2, none⟩ (.int .i64 x) _ (by simp; omega)).trans RN
    have hcV : Cur (w3.setCell ⟨S, 2, none⟩ (.int .i64 x)) g bs := curSet hcN hgS _
    have GV : w.grownBy (w3.setCell ⟨S, 2, none⟩ (.int .i64 x)) (some g) := grownSet GN (by omega) _
    clear XN RN hcN GN
    go_upto_region 18 with fail
    clear c0 c1 c2 f0 f1 f2
    generalize (w3.setCell ⟨S, 2, none⟩ (.int .i64 x)) = V at *
    obtain ⟨c0, c1, c2, f0, f1, f2⟩ := threeCells XV
    obtain ⟨e0, e1, e2, i0, i1, i2⟩ := threeCells RV
    have T := threeSet RV (.int .i64 7) (.int .i64 0) (.int .i64 x)
    obtain ⟨d0, d1, d2, _⟩ := threeCells T
    clear XV RV T
    go_wp2
    refine bodyPost_ret (v := .agg #[(.int .i64 7), (.int .i64 0), (.int .i64 x)]) (by simp [results, Try.results78, go_sem, d0, d1, d2]) rfl ?_
    exact ⟨_, _, _, rfl, curSet (curSet (curSet hcV hgw _) hgw _) hgw _, grownSet (grownSet (grownSet GV (Nat.le_refl _) _) (Nat.le_refl _) _) (Nat.le_refl _) _⟩
  · simp only [Int.reduceAdd] at hc2 X2 R2 G2
    rw [hS] at X2
    have XV := X2
    have RV := R2
    have hcV := hc2
    have GV := G2
    clear X2 R2 hc2 G2
    go_wp2_with fail
    go_at_call 39
    refine (l1Below g bs procs (by omega) _ hl hcV).mono ?_
    rintro e w3 ⟨x, rfl, _, _, _, hcN, hgN⟩
    have XN := blockGrown XV hgN hgS
    have RN := blockGrown RV hgN hgw
    have GN := grown_trans GV hgN
    clear XV RV hcV GV hgN
    obtain ⟨c0, c1, c2, f0, f1, f2⟩ := threeCells XN
    have XV : (w3.setCell ⟨S, 2, none⟩ (.int .i64 x)).heap[S]? = some (.cells #[.int .i64 8, .int .i64 0, .int .i64 x] 54 (0, 0)) := by
      have := heap_setCell_same w3 S 2 _ 54 (.int .i64 x) XN
      simpa using this
    have RV : (w3.setCell ⟨S, 2, none⟩ (.int .i64 x)).heap[w.heap.size]? = _ := (Below.heap_setCell w3 ⟨S, 2, none⟩ (.int .i64 x) _ (by simp; omega)).trans RN
    have hcV : Cur (w3.setCell ⟨S, 2, none⟩ (.int .i64 x)) g bs := curSet hcN hgS _
    have GV : w.grownBy (w3.setCell ⟨S, 2, none⟩ (.int .i64 x)) (some g) := grownSet GN (by omega) _
    clear XN RN hcN GN
    go_upto_region 18 with fail
    clear c0 c1 c2 f0 f1 f2
    generalize (w3.setCell ⟨S, 2, none⟩ (.int .i64 x)) = V at *
    obtain ⟨c0, c1, c2, f0, f1, f2⟩ := threeCells XV
    obtain ⟨e0, e1, e2, i0, i1, i2⟩ := threeCells RV
    have T := threeSet RV (.int .i64 8) (.int .i64 0) (.int .i64 x)
    obtain ⟨d0, d1, d2, _⟩ := threeCells T
    clear XV RV T
    go_wp2
    refine bodyPost_ret (v := .agg #[(.int .i64 8), (.int .i64 0), (.int .i64 x)]) (by simp [results, Try.results78, go_sem, d0, d1, d2]) rfl ?_
    exact ⟨_, _, _, rfl, curSet (curSet (curSet hcV hgw _) hgw _) hgw _, grownSet (grownSet (grownSet GV (Nat.le_refl _) _) (Nat.le_refl _) _) (Nat.le_refl _) _⟩
  · simp only [Int.reduceAdd] at hc2 X2 R2 G2
    rw [hS] at X2
    have XV := X2
    have RV := R2
    have hcV := hc2
    have GV := G2
    clear X2 R2 hc2 G2
    go_wp2_with fail
    go_at_call 60
    refine (l1Once g bs 4 (by omega) _ hl hcV).mono ?_
    rintro e w3 ⟨b, rfl, hcN, hgN⟩
    have XN := blockGrown XV hgN hgS
    have RN := blockGrown RV hgN hgw
    have GN := grown_trans GV hgN
    clear XV RV hcV GV hgN
    cases b
    · obtain ⟨c0, c1, c2, f0, f1, f2⟩ := threeCells XN
      have XV : (w3.setCell ⟨S, 0, none⟩ (.int .i64 1)).heap[S]? = some (.cells #[.int .i64 1, .int .i64 0, .int .i64 0] 54 (0, 0)) := by
        have := heap_setCell_same w3 S 0 _ 54 (.int .i64 1) XN
        simpa using this
      have RV : (w3.setCell ⟨S, 0, none⟩ (.int .i64 1)).heap[w.heap.size]? = _ := (Below.heap_setCell w3 ⟨S, 0, none⟩ (.int .i64 1) _ (by simp; omega)).trans RN
      have hcV : Cur (w3.setCell ⟨S, 0, none⟩ (.int .i64 1)) g bs := curSet hcN hgS _
      have GV : w.grownBy (w3.setCell ⟨S, 0, none⟩ (.int .i64 1)) (some g) := grownSet GN (by omega) _
      clear XN RN hcN GN
      go_upto_region 18 with fail
      clear c0 c1 c2 f0 f1 f2
      generalize (w3.setCell ⟨S, 0, none⟩ (.int .i64 1)) = V at *
      obtain ⟨c0, c1, c2, f0, f1, f2⟩ := threeCells XV
      obtain ⟨e0, e1, e2, i0, i1, i2⟩ := threeCells RV
      have T := threeSet RV (.int .i64 1) (.int .i64 0) (.int .i64 0)
      obtain ⟨d0, d1, d2, _⟩ := threeCells T
      clear XV RV T
      go_wp2
      refine bodyPost_ret (v := .agg #[(.int .i64 1), (.int .i64 0), (.int .i64 0)]) (by simp [results, Try.results78, go_sem, d0, d1, d2]) rfl ?_
      exact ⟨_, _, _, rfl, curSet (curSet (curSet hcV hgw _) hgw _) hgw _, grownSet (grownSet (grownSet GV (Nat.le_refl _) _) (Nat.le_refl _) _) (Nat.le_refl _) _⟩
    · have XV := XN
      have RV := RN
      have hcV := hcN
      have GV := GN
      clear XN RN hcN GN
      go_upto_region 18 with fail
      generalize w3 = V at *
      obtain ⟨c0, c1, c2, f0, f1, f2⟩ := threeCells XV
      obtain ⟨e0, e1, e2, i0, i1, i2⟩ := threeCells RV
      have T := threeSet RV (.int .i64 9) (.int .i64 0) (.int .i64 0)
      obtain ⟨d0, d1, d2, _⟩ := threeCells T
      clear XV RV T
      go_wp2
      refine bodyPost_ret (v := .agg #[(.int .i64 9), (.int .i64 0), (.int .i64 0)]) (by simp [results, Try.results78, go_sem, d0, d1, d2]) rfl ?_
      exact ⟨_, _, _, rfl, curSet (curSet (curSet hcV hgw _) hgw _) hgw _, grownSet (grownSet (grownSet GV (Nat.le_refl _) _) (Nat.le_refl _) _) (Nat.le_refl _) _⟩

end Go.Proofs.Ytciccbbgamklbaa
