/-
  spec.DrawStmtOk.
-/
import Derived.Test.YtmloeldgeegddaaDrawProgs2
namespace Go.Proofs.Ytmloeldgeegddaa
open Go.RowKit
set_option linter.unusedVariables false
set_option linter.unusedSimpArgs false
set_option maxHeartbeats 2000000
set_option maxRecDepth 20000
attribute [local go_sem ↓] Go.wp_at_zero Go.wp_at_succ

/-- What spec.DrawStmtOk has in hand: the statement in its box (Q), the box of what is answered, the cursor. -/
structure QB (w : World) (g : Nat) (bs : List Int) (Q : Nat) (s : Stm) (W : World) : Prop where
  box : W.heap[Q]? = some (stm3 s)
  res : W.heap[w.heap.size]? = some (stm3 ⟨0, 0, 0⟩)
  cur : Cur W g bs
  bel : Below w.heap.size w W

theorem QB.draw {w : World} {g : Nat} {bs : List Int} {Q : Nat} {s : Stm} {W W' : World} (h : QB w g bs Q s W) (lt1 : w.heap.size < g) (hQ : g < Q) (hc : Cur W' g bs) (hg : W.grownBy W' (some g)) : QB w g bs Q s W' :=
  ⟨blockGrown h.box hg (by omega), (hg.block w.heap.size (Array.getElem?_eq_some_iff.1 h.res).1 (by simp; omega)).trans h.res, hc, h.bel.grown hg h.bel.size (fun k e => by simp at e; omega)⟩

/-- What is answered. -/
theorem QB.ends {w : World} {g : Nat} {bs : List Int} {Q : Nat} {s : Stm} {W : World} (h : QB w g bs Q s W) (k x y : Value) (W' : World) (hW : (((W.setCell ⟨w.heap.size, 0, none⟩ k).setCell ⟨w.heap.size, 1, none⟩ x).setCell ⟨w.heap.size, 2, none⟩ y) = W') :
    Below w.heap.size w W' ∧ W'.heap[w.heap.size]? = some (.cells #[k, x, y] 37 (0, 0)) := by
  have s2 := set3_block h.res k x y
  have b2 := ((h.bel.setCell (p := ⟨w.heap.size, 0, none⟩) (Nat.le_refl _) k).setCell (p := ⟨w.heap.size, 1, none⟩) (Nat.le_refl _) x).setCell (p := ⟨w.heap.size, 2, none⟩) (Nat.le_refl _) y
  rw [hW] at s2 b2
  exact ⟨b2, s2⟩

theorem QB.put {w : World} {g : Nat} {bs : List Int} {Q : Nat} {s : Stm} {W : World} (h : QB w g bs Q s W) (lt1 : w.heap.size < g) (hQ : g < Q) (o : Nat) (v : Value) (s' : Stm) (hs : (W.setCell ⟨Q, o, none⟩ v).heap[Q]? = some (stm3 s')) : QB w g bs Q s' (W.setCell ⟨Q, o, none⟩ v) :=
  ⟨hs, by rw [heap_setCell_other W ⟨Q, o, none⟩ w.heap.size v (by simp; omega)]; exact h.res, curSet h.cur hQ _, h.bel.setCell (by simp; omega) _⟩

theorem drawStmtOk (bs : List Int) (v : Value) (w : World) (hl : bs.length ≤ 1048576) (hv : Reads w v (bs.map (Value.int .u8))) :
    Calls Try.prog 11 #[v] w fun e w' => ∃ k x y : Int, e = .returned (.agg #[.int .i64 k, .int .i64 x, .int .i64 y]) ∧ Below w.heap.size w w' := by
  have hb0 : Below w.heap.size w (w.alloc (.cells #[.int .i64 0, .int .i64 0, .int .i64 0] 37)) := by go_grown
  go_enter Try.func11, Try.ntmps11
  go_wp2_with fail
  go_at_call 44
  refine (l1New bs v _ hl (reads_below hv hb0)).mono ?_
  rintro e w1 ⟨g, rfl, hg, hc1, b1⟩
  have lt1 : w.heap.size < g := by have := hg; simp at this; omega
  have L1 : Below w.heap.size w w1 := hb0.trans (b1.mono hb0.size)
  have g1 := curLt hc1
  go_wp2_with fail
  go_at_call 50
  refine (l3DrawStmt g bs 12 4 (by omega) (by omega) w1 hl hc1).mono ?_
  rintro e w2 ⟨k, x, y, rfl, hc2, hg2⟩
  have R1 : w1.heap[w.heap.size]? = some (stm3 ⟨0, 0, 0⟩) := (b1.block _ (by simp)).trans (heap_alloc_new w _)
  have R2 := (hg2.block w.heap.size (by omega) (by simp; omega)).trans R1
  have L2 : Below w.heap.size w w2 := L1.grown hg2 L1.size (fun k e => by simp at e; omega)
  have hgQ : g < w2.heap.size := curLt hc2
  have D3 : Hid (QB w g bs w2.heap.size ⟨k, x, y⟩ (w2.alloc (stm3 ⟨k, x, y⟩))) := (⟨heap_alloc_new w2 _, (old_block (by omega)).trans R2, curAlloc hc2 _, L2.alloc L2.size _⟩ : QB _ _ _ _ _ _)
  clear R1 R2 L1 L2 hc2 hg2 hc1 b1
  go_wp2_with fail
  go_at_call 51
  refine (l1Once g bs 4 (by omega) _ hl D3.out.cur).mono ?_
  rintro e w3 ⟨b, rfl, hc3, hg3⟩
  have D4 : Hid _ := D3.out.draw lt1 hgQ hc3 hg3
  clear hc3 hg3 D3
  cases b
  · obtain ⟨a0, a1, a2⟩ := stmt_cells D4.out.box
    obtain ⟨d0, d1, d2⟩ := stmt_cells D4.out.res
    have fd0 := frozen0 D4.out.res 0
    have fd1 := frozen0 D4.out.res 1
    have fd2 := frozen0 D4.out.res 2
    go_wp2_with fail
    obtain ⟨W, hW⟩ : ∃ z, (((w3.setCell ⟨w.heap.size, 0, none⟩ (.int .i64 k)).setCell ⟨w.heap.size, 1, none⟩ (.int .i64 x)).setCell ⟨w.heap.size, 2, none⟩ (.int .i64 y)) = z := ⟨_, rfl⟩
    obtain ⟨q1, q2⟩ := D4.out.ends (.int .i64 k) (.int .i64 x) (.int .i64 y) W hW
    rw [hW]
    obtain ⟨e0, e1, e2⟩ := stmt_cells q2
    refine bodyPost_ret (v := .agg #[.int .i64 k, .int .i64 x, .int .i64 y]) (by simp [results, Try.results11, go_sem, e0, e1, e2]) rfl ?_
    exact ⟨k, x, y, rfl, q1⟩
  · go_wp2_with fail
    go_at_call 52
    refine (l1Below g bs 3 (by omega) _ hl D4.out.cur).mono ?_
    rintro e w4 ⟨zi, rfl, hz0, hz1, _, hc4, hg4⟩
    have D5 : Hid _ := D4.out.draw lt1 hgQ hc4 hg4
    have hzl := hz1 (by omega)
    clear hc4 hg4 D4 hz1
    have hcs : zi = 0 ∨ zi = 1 ∨ zi = 2 := by omega
    rcases hcs with rfl | rfl | rfl
    · have D6 : Hid (QB w g bs w2.heap.size ⟨k, x, y⟩ (w4.alloc (.cells #[.int .i64 0, .int .i64 10, .int .i64 (-1), .int .i64 4611686018427387904] 2))) := D5.out.draw lt1 hgQ (curAlloc D5.out.cur _) (World.grownBy_alloc w4 _ (some g))
      have HL := heap_alloc_new w4 (.cells #[.int .i64 0, .int .i64 10, .int .i64 (-1), .int .i64 4611686018427387904] 2)
      have hg4 := curLt D5.out.cur
      clear D5
      go_wp2_with fail
      go_at_call 52
      refine (l1Below g bs 4 (by omega) _ hl D6.out.cur).mono ?_
      rintro e w5 ⟨zj, rfl, hj0, hj1, _, hc5, hg5⟩
      have hjl := hj1 (by omega)
      have D7 : Hid _ := D6.out.draw lt1 hgQ hc5 hg5
      have H5 := blockGrown HL hg5 hg4
      clear hc5 hg5 D6 HL hj1
      obtain ⟨j, rfl⟩ : ∃ j : Nat, zj = j := ⟨zj.toNat, by omega⟩
      have hj : j < 4 := by omega
      obtain ⟨z, hz⟩ : ∃ z : Int, (#[.int .i64 0, .int .i64 10, .int .i64 (-1), .int .i64 4611686018427387904] : Array Value)[j]? = some (.int .i64 z) := by
        rcases (by omega : j = 0 ∨ j = 1 ∨ j = 2 ∨ j = 3) with rfl | rfl | rfl | rfl
        all_goals exact ⟨_, rfl⟩
      have cL : w5.cell? ⟨w4.heap.size, j, none⟩ = some (.int .i64 z) := by rw [cell_of_row _ _ j _ _ (0, 0) H5]; exact hz
      have hj' : (j : Int) < 4 := by omega
      have HB := heap_setCell_same w5 w2.heap.size 0 _ 37 (.int .i64 z) D7.out.box
      simp at HB
      have D8 : Hid (QB w g bs w2.heap.size ⟨z, x, y⟩ (w5.setCell ⟨w2.heap.size, 0, none⟩ (.int .i64 z))) := D7.out.put lt1 hgQ 0 (.int .i64 z) ⟨z, x, y⟩ HB
      obtain ⟨b0, b1, b2⟩ := stmt_cells D7.out.box
      have fb := frozen0 D7.out.box 0
      obtain ⟨a0, a1, a2⟩ := stmt_cells D8.out.box
      obtain ⟨d0, d1, d2⟩ := stmt_cells D8.out.res
      have fd0 := frozen0 D8.out.res 0
      have fd1 := frozen0 D8.out.res 1
      have fd2 := frozen0 D8.out.res 2
      obtain ⟨d0', d1', d2'⟩ := stmt_cells D7.out.res
      have fd0' := frozen0 D7.out.res 0
      have fd1' := frozen0 D7.out.res 1
      have fd2' := frozen0 D7.out.res 2
      have hQS : w2.heap.size ≠ w.heap.size := by omega
      clear HB hz H5 D7
      go_wp2
      obtain ⟨W, hW⟩ : ∃ q, ((((w5.setCell ⟨w2.heap.size, 0, none⟩ (.int .i64 z)).setCell ⟨w.heap.size, 0, none⟩ (.int .i64 z)).setCell ⟨w.heap.size, 1, none⟩ (.int .i64 x)).setCell ⟨w.heap.size, 2, none⟩ (.int .i64 y)) = q := ⟨_, rfl⟩
      obtain ⟨q1, q2⟩ := D8.out.ends (.int .i64 z) (.int .i64 x) (.int .i64 y) W hW
      rw [hW]
      obtain ⟨e0, e1, e2⟩ := stmt_cells q2
      refine bodyPost_ret (v := .agg #[.int .i64 z, .int .i64 x, .int .i64 y]) (by simp [results, Try.results11, go_sem, e0, e1, e2]) rfl ?_
      exact ⟨z, x, y, rfl, q1⟩
    · have D6 : Hid (QB w g bs w2.heap.size ⟨k, x, y⟩ (w4.alloc (.cells #[.int .i64 (-1), .int .i64 0, .int .i64 5, .int .i64 6] 2))) := D5.out.draw lt1 hgQ (curAlloc D5.out.cur _) (World.grownBy_alloc w4 _ (some g))
      have HL := heap_alloc_new w4 (.cells #[.int .i64 (-1), .int .i64 0, .int .i64 5, .int .i64 6] 2)
      have hg4 := curLt D5.out.cur
      clear D5
      go_wp2_with fail
      go_at_call 52
      refine (l1Below g bs 4 (by omega) _ hl D6.out.cur).mono ?_
      rintro e w5 ⟨zj, rfl, hj0, hj1, _, hc5, hg5⟩
      have hjl := hj1 (by omega)
      have D7 : Hid _ := D6.out.draw lt1 hgQ hc5 hg5
      have H5 := blockGrown HL hg5 hg4
      clear hc5 hg5 D6 HL hj1
      obtain ⟨j, rfl⟩ : ∃ j : Nat, zj = j := ⟨zj.toNat, by omega⟩
      have hj : j < 4 := by omega
      obtain ⟨z, hz⟩ : ∃ z : Int, (#[.int .i64 (-1), .int .i64 0, .int .i64 5, .int .i64 6] : Array Value)[j]? = some (.int .i64 z) := by
        rcases (by omega : j = 0 ∨ j = 1 ∨ j = 2 ∨ j = 3) with rfl | rfl | rfl | rfl
        all_goals exact ⟨_, rfl⟩
      have cL : w5.cell? ⟨w4.heap.size, j, none⟩ = some (.int .i64 z) := by rw [cell_of_row _ _ j _ _ (0, 0) H5]; exact hz
      have hj' : (j : Int) < 4 := by omega
      have HB := heap_setCell_same w5 w2.heap.size 1 _ 37 (.int .i64 z) D7.out.box
      simp at HB
      have D8 : Hid (QB w g bs w2.heap.size ⟨k, z, y⟩ (w5.setCell ⟨w2.heap.size, 1, none⟩ (.int .i64 z))) := D7.out.put lt1 hgQ 1 (.int .i64 z) ⟨k, z, y⟩ HB
      obtain ⟨b0, b1, b2⟩ := stmt_cells D7.out.box
      have fb := frozen0 D7.out.box 1
      obtain ⟨a0, a1, a2⟩ := stmt_cells D8.out.box
      obtain ⟨d0, d1, d2⟩ := stmt_cells D8.out.res
      have fd0 := frozen0 D8.out.res 0
      have fd1 := frozen0 D8.out.res 1
      have fd2 := frozen0 D8.out.res 2
      obtain ⟨d0', d1', d2'⟩ := stmt_cells D7.out.res
      have fd0' := frozen0 D7.out.res 0
      have fd1' := frozen0 D7.out.res 1
      have fd2' := frozen0 D7.out.res 2
      have hQS : w2.heap.size ≠ w.heap.size := by omega
      clear HB hz H5 D7
      go_wp2
      obtain ⟨W, hW⟩ : ∃ q, ((((w5.setCell ⟨w2.heap.size, 1, none⟩ (.int .i64 z)).setCell ⟨w.heap.size, 0, none⟩ (.int .i64 k)).setCell ⟨w.heap.size, 1, none⟩ (.int .i64 z)).setCell ⟨w.heap.size, 2, none⟩ (.int .i64 y)) = q := ⟨_, rfl⟩
      obtain ⟨q1, q2⟩ := D8.out.ends (.int .i64 k) (.int .i64 z) (.int .i64 y) W hW
      rw [hW]
      obtain ⟨e0, e1, e2⟩ := stmt_cells q2
      refine bodyPost_ret (v := .agg #[.int .i64 k, .int .i64 z, .int .i64 y]) (by simp [results, Try.results11, go_sem, e0, e1, e2]) rfl ?_
      exact ⟨k, z, y, rfl, q1⟩
    · have D6 : Hid (QB w g bs w2.heap.size ⟨k, x, y⟩ (w4.alloc (.cells #[.int .i64 (-1), .int .i64 3, .int .i64 4, .int .i64 5, .int .i64 6, .int .i64 11, .int .i64 12] 2))) := D5.out.draw lt1 hgQ (curAlloc D5.out.cur _) (World.grownBy_alloc w4 _ (some g))
      have HL := heap_alloc_new w4 (.cells #[.int .i64 (-1), .int .i64 3, .int .i64 4, .int .i64 5, .int .i64 6, .int .i64 11, .int .i64 12] 2)
      have hg4 := curLt D5.out.cur
      clear D5
      go_wp2_with fail
      go_at_call 52
      refine (l1Below g bs 7 (by omega) _ hl D6.out.cur).mono ?_
      rintro e w5 ⟨zj, rfl, hj0, hj1, _, hc5, hg5⟩
      have hjl := hj1 (by omega)
      have D7 : Hid _ := D6.out.draw lt1 hgQ hc5 hg5
      have H5 := blockGrown HL hg5 hg4
      clear hc5 hg5 D6 HL hj1
      obtain ⟨j, rfl⟩ : ∃ j : Nat, zj = j := ⟨zj.toNat, by omega⟩
      have hj : j < 7 := by omega
      obtain ⟨z, hz⟩ : ∃ z : Int, (#[.int .i64 (-1), .int .i64 3, .int .i64 4, .int .i64 5, .int .i64 6, .int .i64 11, .int .i64 12] : Array Value)[j]? = some (.int .i64 z) := by
        rcases (by omega : j = 0 ∨ j = 1 ∨ j = 2 ∨ j = 3 ∨ j = 4 ∨ j = 5 ∨ j = 6) with rfl | rfl | rfl | rfl | rfl | rfl | rfl
        all_goals exact ⟨_, rfl⟩
      have cL : w5.cell? ⟨w4.heap.size, j, none⟩ = some (.int .i64 z) := by rw [cell_of_row _ _ j _ _ (0, 0) H5]; exact hz
      have hj' : (j : Int) < 7 := by omega
      have HB := heap_setCell_same w5 w2.heap.size 2 _ 37 (.int .i64 z) D7.out.box
      simp at HB
      have D8 : Hid (QB w g bs w2.heap.size ⟨k, x, z⟩ (w5.setCell ⟨w2.heap.size, 2, none⟩ (.int .i64 z))) := D7.out.put lt1 hgQ 2 (.int .i64 z) ⟨k, x, z⟩ HB
      obtain ⟨b0, b1, b2⟩ := stmt_cells D7.out.box
      have fb := frozen0 D7.out.box 2
      obtain ⟨a0, a1, a2⟩ := stmt_cells D8.out.box
      obtain ⟨d0, d1, d2⟩ := stmt_cells D8.out.res
      have fd0 := frozen0 D8.out.res 0
      have fd1 := frozen0 D8.out.res 1
      have fd2 := frozen0 D8.out.res 2
      obtain ⟨d0', d1', d2'⟩ := stmt_cells D7.out.res
      have fd0' := frozen0 D7.out.res 0
      have fd1' := frozen0 D7.out.res 1
      have fd2' := frozen0 D7.out.res 2
      have hQS : w2.heap.size ≠ w.heap.size := by omega
      clear HB hz H5 D7
      go_wp2
      obtain ⟨W, hW⟩ : ∃ q, ((((w5.setCell ⟨w2.heap.size, 2, none⟩ (.int .i64 z)).setCell ⟨w.heap.size, 0, none⟩ (.int .i64 k)).setCell ⟨w.heap.size, 1, none⟩ (.int .i64 x)).setCell ⟨w.heap.size, 2, none⟩ (.int .i64 z)) = q := ⟨_, rfl⟩
      obtain ⟨q1, q2⟩ := D8.out.ends (.int .i64 k) (.int .i64 x) (.int .i64 z) W hW
      rw [hW]
      obtain ⟨e0, e1, e2⟩ := stmt_cells q2
      refine bodyPost_ret (v := .agg #[.int .i64 k, .int .i64 x, .int .i64 z]) (by simp [results, Try.results11, go_sem, e0, e1, e2]) rfl ?_
      exact ⟨k, x, z, rfl, q1⟩

end Go.Proofs.Ytmloeldgeegddaa
