/-
  spec.DrawProcOk, DrawStmtOk, DrawEffect.
-/
import Derived.Test.YtgandekciocalaaDrawProgs
import Derived.BigRegion
namespace Go.Proofs.Ytgandekciocalaa
open Go.RowKit
set_option linter.unusedVariables false
set_option linter.unusedSimpArgs false
set_option maxHeartbeats 2000000
set_option maxRecDepth 20000
attribute [local go_sem ↓] Go.wp_at_zero Go.wp_at_succ

theorem SlOk.kept {w : World} {base b n : Nat} {x v : Value} (h : SlOk w base x n) (hb : b < base) : SlOk (w.setCell ⟨b, 0, none⟩ v) b x n := by
  rcases h with h | ⟨g, o, cap, m, e, hg, hs, hle⟩
  · exact .inl h
  · exact .inr ⟨g, o, cap, m, e, by omega, hs.same (heap_setCell_other w ⟨b, 0, none⟩ g v (by simp; omega)), hle⟩

theorem l1MaxB (a b : Int) (w : World) : Calls Try.prog 50 #[.int .i64 a, .int .i64 b] w fun e w' => (∃ x : Int, e = .returned (.int .i64 x) ∧ (x = a ∨ x = b)) ∧ w = w' := by
  by_cases h : b < a
  · go_enter Try.func50, Try.ntmps50
    go_wp2
    go_ret
    exact ⟨⟨_, rfl, .inl rfl⟩, rfl⟩
  · go_enter Try.func50, Try.ntmps50
    go_wp2
    go_ret
    exact ⟨⟨_, rfl, .inr rfl⟩, rfl⟩

/-- What spec.DrawEffect has in hand: the Program, the boxes of what is answered, the cursor. -/
structure EB (w : World) (g : Nat) (bs : List Int) (P : Nat) (u : Value) (L : List Nat) (W : World) : Prop where
  box : W.heap[P]? = some (.cells #[u] 26 (0, 0))
  pr : PrOk W (g + 1) u L
  rp : W.heap[w.heap.size]? = some (.cells #[.slice none 0 0] 26 (0, 0))
  rs : W.heap[w.heap.size + 1]? = some (stm3 ⟨0, 0, 0⟩)
  cur : Cur W g bs
  bel : Below w.heap.size w W

theorem EB.begin {w w1 w2 : World} {g : Nat} {bs : List Int} {u : Value} {L : List Nat} (lt1 : w.heap.size + 1 < g) (g1 : g < w1.heap.size) (R1 : w1.heap[w.heap.size]? = some (.cells #[.slice none 0 0] 26 (0, 0))) (S1 : w1.heap[w.heap.size + 1]? = some (stm3 ⟨0, 0, 0⟩)) (L1 : Below w.heap.size w w1)
    (pr2 : PrOk w2 w1.heap.size u L) (hc2 : Cur w2 g bs) (hg2 : w1.grownBy w2 (some g)) : EB w g bs w2.heap.size u L (w2.alloc (.cells #[u] 26)) := by
  have s2 := hg2.size
  have R2 := (hg2.block w.heap.size (by omega) (by simp; omega)).trans R1
  have S2 := (hg2.block (w.heap.size + 1) (by omega) (by simp; omega)).trans S1
  have L2 : Below w.heap.size w w2 := L1.grown hg2 L1.size (fun k e => by simp at e; omega)
  exact ⟨heap_alloc_new w2 _, (pr2.grown (World.grownBy_alloc w2 _ (some g)) (fun k hk => by cases hk; omega)).mono (by omega), (old_block (by omega)).trans R2, (old_block (by omega)).trans S2, curAlloc hc2 _, L2.alloc L2.size _⟩

theorem EB.draw {w : World} {g : Nat} {bs : List Int} {P : Nat} {u : Value} {L : List Nat} {W W' : World} (h : EB w g bs P u L W) (lt1 : w.heap.size + 1 < g) (hP : g < P) (hc : Cur W' g bs) (hg : W.grownBy W' (some g)) : EB w g bs P u L W' :=
  ⟨blockGrown h.box hg (by omega), h.pr.grown hg (fun k hk => by cases hk; omega), (hg.block w.heap.size (Array.getElem?_eq_some_iff.1 h.rp).1 (by simp; omega)).trans h.rp, (hg.block (w.heap.size + 1) (Array.getElem?_eq_some_iff.1 h.rs).1 (by simp; omega)).trans h.rs, hc, h.bel.grown hg h.bel.size (fun k e => by simp at e; omega)⟩

theorem frozen0 {W : World} {B : Nat} {C : Array Value} {t : TypeId} (q : W.heap[B]? = some (.cells C t (0, 0))) (i : Nat) : W.frozen? ⟨B, i, none⟩ = false := by
  simp [World.frozen?, q]

/-- Three numbers are stored. -/
theorem set3_block {W : World} {B : Nat} {v0 v1 v2 : Value} {t : TypeId} (q : W.heap[B]? = some (.cells #[v0, v1, v2] t (0, 0))) (x y z : Value) : (((W.setCell ⟨B, 0, none⟩ x).setCell ⟨B, 1, none⟩ y).setCell ⟨B, 2, none⟩ z).heap[B]? = some (.cells #[x, y, z] t (0, 0)) := by
  have h1 := heap_setCell_same W B 0 _ t x q
  have h2 := heap_setCell_same _ B 1 _ t y h1
  have h3 := heap_setCell_same _ B 2 _ t z h2
  simpa using h3

/-- What is answered. -/
theorem EB.ends {w : World} {g : Nat} {bs : List Int} {P : Nat} {u : Value} {L : List Nat} {W : World} (h : EB w g bs P u L W) (lt1 : w.heap.size + 1 < g) (k x y : Int) (W' : World)
    (hW : ((((W.setCell ⟨w.heap.size, 0, none⟩ u).setCell ⟨w.heap.size + 1, 0, none⟩ (.int .i64 k)).setCell ⟨w.heap.size + 1, 1, none⟩ (.int .i64 x)).setCell ⟨w.heap.size + 1, 2, none⟩ (.int .i64 y)).drew = W') :
    PrOk W' w.heap.size u L ∧ Below w.heap.size w W' ∧ W'.cell? ⟨w.heap.size, 0, none⟩ = some u ∧ W'.cell? ⟨w.heap.size + 1, 0, none⟩ = some (.int .i64 k) ∧ W'.cell? ⟨w.heap.size + 1, 1, none⟩ = some (.int .i64 x) ∧ W'.cell? ⟨w.heap.size + 1, 2, none⟩ = some (.int .i64 y) := by
  obtain ⟨W1, h1⟩ : ∃ z, W.setCell ⟨w.heap.size, 0, none⟩ u = z := ⟨_, rfl⟩
  rw [h1] at hW
  have s1 : W1.heap[w.heap.size + 1]? = some (stm3 ⟨0, 0, 0⟩) := by rw [← h1, heap_setCell_other W ⟨w.heap.size, 0, none⟩ (w.heap.size + 1) u (by simp)]; exact h.rs
  have p1 : W1.heap[w.heap.size]? = some (.cells #[u] 26 (0, 0)) := by rw [← h1]; exact one_set' h.rp u
  have pr1 : PrOk W1 (g + 1) u L := by rw [← h1]; exact h.pr.grown (grown_setCell7 W w.heap.size 0 u) (fun k hk => by cases hk; omega)
  have b1 : Below w.heap.size w W1 := by rw [← h1]; exact h.bel.setCell (by simp) _
  obtain ⟨W2, h2⟩ : ∃ z, (((W1.setCell ⟨w.heap.size + 1, 0, none⟩ (.int .i64 k)).setCell ⟨w.heap.size + 1, 1, none⟩ (.int .i64 x)).setCell ⟨w.heap.size + 1, 2, none⟩ (.int .i64 y)) = z := ⟨_, rfl⟩
  rw [h2] at hW
  have g2 := grown_set3 W1 (w.heap.size + 1) 0 1 2 (.int .i64 k) (.int .i64 x) (.int .i64 y)
  have s2 := set3_block s1 (.int .i64 k) (.int .i64 x) (.int .i64 y)
  rw [h2] at g2 s2
  have p2 := (g2.block w.heap.size (Array.getElem?_eq_some_iff.1 p1).1 (by simp)).trans p1
  have pr2 := pr1.grown g2 (fun k hk => by cases hk; omega)
  have b2 : Below w.heap.size w W2 := b1.grown g2 b1.size (fun k e => by simp at e; omega)
  have bd : Below W2.heap.size W2 W2.drew := by go_grown
  rw [hW] at bd
  have pr3 := pr2.grown (grown_of_below bd (some w.heap.size)) (fun k hk => by cases hk; omega)
  have p3 := (bd.block w.heap.size (Array.getElem?_eq_some_iff.1 p2).1).trans p2
  have s3 := (bd.block (w.heap.size + 1) (Array.getElem?_eq_some_iff.1 s2).1).trans s2
  have b3 := b2.grown (grown_of_below bd (some w.heap.size)) b2.size (fun k e => by simp at e; omega)
  obtain ⟨d0, d1, d2⟩ := stmt_cells s3
  exact ⟨pr3.mono (by omega), b3, (oneCell p3).1, d0, d1, d2⟩

theorem drawEffect (bs : List Int) (v : Value) (w : World) (hl : bs.length ≤ 1048576) (hv : Reads w v (bs.map (Value.int .u8))) :
    Calls Try.prog 18 #[v] w fun e w' => ∃ (u : Value) (L : List Nat) (n k x y : Int), e = .returned (.tuple #[.agg #[u], .int .i64 n, .agg #[.int .i64 k, .int .i64 x, .int .i64 y]]) ∧ L.length ≤ 5 ∧ (∀ n ∈ L, n ≤ 14) ∧ PrOk w' w.heap.size u L ∧ Below w.heap.size w w' := by
  have hb0 : Below w.heap.size w ((w.alloc (.cells #[.slice none 0 0] 26)).alloc (.cells #[.int .i64 0, .int .i64 0, .int .i64 0] 43)) := by go_grown
  go_enter Try.func18, Try.ntmps18
  go_wp2_with fail
  go_at_call 27
  refine (l1New bs v _ hl (reads_below hv hb0)).mono ?_
  rintro e w1 ⟨g, rfl, hg, hc1, b1⟩
  have lt1 : w.heap.size + 1 < g := by have := hg; simp at this; omega
  have g1 := curLt hc1
  have R1 : w1.heap[w.heap.size]? = some (.cells #[.slice none 0 0] 26 (0, 0)) := (b1.block _ (by simp; omega)).trans ((old_block (by simp)).trans (heap_alloc_new w _))
  have S1 : w1.heap[w.heap.size + 1]? = some (stm3 ⟨0, 0, 0⟩) := (b1.block _ (by simp)).trans (by have := heap_alloc_new (w.alloc (.cells #[.slice none 0 0] 26)) (stm3 ⟨0, 0, 0⟩); simpa using this)
  have L1 : Below w.heap.size w w1 := hb0.trans (b1.mono hb0.size)
  go_wp2_with fail
  go_at_call 28
  refine (l3DrawAny g bs w1 hl hc1).mono ?_
  rintro e w2 ⟨u, L, rfl, h5, h14, pr2, hc2, hg2⟩
  obtain ⟨ua, un, uc, rfl⟩ := pr2.slice
  have hun : un = L.length := by obtain ⟨_, _, e, _⟩ := pr2; cases e; rfl
  subst hun
  have hgP : g < w2.heap.size := by have := hg2.size; omega
  have D2 : Hid (EB w g bs w2.heap.size (.slice ua L.length uc) L (w2.alloc (.cells #[.slice ua L.length uc] 26))) := EB.begin lt1 g1 R1 S1 L1 pr2 hc2 hg2
  clear R1 S1 L1 pr2 hc2 hg2 b1 hc1 g1
  go_wp2_with fail
  go_at_call 29
  refine (l7DrawClient g bs _ hl D2.out.cur).mono ?_
  rintro e w3 ⟨n, rfl, hc3, hg3⟩
  have D3 : Hid _ := D2.out.draw lt1 hgP hc3 hg3
  clear hc3 hg3 D2
  obtain ⟨c3, f3⟩ := oneCell D3.out.box
  go_wp2_with fail
  go_at_call 50
  refine (l1MaxB 1 (L.length : Int) _).mono ?_
  rintro e w4 ⟨⟨m, rfl, hm⟩, rfl⟩
  have hm' : m ≤ 4294967296 := by omega
  clear hm
  go_wp2_with fail
  go_at_call 49
  refine (l3DrawStmt g bs 5 m (by omega) hm' _ hl D3.out.cur).mono ?_
  rintro e w4 ⟨k, x, y, rfl, hc4, hg4⟩
  have D4 : Hid _ := D3.out.draw lt1 hgP hc4 hg4
  have HS := heap_alloc_new w4 (stm3 ⟨k, x, y⟩)
  have D5 : Hid (EB w g bs w2.heap.size (.slice ua L.length uc) L (w4.alloc (stm3 ⟨k, x, y⟩))) := D4.out.draw lt1 hgP (curAlloc D4.out.cur _) (World.grownBy_alloc w4 _ (some g))
  have hgw4 := curLt D4.out.cur
  clear hc4 hg4 D3 c3 f3
  go_wp2_with fail
  go_at_call 33
  refine (l1Once g bs 2 (by omega) _ hl D5.out.cur).mono ?_
  rintro e w6 ⟨b, rfl, hc6, hg6⟩
  have D6 : Hid _ := D5.out.draw lt1 hgP hc6 hg6
  have H6 := blockGrown HS hg6 (by omega)
  have hg46 : w4.grownBy w6 (some g) := grown_trans (World.grownBy_alloc w4 _ (some g)) hg6
  clear HS hc6 hg6 D5
  cases b
  · obtain ⟨cb, fb⟩ := oneCell D6.out.box
    obtain ⟨cr, fr⟩ := oneCell D6.out.rp
    obtain ⟨a0, a1, a2⟩ := stmt_cells H6
    obtain ⟨d0, d1, d2⟩ := stmt_cells D6.out.rs
    have fd0 := frozen0 D6.out.rs 0
    have fd1 := frozen0 D6.out.rs 1
    have fd2 := frozen0 D6.out.rs 2
    go_wp2_with fail
    go_region
    obtain ⟨W, hW⟩ : ∃ z, ((((w6.setCell ⟨w.heap.size, 0, none⟩ (.slice ua L.length uc)).setCell ⟨w.heap.size + 1, 0, none⟩ (.int .i64 k)).setCell ⟨w.heap.size + 1, 1, none⟩ (.int .i64 x)).setCell ⟨w.heap.size + 1, 2, none⟩ (.int .i64 y)).drew = z := ⟨_, rfl⟩
    obtain ⟨q1, q2, q3, q4, q5, q6⟩ := D6.out.ends lt1 k x y W hW
    rw [hW]
    clear hW cb fb cr fr a0 a1 a2 d0 d1 d2 fd0 fd1 fd2
    go_wp2
    refine bodyPost_ret (v := .tuple #[.agg #[.slice ua L.length uc], .int .i64 n, .agg #[.int .i64 k, .int .i64 x, .int .i64 y]]) (by simp [results, Try.results18, go_sem, q3, q4, q5, q6]) rfl ?_
    exact ⟨_, L, n, k, x, y, rfl, h5, h14, q1, q2⟩
  · go_wp2_with fail
    go_at_call 34
    refine (l1Below g bs 4 (by omega) _ hl D6.out.cur).mono ?_
    rintro e w7 ⟨zi, rfl, hz0, hz1, _, hc7, hg7⟩
    have D7 : Hid _ := D6.out.draw lt1 hgP hc7 hg7
    have H7 := blockGrown H6 hg7 (by omega)
    have hg47 := grown_trans hg46 hg7
    clear hc7 hg7 D6 H6 hg46
    obtain ⟨a0, a1, a2⟩ := stmt_cells H7
    have fa0 := frozen0 H7 0
    have fa1 := frozen0 H7 1
    have fa2 := frozen0 H7 2
    go_wp2_with fail
    obtain ⟨W8, hW8⟩ : ∃ z, (((w7.setCell ⟨w4.heap.size, 0, none⟩ (.int .i64 8)).setCell ⟨w4.heap.size, 1, none⟩ (.int .i64 0)).setCell ⟨w4.heap.size, 2, none⟩ (.int .i64 zi)) = z := ⟨_, rfl⟩
    have H8 := set3_block H7 (.int .i64 8) (.int .i64 0) (.int .i64 zi)
    have hg48 : w4.grownBy W8 (some g) := by rw [← hW8]; exact grownSet (grownSet (grownSet hg47 (Nat.le_refl _) _) (Nat.le_refl _) _) (Nat.le_refl _) _
    have hc8 : Cur W8 g bs := by rw [← hW8]; exact curSet (curSet (curSet D7.out.cur hgw4 _) hgw4 _) hgw4 _
    have D8 : Hid _ := D4.out.draw lt1 hgP hc8 hg48
    rw [hW8] at H8
    rw [hW8]
    clear hW8 H7 hc8 hg48 hg47 D7 D4 a0 a1 a2 fa0 fa1 fa2
    obtain ⟨cb, fb⟩ := oneCell D8.out.box
    obtain ⟨cr, fr⟩ := oneCell D8.out.rp
    obtain ⟨a0, a1, a2⟩ := stmt_cells H8
    obtain ⟨d0, d1, d2⟩ := stmt_cells D8.out.rs
    have fd0 := frozen0 D8.out.rs 0
    have fd1 := frozen0 D8.out.rs 1
    have fd2 := frozen0 D8.out.rs 2
    go_region
    obtain ⟨W, hW⟩ : ∃ z, ((((W8.setCell ⟨w.heap.size, 0, none⟩ (.slice ua L.length uc)).setCell ⟨w.heap.size + 1, 0, none⟩ (.int .i64 8)).setCell ⟨w.heap.size + 1, 1, none⟩ (.int .i64 0)).setCell ⟨w.heap.size + 1, 2, none⟩ (.int .i64 zi)).drew = z := ⟨_, rfl⟩
    obtain ⟨q1, q2, q3, q4, q5, q6⟩ := D8.out.ends lt1 8 0 zi W hW
    rw [hW]
    clear hW cb fb cr fr a0 a1 a2 d0 d1 d2 fd0 fd1 fd2
    go_wp2
    refine bodyPost_ret (v := .tuple #[.agg #[.slice ua L.length uc], .int .i64 n, .agg #[.int .i64 8, .int .i64 0, .int .i64 zi]]) (by simp [results, Try.results18, go_sem, q3, q4, q5, q6]) rfl ?_
    exact ⟨_, L, n, 8, 0, zi, rfl, h5, h14, q1, q2⟩

end Go.Proofs.Ytgandekciocalaa
