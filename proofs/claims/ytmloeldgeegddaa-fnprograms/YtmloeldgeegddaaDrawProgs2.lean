/-
  spec.DrawProcOk, DrawStmtOk, DrawEffect.
-/
import Derived.Test.YtmloeldgeegddaaDrawProgs
import Derived.BigRegion
namespace Go.Proofs.Ytmloeldgeegddaa
open Go.RowKit
set_option linter.unusedVariables false
set_option linter.unusedSimpArgs false
set_option maxHeartbeats 2000000
set_option maxRecDepth 20000
attribute [local go_sem ↓] Go.wp_at_zero Go.wp_at_succ

theorem SlOk.kept {w : World} {base b n : Nat} {x v : Value} (h : SlOk w base x n) (hb : b < base) : SlOk (w.setCell ⟨b, 0, none⟩ v) b x n := by
  rcases h with h | ⟨g, o, cap, m, e, hg, hs, hle⟩
  · exact .inl h
  · exact .inr ⟨g, o, cap, m, e, by omega, hs.same (heap_setCell_other w ⟨b, 0, none⟩ g v (by simp; omega)), hle⟩

theorem drawProcOk (bs : List Int) (v : Value) (w : World) (hl : bs.length ≤ 1048576) (hv : Reads w v (bs.map (Value.int .u8))) :
    Calls Try.prog 10 #[v] w fun e w' => ∃ (u : Value) (n : Nat), e = .returned (.agg #[u]) ∧ n ≤ 14 ∧ SlOk w' w.heap.size u n ∧ Below w.heap.size w w' := by
  have hb0 : Below w.heap.size w (w.alloc (.cells #[.slice none 0 0] 34)) := by go_grown
  go_enter Try.func10, Try.ntmps10
  go_wp2_with fail
  go_at_call 44
  refine (l1New bs v _ hl (reads_below hv hb0)).mono ?_
  rintro e w1 ⟨g, rfl, hg, hc1, b1⟩
  have lt1 : w.heap.size < g := by have := hg; simp at this; omega
  have R1 : w1.heap[w.heap.size]? = some (.cells #[.slice none 0 0] 34 (0, 0)) := (b1.block _ (by simp)).trans (heap_alloc_new w _)
  have L1 : Below w.heap.size w w1 := hb0.trans (b1.mono hb0.size)
  have g1 := curLt hc1
  go_wp2_with fail
  go_at_call 45
  refine (l3DrawAny g bs w1 hl hc1).mono ?_
  rintro e w2 ⟨u, L, rfl, h5, h14, pr2, hc2, hg2⟩
  obtain ⟨ua, un, uc, rfl⟩ := pr2.slice
  have s2 := hg2.size
  have R2 := (hg2.block w.heap.size (by omega) (by simp; omega)).trans R1
  have L2 : Below w.heap.size w w2 := L1.grown hg2 L1.size (fun k e => by simp at e; omega)
  have X3 := heap_alloc_new w2 (.cells #[.slice ua un uc] 26)
  have R3 : (w2.alloc (.cells #[.slice ua un uc] 26)).heap[w.heap.size]? = _ := (old_block (by omega)).trans R2
  have L3 : Below w.heap.size w (w2.alloc (.cells #[.slice ua un uc] 26)) := L2.alloc L2.size _
  have pr3 := pr2.grown (World.grownBy_alloc w2 (.cells #[.slice ua un uc] 26) (some g)) (fun k hk => by cases hk; omega)
  obtain ⟨c3, f3⟩ := oneCell X3
  obtain ⟨r3, fr3⟩ := oneCell R3
  obtain ⟨ao, cap, e, hcc⟩ := pr3
  injection e with e1 e2 e3
  subst e1
  subst e3
  cases L with
  | nil =>
    have e0 : un = 0 := e2
    clear e2
    subst e0
    have G5 := one_set' R3 (.slice none 0 0)
    obtain ⟨d5, _⟩ := oneCell G5
    have LW := Below.setCell (p := ⟨w.heap.size, 0, none⟩) L3 (Nat.le_refl _) (.slice none 0 0)
    clear hcc pr2 X3 R3 R2 R1 L3 L2 L1 b1
    go_wp2
    refine bodyPost_ret (v := .agg #[.slice none 0 0]) (by simp [results, Try.results10, go_sem, d5]) rfl ?_
    exact ⟨_, 0, rfl, by omega, .inl ⟨rfl, rfl⟩, LW⟩
  | cons n L =>
    obtain ⟨q, off, x, rfl, hb, cx, hs⟩ := hcc 0 n rfl
    have hn : n ≤ 14 := h14 n (by simp)
    have hpos : 0 < un := by rw [e2]; simp
    have hpos' : (0 : Int) < (un : Int) := by omega
    have hne' : ¬ (un : Int) = 0 := by omega
    have hne : ¬ un = 0 := by omega
    clear e2
    obtain ⟨xa, xn, xc, rfl⟩ : ∃ a m c, x = .slice a m c := by
      rcases hs with ⟨rfl, _⟩ | ⟨_, _, _, _, rfl, _⟩
      · exact ⟨_, _, _, rfl⟩
      · exact ⟨_, _, _, rfl⟩
    have G5 := one_set' R3 (.slice xa xn xc)
    obtain ⟨d5, _⟩ := oneCell G5
    have LW := Below.setCell (p := ⟨w.heap.size, 0, none⟩) L3 (Nat.le_refl _) (.slice xa xn xc)
    have HS : Hid _ := hs.kept (b := w.heap.size) (v := .slice xa xn xc) (by omega)
    have cx' : (w2.alloc (.cells #[.slice (some ⟨q, off, none⟩) un uc] 26)).cell? ⟨q, off, none⟩ = some (.slice xa xn xc) := by simpa using cx
    clear hcc pr2 X3 R3 R2 R1 L3 L2 L1 b1 hs cx
    go_wp2
    refine bodyPost_ret (v := .agg #[.slice xa xn xc]) (by simp [results, Try.results10, go_sem, d5]) rfl ?_
    exact ⟨_, n, rfl, hn, HS.out, LW⟩

theorem l1MaxB (a b : Int) (w : World) : Calls Try.prog 60 #[.int .i64 a, .int .i64 b] w fun e w' => (∃ x : Int, e = .returned (.int .i64 x) ∧ (x = a ∨ x = b)) ∧ w = w' := by
  by_cases h : b < a
  · go_enter Try.func60, Try.ntmps60
    go_wp2
    go_ret
    exact ⟨⟨_, rfl, .inl rfl⟩, rfl⟩
  · go_enter Try.func60, Try.ntmps60
    go_wp2
    go_ret
    exact ⟨⟨_, rfl, .inr rfl⟩, rfl⟩

/-- What spec.DrawEffect has in hand: the Program, the boxes of what is answered, the cursor. -/
structure EB (w : World) (g : Nat) (bs : List Int) (P : Nat) (u : Value) (L : List Nat) (W : World) : Prop where
  box : W.heap[P]? = some (.cells #[u] 26 (0, 0))
  pr : PrOk W (g + 1) u L
  rp : W.heap[w.heap.size]? = some (.cells #[.slice none 0 0] 26 (0, 0))
  rs : W.heap[w.heap.size + 1]? = some (stm3 ⟨0, 0, 0⟩)
  cur : Cur W g bs
  bel : Below w.heap.size w W

theorem EB.begin {w w1 w2 : World} {g : Nat} {bs : List Int} {u : Value} {L : List Nat} (lt1 : w.heap.size + 1 < g) (g1 : g < w1.heap.size) (R1 : w1.heap[w.heap.size]? = some (.cells #[.slice none 0 0] 26 (0, 0))) (S1 : w1.heap[w.heap.size + 1]? = some (stm3 ⟨0, 0, 0⟩)) (L1 : Below w.heap.size w w1)
    (pr2 : PrOk w2 w1.heap.size u L) (hc2 : Cur w2 g bs) (hg2 : w1.grownBy w2 (some g)) : EB w g bs w2.heap.size u L (w2.alloc (.cells #[u] 26)) := by
  have s2 := hg2.size
  have R2 := (hg2.block w.heap.size (by omega) (by simp; omega)).trans R1
  have S2 := (hg2.block (w.heap.size + 1) (by omega) (by simp; omega)).trans S1
  have L2 : Below w.heap.size w w2 := L1.grown hg2 L1.size (fun k e => by simp at e; omega)
  exact ⟨heap_alloc_new w2 _, (pr2.grown (World.grownBy_alloc w2 _ (some g)) (fun k hk => by cases hk; omega)).mono (by omega), (old_block (by omega)).trans R2, (old_block (by omega)).trans S2, curAlloc hc2 _, L2.alloc L2.size _⟩

theorem EB.draw {w : World} {g : Nat} {bs : List Int} {P : Nat} {u : Value} {L : List Nat} {W W' : World} (h : EB w g bs P u L W) (lt1 : w.heap.size + 1 < g) (hP : g < P) (hc : Cur W' g bs) (hg : W.grownBy W' (some g)) : EB w g bs P u L W' :=
  ⟨blockGrown h.box hg (by omega), h.pr.grown hg (fun k hk => by cases hk; omega), (hg.block w.heap.size (Array.getElem?_eq_some_iff.1 h.rp).1 (by simp; omega)).trans h.rp, (hg.block (w.heap.size + 1) (Array.getElem?_eq_some_iff.1 h.rs).1 (by simp; omega)).trans h.rs, hc, h.bel.grown hg h.bel.size (fun k e => by simp at e; omega)⟩

theorem frozen0 {W : World} {B : Nat} {C : Array Value} {t : TypeId} (q : W.heap[B]? = some (.cells C t (0, 0))) (i : Nat) : W.frozen? ⟨B, i, none⟩ = false := by
  simp [World.frozen?, q]

/-- Three numbers are stored. -/
theorem set3_block {W : World} {B : Nat} {v0 v1 v2 : Value} {t : TypeId} (q : W.heap[B]? = some (.cells #[v0, v1, v2] t (0, 0))) (x y z : Value) : (((W.setCell ⟨B, 0, none⟩ x).setCell ⟨B, 1, none⟩ y).setCell ⟨B, 2, none⟩ z).heap[B]? = some (.cells #[x, y, z] t (0, 0)) := by
  have h1 := heap_setCell_same W B 0 _ t x q
  have h2 := heap_setCell_same _ B 1 _ t y h1
  have h3 := heap_setCell_same _ B 2 _ t z h2
  simpa using h3

/-- What is answered. -/
theorem EB.ends {w : World} {g : Nat} {bs : List Int} {P : Nat} {u : Value} {L : List Nat} {W : World} (h : EB w g bs P u L W) (lt1 : w.heap.size + 1 < g) (k x y : Int) (W' : World)
    (hW : ((((W.setCell ⟨w.heap.size, 0, none⟩ u).setCell ⟨w.heap.size + 1, 0, none⟩ (.int .i64 k)).setCell ⟨w.heap.size + 1, 1, none⟩ (.int .i64 x)).setCell ⟨w.heap.size + 1, 2, none⟩ (.int .i64 y)).drew = W') :
    PrOk W' w.heap.size u L ∧ Below w.heap.size w W' ∧ W'.cell? ⟨w.heap.size, 0, none⟩ = some u ∧ W'.cell? ⟨w.heap.size + 1, 0, none⟩ = some (.int .i64 k) ∧ W'.cell? ⟨w.heap.size + 1, 1, none⟩ = some (.int .i64 x) ∧ W'.cell? ⟨w.heap.size + 1, 2, none⟩ = some (.int .i64 y) := by
  obtain ⟨W1, h1⟩ : ∃ z, W.setCell ⟨w.heap.size, 0, none⟩ u = z := ⟨_, rfl⟩
  rw [h1] at hW
  have s1 : W1.heap[w.heap.size + 1]? = some (stm3 ⟨0, 0, 0⟩) := by rw [← h1, heap_setCell_other W ⟨w.heap.size, 0, none⟩ (w.heap.size + 1) u (by simp)]; exact h.rs
  have p1 : W1.heap[w.heap.size]? = some (.cells #[u] 26 (0, 0)) := by rw [← h1]; exact one_set' h.rp u
  have pr1 : PrOk W1 (g + 1) u L := by rw [← h1]; exact h.pr.grown (grown_setCell7 W w.heap.size 0 u) (fun k hk => by cases hk; omega)
  have b1 : Below w.heap.size w W1 := by rw [← h1]; exact h.bel.setCell (by simp) _
  obtain ⟨W2, h2⟩ : ∃ z, (((W1.setCell ⟨w.heap.size + 1, 0, none⟩ (.int .i64 k)).setCell ⟨w.heap.size + 1, 1, none⟩ (.int .i64 x)).setCell ⟨w.heap.size + 1, 2, none⟩ (.int .i64 y)) = z := ⟨_, rfl⟩
  rw [h2] at hW
  have g2 := grown_set3 W1 (w.heap.size + 1) 0 1 2 (.int .i64 k) (.int .i64 x) (.int .i64 y)
  have s2 := set3_block s1 (.int .i64 k) (.int .i64 x) (.int .i64 y)
  rw [h2] at g2 s2
  have p2 := (g2.block w.heap.size (Array.getElem?_eq_some_iff.1 p1).1 (by simp)).trans p1
  have pr2 := pr1.grown g2 (fun k hk => by cases hk; omega)
  have b2 : Below w.heap.size w W2 := b1.grown g2 b1.size (fun k e => by simp at e; omega)
  have bd : Below W2.heap.size W2 W2.drew := by go_grown
  rw [hW] at bd
  have pr3 := pr2.grown (grown_of_below bd (some w.heap.size)) (fun k hk => by cases hk; omega)
  have p3 := (bd.block w.heap.size (Array.getElem?_eq_some_iff.1 p2).1).trans p2
  have s3 := (bd.block (w.heap.size + 1) (Array.getElem?_eq_some_iff.1 s2).1).trans s2
  have b3 := b2.grown (grown_of_below bd (some w.heap.size)) b2.size (fun k e => by simp at e; omega)
  obtain ⟨d0, d1, d2⟩ := stmt_cells s3
  exact ⟨pr3.mono (by omega), b3, (oneCell p3).1, d0, d1, d2⟩

end Go.Proofs.Ytmloeldgeegddaa
