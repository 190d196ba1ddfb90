/-
 Put together out of: DrawFlow, DrawProc4, DrawProgs, DrawAsked.
-/
import Derived.Test.YtdkdhjhhbkcciaaGreatG00Put
import Derived.Test.YtdkdhjhhbkcciaaGreatDrawStm
import Derived.Test.YtdkdhjhhbkcciaaGreatG36IntLaws
import Derived.Test.YtdkdhjhhbkcciaaGreatG06SpecFlow
import Derived.Test.YtdkdhjhhbkcciaaGreatDrawProc
import Derived.Deep.RegionHeld3
import Derived.Deep.DrawnRows
import Derived.Test.YtdkdhjhhbkcciaaGreatDrawAny
namespace Go.Proofs.YtdkdhjhhbkcciaaGreat
open Go.RowKit
set_option linter.unusedVariables false
set_option maxHeartbeats 2000000
theorem l7DrawClient (g : Nat) (bs : List Int) (w : World) (hl : bs.length ≤ 1048576) (hc : Cur w g bs) :
 Calls Tryz.prog 28 #[.pointer (some ⟨g, 0, none⟩)] w fun e w' => ∃ x : Int, e = .returned (.int .i64 x) ∧ Cur w' g bs ∧ w.grownBy w' (some g) := by
 go_enter Tryz.func28, Tryz.ntmps28
 go_wp2_with fail
 go_at_call 53
 refine (l1Once g bs 14 (by omega) w hl hc).mono ?_
 rintro e w1 ⟨b, rfl, hc1, g1⟩
 cases b
 · go_wp2_with fail
   go_at_call 54
   refine (l1Below g bs 2 (by omega) w1 hl hc1).mono ?_
   rintro e w2 ⟨x, rfl, hx0, hx1, _, hc2, g2⟩
   have hx2 : x < 2 := hx1 (by omega)
   go_wp2
   go_ret
   exact ⟨_, rfl, hc2, grown_trans g1 g2⟩
 · have hcA := curAlloc hc1 (.cells #[.int .i64 0, .int .i64 3, .int .i64 (-1)] 2)
   have HA := heap_alloc_new w1 (.cells #[.int .i64 0, .int .i64 3, .int .i64 (-1)] 2)
   have gA := World.grownBy_alloc w1 (.cells #[.int .i64 0, .int .i64 3, .int .i64 (-1)] 2) (some g)
   have hgl := curLt hc1
   go_wp2_with fail
   go_at_call 54
   refine (l1Below g bs 3 (by omega) _ hl hcA).mono ?_
   rintro e w2 ⟨x, rfl, hx0, hx1, _, hc2, g2⟩
   have hx2 : x < 3 := hx1 (by omega)
   have H2 := blockGrown HA g2 hgl
   obtain ⟨c0, c1, c2⟩ := stmt_cells H2
   have hcs : x = 0 ∨ x = 1 ∨ x = 2 := by omega
   clear HA hcA
   rcases hcs with rfl | rfl | rfl
   all_goals
    go_wp2
    go_ret
    exact ⟨_, rfl, hc2, grown_trans g1 (grown_trans gA g2)⟩
end Go.Proofs.YtdkdhjhhbkcciaaGreat
namespace Go.Proofs.YtdkdhjhhbkcciaaGreat
open Go.RowKit
set_option linter.unusedVariables false
set_option maxHeartbeats 2000000
attribute [local go_sem ↓] Go.wp_at_zero Go.wp_at_succ
theorem cells3_set : ∀ (ss : List Stm) (k : Nat) (s : Stm), k < ss.length → (((cells3 ss).set (k * 3) (.int .i64 s.k)).set (k * 3 + 1) (.int .i64 s.x)).set (k * 3 + 2) (.int .i64 s.y) = cells3 (ss.set k s)
 | [], k, s, h => by simp at h
 | t :: ss, 0, s, _ => by simp [cells3]
 | t :: ss, k + 1, s, h => by
  have ih := cells3_set ss k s (by simpa using h)
  have e : (k + 1) * 3 = k * 3 + 1 + 1 + 1 := by omega
  simp only [e, cells3, List.set_cons_succ]
  rw [← ih]
theorem one_set' {w : World} {b : Nat} {x : Value} {T : TypeId} (h : w.heap[b]? = some (.cells #[x] T (0, 0))) (y : Value) : (w.setCell ⟨b, 0, none⟩ y).heap[b]? = some (.cells #[y] T (0, 0)) := by
 have h1 := heap_setCell_same w b 0 _ T y h
 simpa using h1
structure DSt (g R S : Nat) (bs : List Int) (u : Value) (w : World) (ss : List Stm) (wr : World) : Prop where
 n1 : 1 ≤ ss.length
 n7 : ss.length ≤ 7
 own : wr.ownsRow (R + 1) 43 3 u ss.length (cells3 ss)
 cur : Cur wr g bs
 grown : w.grownBy wr (some g)
 res : wr.heap[R]? = some (.cells #[.slice none 0 0] 46 (0, 0))
 box : wr.heap[S]? = some (.cells #[u] 46 (0, 0))
 ne : ∀ k, u.ownBlock = some k → k ≠ S
theorem DSt.cells {g R S : Nat} {bs : List Int} {u : Value} {w : World} {ss : List Stm} {wr : World} (h : DSt g R S bs u w ss wr) : ∃ gu cap, u = .slice (some ⟨gu, 0, none⟩) ss.length cap ∧ R < gu ∧ gu ≠ S ∧ gu < wr.heap.size ∧ ∀ j, j < ss.length * 3 → (∃ x, wr.cell? ⟨gu, j, none⟩ = some x) ∧ wr.frozen? ⟨gu, j, none⟩ = false := by
 rcases h.own.2 with ⟨_, h0⟩ | ⟨gu, cap, cur, rfl, hb, hg, _⟩
 · have := h.n1; omega
 · exact ⟨gu, cap, rfl, by omega, h.ne gu rfl, (h.own.lt gu rfl).2, fun j hj => ⟨own_cell h.own j hj, h.own.frozenAt j⟩⟩
theorem DSt.cellAt {g R S : Nat} {bs : List Int} {gu cap n : Nat} {w : World} {ss : List Stm} {wr : World} (h : DSt g R S bs (.slice (some ⟨gu, 0, none⟩) n cap) w ss wr) (hn : ss.length = n) (j : Nat) (hj : j < n * 3) : (∃ x, wr.cell? ⟨gu, j, none⟩ = some x) ∧ wr.frozen? ⟨gu, j, none⟩ = false := by
 subst hn
 exact ⟨own_cell h.own j hj, h.own.frozenAt j⟩
theorem DSt.put {g R S : Nat} {bs : List Int} {gu cap : Nat} {w : World} {ss : List Stm} {wr : World} (h : DSt g R S bs (.slice (some ⟨gu, 0, none⟩) ss.length cap) w ss wr) (hgR : g < R) (hR : R = w.heap.size) (k : Nat) (hk : k < ss.length) (s : Stm) :
 DSt g R S bs (.slice (some ⟨gu, 0, none⟩) ss.length cap) w (ss.set k s) (((wr.setCell ⟨gu, k * 3, none⟩ (.int .i64 s.k)).setCell ⟨gu, k * 3 + 1, none⟩ (.int .i64 s.x)).setCell ⟨gu, k * 3 + 2, none⟩ (.int .i64 s.y)) := by
 have hgu := (h.own.lt gu rfl).1
 have hne := h.ne gu rfl
 have o3 := (((h.own.stored (k * 3) (.int .i64 s.k)).1.stored (k * 3 + 1) (.int .i64 s.x)).1.stored (k * 3 + 2) (.int .i64 s.y)).1
 rw [cells3_set ss k s hk] at o3
 refine ⟨by simpa using h.n1, by simpa using h.n7, by simpa using o3, curSet (curSet (curSet h.cur (by omega) _) (by omega) _) (by omega) _, grownSet (grownSet (grownSet h.grown (by omega) _) (by omega) _) (by omega) _, ?_, ?_, fun k' hk' => h.ne k' hk'⟩
 · rw [Below.heap_setCell _ _ _ _ (by simp; omega), Below.heap_setCell _ _ _ _ (by simp; omega), Below.heap_setCell _ _ _ _ (by simp; omega)]; exact h.res
 · rw [Below.heap_setCell _ _ _ _ (by simp; omega), Below.heap_setCell _ _ _ _ (by simp; omega), Below.heap_setCell _ _ _ _ (by simp; omega)]; exact h.box
theorem DSt.step {g R S : Nat} {bs : List Int} {u : Value} {w : World} {ss : List Stm} {wr wr' : World} (h : DSt g R S bs u w ss wr) (hgR : g < R) (hgS : g < S) (hg : wr.grownBy wr' (some g)) (hc : Cur wr' g bs) : DSt g R S bs u w ss wr' where
 n1 := h.n1
 n7 := h.n7
 own := own_grown h.own hg (fun k hk e => by have := (h.own.lt k hk).1; simp at e; omega)
 cur := hc
 grown := grown_trans h.grown hg
 res := blockGrown h.res hg hgR
 box := blockGrown h.box hg hgS
 ne := h.ne
end Go.Proofs.YtdkdhjhhbkcciaaGreat
namespace Go.Proofs.YtdkdhjhhbkcciaaGreat
open Go.RowKit
set_option linter.unusedVariables false
set_option linter.unusedSimpArgs false
set_option maxHeartbeats 1000000
attribute [local go_sem ↓] Go.wp_at_zero Go.wp_at_succ
theorem PrOk.slice {w : World} {base : Nat} {u : Value} {L : List Nat} (h : PrOk w base u L) : ∃ a n c, u = .slice a n c := by
 obtain ⟨ao, cap, e, _⟩ := h
 exact ⟨_, _, _, e⟩
theorem PrOk.mono {w : World} {base base' : Nat} {u : Value} {L : List Nat} (h : PrOk w base u L) (hb : base' ≤ base) : PrOk w base' u L := by
 obtain ⟨ao, cap, e, hcc⟩ := h
 refine ⟨ao, cap, e, fun j n hj => ?_⟩
 obtain ⟨q, off, x, e1, hb1, cx, hs⟩ := hcc j n hj
 refine ⟨q, off, x, e1, by omega, cx, ?_⟩
 rcases hs with hs | ⟨g', o, c', m, e', hb', hsb, hle⟩
 · exact .inl hs
 · exact .inr ⟨g', o, c', m, e', by omega, hsb, hle⟩
theorem PrOk.answered {w' : World} {base b : Nat} {u x : Value} {L : List Nat} (h : PrOk w' base u L) (hb : b < base) : PrOk (w'.setCell ⟨b, 0, none⟩ x) b u L :=
 (h.grown (grown_setCell7 w' b 0 x) (fun k hk => by cases hk; omega)).mono (Nat.le_of_lt hb)
structure PB (w : World) (g : Nat) (bs : List Int) (P base : Nat) (u : Value) (L : List Nat) (W : World) : Prop where
 pr : PrOk W base u L
 box : W.heap[P]? = some (.cells #[u] 26 (0, 0))
 res : W.heap[w.heap.size]? = some (.cells #[.slice none 0 0] 26 (0, 0))
 cur : Cur W g bs
 bel : Below w.heap.size w W
theorem PB.begin {w w1 w2 : World} {g : Nat} {bs : List Int} {u : Value} {L : List Nat} (lt1 : w.heap.size < g) (g1 : g < w1.heap.size) (R1 : w1.heap[w.heap.size]? = some (.cells #[.slice none 0 0] 26 (0, 0))) (L1 : Below w.heap.size w w1)
 (pr2 : PrOk w2 w1.heap.size u L) (hc2 : Cur w2 g bs) (hg2 : w1.grownBy w2 (some g)) : PB w g bs w2.heap.size w1.heap.size u L (w2.alloc (.cells #[u] 26)) := by
 have s2 := hg2.size
 have R2 := (hg2.block w.heap.size (by omega) (by simp; omega)).trans R1
 have L2 : Below w.heap.size w w2 := L1.grown hg2 L1.size (fun k e => by simp at e; omega)
 exact ⟨pr2.grown (World.grownBy_alloc w2 _ (some g)) (fun k hk => by cases hk; omega), heap_alloc_new w2 _, (old_block (by omega)).trans R2, curAlloc hc2 _, L2.alloc L2.size _⟩
theorem PB.draw {w : World} {g : Nat} {bs : List Int} {P base : Nat} {u : Value} {L : List Nat} {W W' : World} (h : PB w g bs P base u L W) (lt1 : w.heap.size < g) (g1 : g < base) (hP : g < P) (hc : Cur W' g bs) (hg : W.grownBy W' (some g)) : PB w g bs P base u L W' :=
 ⟨h.pr.grown hg (fun k hk => by cases hk; omega), blockGrown h.box hg (by omega), (hg.block w.heap.size (Array.getElem?_eq_some_iff.1 h.res).1 (by simp; omega)).trans h.res, hc, h.bel.grown hg h.bel.size (fun k e => by simp at e; omega)⟩
theorem PB.boxKept {w : World} {g : Nat} {bs : List Int} {P base : Nat} {u : Value} {L : List Nat} {W : World} (h : PB w g bs P base u L W) (hP : w.heap.size < P) (x : Value) : (W.setCell ⟨w.heap.size, 0, none⟩ x).cell? ⟨P, 0, none⟩ = some u :=
 (oneCell ((Below.heap_setCell _ _ _ _ (by simp; omega)).trans h.box)).1
theorem PB.ends {w : World} {g : Nat} {bs : List Int} {P base : Nat} {u : Value} {L : List Nat} {W : World} (h : PB w g bs P base u L W) (hb : w.heap.size < base) :
 PrOk (W.setCell ⟨w.heap.size, 0, none⟩ u) w.heap.size u L ∧ Below w.heap.size w (W.setCell ⟨w.heap.size, 0, none⟩ u) ∧ (W.setCell ⟨w.heap.size, 0, none⟩ u).cell? ⟨w.heap.size, 0, none⟩ = some u :=
 ⟨h.pr.answered hb, h.bel.setCell (by simp) _, (oneCell (one_set' h.res u)).1⟩
theorem drawTables (bs : List Int) (v : Value) (w : World) (hl : bs.length ≤ 1048576) (hv : Reads w v (bs.map (Value.int .u8))) :
 Calls Tryz.prog 22 #[v] w fun e w' => ∃ (u : Value) (L : List Nat) (i : Int), e = .returned (.tuple #[.agg #[u], .int .i64 i]) ∧ L.length ≤ 5 ∧ (∀ n ∈ L, n ≤ 14) ∧ PrOk w' w.heap.size u L ∧ Below w.heap.size w w' := by
 have hb0 : Below w.heap.size w (w.alloc (.cells #[.slice none 0 0] 26)) := by go_grown
 go_enter Tryz.func22, Tryz.ntmps22
 go_wp2_with fail
 go_at_call 26
 refine (l1New bs v _ hl (reads_below hv hb0)).mono ?_
 rintro e w1 ⟨g, rfl, hg, hc1, b1⟩
 have lt1 : w.heap.size < g := by have := hg; simp at this; omega
 have R1 : w1.heap[w.heap.size]? = some (.cells #[.slice none 0 0] 26 (0, 0)) := (b1.block _ (by simp)).trans (heap_alloc_new w _)
 have L1 : Below w.heap.size w w1 := hb0.trans (b1.mono hb0.size)
 have g1 := curLt hc1
 go_wp2_with fail
 go_at_call 27
 refine (l3DrawAny g bs w1 hl hc1).mono ?_
 rintro e w2 ⟨u, L, rfl, h5, h14, pr2, hc2, hg2⟩
 obtain ⟨ua, un, uc, rfl⟩ := pr2.slice
 have s2 := hg2.size
 have D3 : Hid (PB w g bs w2.heap.size w1.heap.size (.slice ua un uc) L (w2.alloc (.cells #[.slice ua un uc] 26))) := PB.begin lt1 g1 R1 L1 pr2 hc2 hg2
 have hP : w.heap.size < w2.heap.size := by omega
 have hgP : g < w2.heap.size := by omega
 have z3 : (w2.alloc (.cells #[.slice ua un uc] 26)).heap.size = w2.heap.size + 1 := by simp
 obtain ⟨c3, f3⟩ := oneCell D3.out.box
 obtain ⟨r3, fr3⟩ := oneCell D3.out.res
 clear pr2 hc2 hg2 hc1 R1 L1 b1
 have hfr := fun W (hW : Cur W g bs) => l7DrawClient g bs W hl hW
 go_wp2_with fail
 go_region_held3 (fun w' => w'.cell? ⟨w2.heap.size, 0, none⟩ = some (.slice ua un uc)) (first | exact c3 | exact c4 | exact c5.out) (first
  | (go_at_call 28; refine (hfr _ (cur_below D3.out.cur (by go_grown))).mono ?_; rintro e w4 ⟨y, rfl, hc4, hg4'⟩; have hg4 : (w2.alloc (.cells #[.slice ua un uc] 26)).grownBy w4 (some g) := grown_trans (grown_of_below (by go_grown) (some g)) hg4'; have D4 : Hid _ := D3.out.draw lt1 g1 hgP hc4 hg4; (have c4 := (oneCell D4.out.box).1); obtain ⟨r4, fr4⟩ := oneCell D4.out.res; have c5 : Hid _ := D4.out.boxKept hP (.slice ua un uc)))
 all_goals
  obtain ⟨q1, q2, q3⟩ := D4.out.ends (by omega)
  clear c4 c5
  go_wp2
  refine bodyPost_ret (v := .tuple #[.agg #[.slice ua un uc], .int .i64 y]) (by simp [results, Tryz.results22, go_sem, q3]) rfl ?_
  exact ⟨_, L, y, rfl, h5, h14, q1, q2⟩
end Go.Proofs.YtdkdhjhhbkcciaaGreat
namespace Go.Proofs.YtdkdhjhhbkcciaaGreat
open Go.RowKit
set_option linter.unusedVariables false
set_option linter.unusedSimpArgs false
set_option maxRecDepth 20000
set_option maxHeartbeats 2000000
attribute [local go_sem ↓] Go.wp_at_zero Go.wp_at_succ
theorem drawFacts (bs : List Int) (v : Value) (w : World) (hl : bs.length ≤ 1048576) (hv : Reads w v (bs.map (Value.int .u8))) :
 Calls Tryz.prog 5 #[v] w fun e w' => ∃ (u : Value) (L : List Nat) (i : Int), e = .returned (.tuple #[.agg #[u], .int .i64 i]) ∧ L.length ≤ 5 ∧ (∀ n ∈ L, n ≤ 14) ∧ PrOk w' w.heap.size u L ∧ Below w.heap.size w w' := by
 obtain ⟨w0, hw0⟩ : ∃ W, w.alloc (.cells #[.slice none 0 0] 26) = W := ⟨_, rfl⟩
 obtain ⟨R, hR⟩ : ∃ n, w.heap.size = n := ⟨_, rfl⟩
 have hb0 : Below w.heap.size w w0 := by rw [← hw0]; go_grown
 have R0 : w0.heap[R]? = some (.cells #[.slice none 0 0] 26 (0, 0)) := by rw [← hw0, ← hR]; exact heap_alloc_new w _
 have z0 : w0.heap.size = R + 1 := by rw [← hw0, ← hR]; simp
 have hdt := drawTables bs v w0 hl (reads_below hv hb0)
 go_enter Tryz.func5, Tryz.ntmps5
 go_wp2_with fail
 go_at_call 22
 clear hw0
 refine hdt.mono ?_
 rintro e w1 ⟨u, L, i, rfl, h5, h14, pr, b1⟩
 obtain ⟨ua, un, uc, rfl⟩ := pr.slice
 have R1 := (b1.block R (by omega)).trans R0
 obtain ⟨r1, f1⟩ := oneCell R1
 have q1 : PrOk (w1.setCell ⟨R, 0, none⟩ (.slice ua un uc)) R (.slice ua un uc) L := pr.answered (by omega)
 have hbw : Below w.heap.size w w1 := hb0.trans (b1.mono hb0.size)
 have q2 : Below w.heap.size w (w1.setCell ⟨R, 0, none⟩ (.slice ua un uc)) := hbw.setCell (by simp [hR]) _
 obtain ⟨q3, _⟩ := oneCell (one_set' R1 (.slice ua un uc))
 have HQ : Hid _ := And.intro q1 q2
 clear q1 q2 pr b1 hdt R0 hbw
 go_wp2
 refine bodyPost_ret (v := .tuple #[.agg #[.slice ua un uc], .int .i64 i]) (by simp [results, Tryz.results5, go_sem, q3]) rfl ?_
 refine ⟨_, L, i, rfl, h5, h14, ?_, HQ.out.2⟩
 have := HQ.out.1
 rw [hR]
 exact this
theorem drawAsked (bs : List Int) (v : Value) (w : World) (hl : bs.length ≤ 1048576) (hv : Reads w v (bs.map (Value.int .u8))) :
 Calls Tryz.prog 7 #[v] w fun e w' => ∃ (u : Value) (L : List Nat) (n i k x : Int), e = .returned (.tuple #[.agg #[u], .int .i64 n, .int .i64 i, .int .i64 k, .int .i64 x]) ∧ L.length ≤ 5 ∧ (∀ n ∈ L, n ≤ 14) ∧ 0 ≤ i ∧ i ≤ 4 ∧ 0 ≤ k ∧ k ≤ 7 ∧ PrOk w' w.heap.size u L ∧ Below w.heap.size w w' := by
 have hb0 : Below w.heap.size w (w.alloc (.cells #[.slice none 0 0] 26)) := by go_grown
 go_enter Tryz.func7, Tryz.ntmps7
 go_wp2_with fail
 go_at_call 26
 refine (l1New bs v _ hl (reads_below hv hb0)).mono ?_
 rintro e w1 ⟨g, rfl, hg, hc1, b1⟩
 have lt1 : w.heap.size < g := by have := hg; simp at this; omega
 have R1 : w1.heap[w.heap.size]? = some (.cells #[.slice none 0 0] 26 (0, 0)) := (b1.block _ (by simp)).trans (heap_alloc_new w _)
 have L1 : Below w.heap.size w w1 := hb0.trans (b1.mono hb0.size)
 have g1 := curLt hc1
 go_wp2_with fail
 go_at_call 27
 refine (l3DrawAny g bs w1 hl hc1).mono ?_
 rintro e w2 ⟨u, L, rfl, h5, h14, pr2, hc2, hg2⟩
 obtain ⟨ua, un, uc, rfl⟩ := pr2.slice
 have s2 := hg2.size
 obtain ⟨w3, hw3⟩ : ∃ W, w2.alloc (.cells #[.slice ua un uc] 26) = W := ⟨_, rfl⟩
 obtain ⟨P, hPe⟩ : ∃ n, w2.heap.size = n := ⟨_, rfl⟩
 have D3 : Hid (PB w g bs P w1.heap.size (.slice ua un uc) L w3) := by
  show PB w g bs P w1.heap.size (.slice ua un uc) L w3
  rw [← hw3, ← hPe]; exact PB.begin lt1 g1 R1 L1 pr2 hc2 hg2
 have hP : w.heap.size < P := by omega
 have hgP : g < P := by omega
 have hcl := l7DrawClient g bs w3 hl D3.out.cur
 clear pr2 hc2 hg2 hc1 R1 L1 b1
 go_wp2_with fail
 go_at_call 28
 clear hw3 hPe
 refine hcl.mono ?_
 rintro e w4 ⟨n, rfl, hcc, hgc⟩
 have D4 : Hid (PB w g bs P w1.heap.size (.slice ua un uc) L w4) := D3.out.draw lt1 g1 hgP hcc hgc
 clear hcc hgc hcl
 obtain ⟨c4, f4⟩ := oneCell D4.out.box
 obtain ⟨r4, fr4⟩ := oneCell D4.out.res
 go_wp2_with fail
 go_at_call 29
 refine (l1From g bs 0 4 (by omega) (by omega) (by omega) w4 hl D4.out.cur).mono ?_
 rintro e w5 ⟨x1, rfl, hx10, hx11, hcc, hgc⟩
 have D5 : Hid (PB w g bs P w1.heap.size (.slice ua un uc) L w5) := D4.out.draw lt1 g1 hgP hcc hgc
 clear c4 f4 r4 fr4 hcc hgc
 obtain ⟨c5, f5⟩ := oneCell D5.out.box
 obtain ⟨r5, fr5⟩ := oneCell D5.out.res
 go_wp2_with fail
 go_at_call 29
 refine (l1From g bs 0 7 (by omega) (by omega) (by omega) w5 hl D5.out.cur).mono ?_
 rintro e w6 ⟨x2, rfl, hx20, hx21, hcc, hgc⟩
 have D6 : Hid (PB w g bs P w1.heap.size (.slice ua un uc) L w6) := D5.out.draw lt1 g1 hgP hcc hgc
 clear c5 f5 r5 fr5 hcc hgc
 obtain ⟨c6, f6⟩ := oneCell D6.out.box
 obtain ⟨r6, fr6⟩ := oneCell D6.out.res
 have hfr := fun W (hW : Cur W g bs) => l1From g bs 0 8 (by omega) (by omega) (by omega) W hl hW
 go_wp2_with fail
 refine wp_region_held_drew (S := fun w' => w'.cell? ⟨P, 0, none⟩ = some (.slice ua un uc)) (by kernel_rfl) c6 (fun hHeld => ?_)
 refine wpAnyH_take (i := 0) (oi := ?oia0) (v := .agg #[.slice ua un uc]) ?hia0 (by kernel_rfl) (by kernel_rfl) (by kernel_rfl) ?hqa0 ?hya0 hHeld ?hra0
 case hia0 =>
  simp only [gA, gB, gC]
  rfl
 case hqa0 => exact fun _ _ _ h => h
 case hya0 => exact Or.inl ⟨by kernel_rfl, fun w hSw => by go_simp⟩
 try simp only [Act.put, gD, gE, gF]
 refine wpAnyH_take (i := 1) (oi := ?oia1) (v := .int .i64 n) ?hia1 (by kernel_rfl) (by kernel_rfl) (by kernel_rfl) ?hqa1 ?hya1 hHeld ?hra1
 case hia1 =>
  simp only [gA, gB, gC]
  rfl
 case hqa1 => exact fun _ _ _ h => h
 case hya1 => exact Or.inl ⟨by kernel_rfl, fun w hSw => by go_simp⟩
 try simp only [Act.put, gD, gE, gF]
 refine wpAnyH_take (i := 2) (oi := ?oia2) (v := .int .i64 x1) ?hia2 (by kernel_rfl) (by kernel_rfl) (by kernel_rfl) ?hqa2 ?hya2 hHeld ?hra2
 case hia2 =>
  simp only [gA, gB, gC]
  rfl
 case hqa2 => exact fun _ _ _ h => h
 case hya2 => exact Or.inl ⟨by kernel_rfl, fun w hSw => by go_simp⟩
 try simp only [Act.put, gD, gE, gF]
 refine wpAnyH_take (i := 3) (oi := ?oia3) (v := .int .i64 x2) ?hia3 (by kernel_rfl) (by kernel_rfl) (by kernel_rfl) ?hqa3 ?hya3 hHeld ?hra3
 case hia3 =>
  simp only [gA, gB, gC]
  rfl
 case hqa3 => exact fun _ _ _ h => h
 case hya3 => exact Or.inl ⟨by kernel_rfl, fun w hSw => by go_simp⟩
 try simp only [Act.put, gD, gE, gF]
 refine wpAnyH_take (i := 4) (oi := ?oia4) (v := .pointer (some ⟨g, 0, none⟩)) ?hia4 (by kernel_rfl) (by kernel_rfl) (by kernel_rfl) ?hqa4 ?hya4 hHeld ?hra4
 case hia4 =>
  simp only [gA, gB, gC]
  rfl
 case hqa4 => exact fun _ _ _ h => h
 case hya4 => exact Or.inl ⟨by kernel_rfl, fun w hSw => by go_simp⟩
 try simp only [Act.put, gD, gE, gF]
 refine wpAnyH_ready (rs := [5]) (by kernel_rfl) (by simp) ?_
 refine (AllReadyH.cons (o := ?ooa5) ?hoa5 (fun K hK => ?hka5) AllReadyH.nil)
 case hoa5 =>
  simp only [gA, gB, gC]
  rfl
 case hka5 =>
  go_simp
  go_at_call 29
  refine (hfr w6.drew (cur_below D6.out.cur (Below.drew (Below.refl _ _)))).mono ?_
  rintro e w7 ⟨y, rfl, hy0, hy1, hc7, hg7'⟩
  have hg7 : w6.grownBy w7 (some g) := grown_trans (grown_of_below (Below.drew (Below.refl _ _)) (some g)) hg7'
  have D7 : Hid (PB w g bs P w1.heap.size (.slice ua un uc) L w7) := D6.out.draw lt1 g1 hgP hc7 hg7
  obtain ⟨c7, _⟩ := oneCell D7.out.box
  obtain ⟨r7, fr7⟩ := oneCell D7.out.res
  have k7 := D7.out.boxKept hP (.slice ua un uc)
  clear hc7 hg7 hg7'
  try go_wp2_with fail
  refine hK.out _ _ c7 (fun hHeld => ?_)
  clear hK K
  try simp only [Act.put, gD, gE, gF]
  refine wpAnyH_ready (rs := [6]) (by kernel_rfl) (by simp) ?_
  refine (AllReadyH.cons (o := ?ooa6) ?hoa6 (fun K hK => ?hka6) AllReadyH.nil)
  case hoa6 =>
   simp only [gA, gB, gC]
   rfl
  case hka6 =>
   go_simp
   try go_wp2_with fail
   refine hK.out _ _ k7 (fun hHeld => ?_)
   clear hK K
   try simp only [Act.put, gD, gE, gF]
   refine wpAnyH_take (i := 7) (oi := ?oia7) (v := .int .i64 n) ?hia7 (by kernel_rfl) (by kernel_rfl) (by kernel_rfl) ?hqa7 ?hya7 hHeld ?hra7
   case hia7 =>
    simp only [gA, gB, gC]
    rfl
   case hqa7 => exact fun _ _ _ h => h
   case hya7 => exact Or.inl ⟨by kernel_rfl, fun w hSw => by go_simp⟩
   try simp only [Act.put, gD, gE, gF]
   refine wpAnyH_take (i := 8) (oi := ?oia8) (v := .int .i64 x1) ?hia8 (by kernel_rfl) (by kernel_rfl) (by kernel_rfl) ?hqa8 ?hya8 hHeld ?hra8
   case hia8 =>
    simp only [gA, gB, gC]
    rfl
   case hqa8 => exact fun _ _ _ h => h
   case hya8 => exact Or.inl ⟨by kernel_rfl, fun w hSw => by go_simp⟩
   try simp only [Act.put, gD, gE, gF]
   refine wpAnyH_take (i := 9) (oi := ?oia9) (v := .int .i64 x2) ?hia9 (by kernel_rfl) (by kernel_rfl) (by kernel_rfl) ?hqa9 ?hya9 hHeld ?hra9
   case hia9 =>
    simp only [gA, gB, gC]
    rfl
   case hqa9 => exact fun _ _ _ h => h
   case hya9 => exact Or.inl ⟨by kernel_rfl, fun w hSw => by go_simp⟩
   try simp only [Act.put, gD, gE, gF]
   refine wpAnyH_take (i := 10) (oi := ?oia10) (v := .int .i64 y) ?hia10 (by kernel_rfl) (by kernel_rfl) (by kernel_rfl) ?hqa10 ?hya10 hHeld ?hra10
   case hia10 =>
    simp only [gA, gB, gC]
    rfl
   case hqa10 => exact fun _ _ _ h => h
   case hya10 => exact Or.inl ⟨by kernel_rfl, fun w hSw => by go_simp⟩
   try simp only [Act.put, gD, gE, gF]
   refine wpAnyH_done (by kernel_rfl) ?_ _
   obtain ⟨q1, q2, q3⟩ := D7.out.ends (by omega)
   clear hHeld c7 k7
   go_wp2
   refine bodyPost_ret (v := .tuple #[.agg #[.slice ua un uc], .int .i64 n, .int .i64 x1, .int .i64 x2, .int .i64 y]) (by simp [results, Tryz.results7, go_sem, q3]) rfl ?_
   exact ⟨_, L, n, x1, x2, y, rfl, h5, h14, hx10, hx11, hx20, hx21, q1, q2⟩
end Go.Proofs.YtdkdhjhhbkcciaaGreat
