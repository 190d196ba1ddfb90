/-
 Put together out of: DrawFlow, DrawProc4, DrawProgs, DrawProgs2, DrawStmtOk.
-/
import Derived.Deep.RegionHeld3
import Derived.Deep.DrawnRows
import Derived.Test.YtldagpfeaabcdaaGreatDoorDrawAny
import Derived.BigRegion
namespace Go.Proofs.YtldagpfeaabcdaaGreatDoor
open Go.RowKit
set_option linter.unusedVariables false
set_option maxHeartbeats 2000000
end Go.Proofs.YtldagpfeaabcdaaGreatDoor
namespace Go.Proofs.YtldagpfeaabcdaaGreatDoor
open Go.RowKit
set_option linter.unusedVariables false
set_option maxHeartbeats 2000000
attribute [local go_sem ↓] Go.wp_at_zero Go.wp_at_succ
theorem qg5 : ∀ (ss : List Stm) (k : Nat) (s : Stm), k < ss.length → (((ja3 ss).set (k * 3) (.int .i64 s.k)).set (k * 3 + 1) (.int .i64 s.x)).set (k * 3 + 2) (.int .i64 s.y) = ja3 (ss.set k s)
 | [], k, s, h => by simp at h
 | t :: ss, 0, s, _ => by simp [ja3]
 | t :: ss, k + 1, s, h => by
  have ih := qg5 ss k s (by simpa using h)
  have e : (k + 1) * 3 = k * 3 + 1 + 1 + 1 := by omega
  simp only [e, ja3, List.set_cons_succ]
  rw [← ih]
theorem one_set' {w : World} {b : Nat} {x : Value} {T : TypeId} (h : w.heap[b]? = some (.cells #[x] T (0, 0))) (y : Value) : (w.setCell ⟨b, 0, none⟩ y).heap[b]? = some (.cells #[y] T (0, 0)) := by
 have h1 := heap_setCell_same w b 0 _ T y h
 simpa using h1
structure DSt (g R S : Nat) (bs : List Int) (u : Value) (w : World) (ss : List Stm) (wr : World) : Prop where
 n1 : 1 ≤ ss.length
 n7 : ss.length ≤ 7
 own : wr.ownsRow (R + 1) 52 3 u ss.length (ja3 ss)
 cur : Cur wr g bs
 grown : w.grownBy wr (some g)
 res : wr.heap[R]? = some (.cells #[.slice none 0 0] 63 (0, 0))
 box : wr.heap[S]? = some (.cells #[u] 63 (0, 0))
 ne : ∀ k, u.ownBlock = some k → k ≠ S
theorem DSt.cells {g R S : Nat} {bs : List Int} {u : Value} {w : World} {ss : List Stm} {wr : World} (h : DSt g R S bs u w ss wr) : ∃ gu cap, u = .slice (some ⟨gu, 0, none⟩) ss.length cap ∧ R < gu ∧ gu ≠ S ∧ gu < wr.heap.size ∧ ∀ j, j < ss.length * 3 → (∃ x, wr.cell? ⟨gu, j, none⟩ = some x) ∧ wr.frozen? ⟨gu, j, none⟩ = false := by
 rcases h.own.2 with ⟨_, h0⟩ | ⟨gu, cap, cur, rfl, hb, hg, _⟩
 · have := h.n1; omega
 · exact ⟨gu, cap, rfl, by omega, h.ne gu rfl, (h.own.lt gu rfl).2, fun j hj => ⟨jo6 h.own j hj, h.own.frozenAt j⟩⟩
theorem DSt.cellAt {g R S : Nat} {bs : List Int} {gu cap n : Nat} {w : World} {ss : List Stm} {wr : World} (h : DSt g R S bs (.slice (some ⟨gu, 0, none⟩) n cap) w ss wr) (hn : ss.length = n) (j : Nat) (hj : j < n * 3) : (∃ x, wr.cell? ⟨gu, j, none⟩ = some x) ∧ wr.frozen? ⟨gu, j, none⟩ = false := by
 subst hn
 exact ⟨jo6 h.own j hj, h.own.frozenAt j⟩
theorem DSt.put {g R S : Nat} {bs : List Int} {gu cap : Nat} {w : World} {ss : List Stm} {wr : World} (h : DSt g R S bs (.slice (some ⟨gu, 0, none⟩) ss.length cap) w ss wr) (hgR : g < R) (hR : R = w.heap.size) (k : Nat) (hk : k < ss.length) (s : Stm) :
 DSt g R S bs (.slice (some ⟨gu, 0, none⟩) ss.length cap) w (ss.set k s) (((wr.setCell ⟨gu, k * 3, none⟩ (.int .i64 s.k)).setCell ⟨gu, k * 3 + 1, none⟩ (.int .i64 s.x)).setCell ⟨gu, k * 3 + 2, none⟩ (.int .i64 s.y)) := by
 have hgu := (h.own.lt gu rfl).1
 have hne := h.ne gu rfl
 have o3 := (((h.own.stored (k * 3) (.int .i64 s.k)).1.stored (k * 3 + 1) (.int .i64 s.x)).1.stored (k * 3 + 2) (.int .i64 s.y)).1
 rw [qg5 ss k s hk] at o3
 refine ⟨by simpa using h.n1, by simpa using h.n7, by simpa using o3, jc6 (jc6 (jc6 h.cur (by omega) _) (by omega) _) (by omega) _, jb6 (jb6 (jb6 h.grown (by omega) _) (by omega) _) (by omega) _, ?_, ?_, fun k' hk' => h.ne k' hk'⟩
 · rw [Below.heap_setCell _ _ _ _ (by simp; omega), Below.heap_setCell _ _ _ _ (by simp; omega), Below.heap_setCell _ _ _ _ (by simp; omega)]; exact h.res
 · rw [Below.heap_setCell _ _ _ _ (by simp; omega), Below.heap_setCell _ _ _ _ (by simp; omega), Below.heap_setCell _ _ _ _ (by simp; omega)]; exact h.box
theorem DSt.step {g R S : Nat} {bs : List Int} {u : Value} {w : World} {ss : List Stm} {wr wr' : World} (h : DSt g R S bs u w ss wr) (hgR : g < R) (hgS : g < S) (hg : wr.grownBy wr' (some g)) (hc : Cur wr' g bs) : DSt g R S bs u w ss wr' where
 n1 := h.n1
 n7 := h.n7
 own := jd5 h.own hg (fun k hk e => by have := (h.own.lt k hk).1; simp at e; omega)
 cur := hc
 grown := ja8 h.grown hg
 res := jb4 h.res hg hgR
 box := jb4 h.box hg hgS
 ne := h.ne
end Go.Proofs.YtldagpfeaabcdaaGreatDoor
namespace Go.Proofs.YtldagpfeaabcdaaGreatDoor
open Go.RowKit
set_option linter.unusedVariables false
set_option linter.unusedSimpArgs false
set_option maxHeartbeats 1000000
attribute [local go_sem ↓] Go.wp_at_zero Go.wp_at_succ
theorem PrOk.slice {w : World} {base : Nat} {u : Value} {L : List Nat} (h : PrOk w base u L) : ∃ a n c, u = .slice a n c := by
 obtain ⟨ao, cap, e, _⟩ := h
 exact ⟨_, _, _, e⟩
theorem PrOk.mono {w : World} {base base' : Nat} {u : Value} {L : List Nat} (h : PrOk w base u L) (hb : base' ≤ base) : PrOk w base' u L := by
 obtain ⟨ao, cap, e, hcc⟩ := h
 refine ⟨ao, cap, e, fun j n hj => ?_⟩
 obtain ⟨q, off, x, e1, hb1, cx, hs⟩ := hcc j n hj
 refine ⟨q, off, x, e1, by omega, cx, ?_⟩
 rcases hs with hs | ⟨g', o, c', m, e', hb', hsb, hle⟩
 · exact .inl hs
 · exact .inr ⟨g', o, c', m, e', by omega, hsb, hle⟩
theorem PrOk.answered {w' : World} {base b : Nat} {u x : Value} {L : List Nat} (h : PrOk w' base u L) (hb : b < base) : PrOk (w'.setCell ⟨b, 0, none⟩ x) b u L :=
 (h.grown (jc2 w' b 0 x) (fun k hk => by cases hk; omega)).mono (Nat.le_of_lt hb)
structure PB (w : World) (g : Nat) (bs : List Int) (P base : Nat) (u : Value) (L : List Nat) (W : World) : Prop where
 pr : PrOk W base u L
 box : W.heap[P]? = some (.cells #[u] 26 (0, 0))
 res : W.heap[w.heap.size]? = some (.cells #[.slice none 0 0] 26 (0, 0))
 cur : Cur W g bs
 bel : Below w.heap.size w W
theorem PB.begin {w w1 w2 : World} {g : Nat} {bs : List Int} {u : Value} {L : List Nat} (lt1 : w.heap.size < g) (g1 : g < w1.heap.size) (R1 : w1.heap[w.heap.size]? = some (.cells #[.slice none 0 0] 26 (0, 0))) (L1 : Below w.heap.size w w1)
 (pr2 : PrOk w2 w1.heap.size u L) (hc2 : Cur w2 g bs) (hg2 : w1.grownBy w2 (some g)) : PB w g bs w2.heap.size w1.heap.size u L (w2.alloc (.cells #[u] 26)) := by
 have s2 := hg2.size
 have R2 := (hg2.block w.heap.size (by omega) (by simp; omega)).trans R1
 have L2 : Below w.heap.size w w2 := L1.grown hg2 L1.size (fun k e => by simp at e; omega)
 exact ⟨pr2.grown (World.grownBy_alloc w2 _ (some g)) (fun k hk => by cases hk; omega), heap_alloc_new w2 _, (ja2 (by omega)).trans R2, jg6 hc2 _, L2.alloc L2.size _⟩
theorem PB.draw {w : World} {g : Nat} {bs : List Int} {P base : Nat} {u : Value} {L : List Nat} {W W' : World} (h : PB w g bs P base u L W) (lt1 : w.heap.size < g) (g1 : g < base) (hP : g < P) (hc : Cur W' g bs) (hg : W.grownBy W' (some g)) : PB w g bs P base u L W' :=
 ⟨h.pr.grown hg (fun k hk => by cases hk; omega), jb4 h.box hg (by omega), (hg.block w.heap.size (Array.getElem?_eq_some_iff.1 h.res).1 (by simp; omega)).trans h.res, hc, h.bel.grown hg h.bel.size (fun k e => by simp at e; omega)⟩
theorem PB.boxKept {w : World} {g : Nat} {bs : List Int} {P base : Nat} {u : Value} {L : List Nat} {W : World} (h : PB w g bs P base u L W) (hP : w.heap.size < P) (x : Value) : (W.setCell ⟨w.heap.size, 0, none⟩ x).cell? ⟨P, 0, none⟩ = some u :=
 (ja6 ((Below.heap_setCell _ _ _ _ (by simp; omega)).trans h.box)).1
theorem PB.ends {w : World} {g : Nat} {bs : List Int} {P base : Nat} {u : Value} {L : List Nat} {W : World} (h : PB w g bs P base u L W) (hb : w.heap.size < base) :
 PrOk (W.setCell ⟨w.heap.size, 0, none⟩ u) w.heap.size u L ∧ Below w.heap.size w (W.setCell ⟨w.heap.size, 0, none⟩ u) ∧ (W.setCell ⟨w.heap.size, 0, none⟩ u).cell? ⟨w.heap.size, 0, none⟩ = some u :=
 ⟨h.pr.answered hb, h.bel.setCell (by simp) _, (ja6 (one_set' h.res u)).1⟩
theorem drawCalls (bs : List Int) (v : Value) (w : World) (hl : bs.length ≤ 1048576) (hv : jf8 w v (bs.map (Value.int .u8))) :
 Calls Tryz.prog 29 #[v] w fun e w' => ∃ (u : Value) (L : List Nat) (i : Int), e = .returned (.tuple #[.agg #[u], .int .i64 i]) ∧ L.length ≤ 5 ∧ (∀ n ∈ L, n ≤ 14) ∧ PrOk w' w.heap.size u L ∧ Below w.heap.size w w' := by
 have hb0 : Below w.heap.size w (w.alloc (.cells #[.slice none 0 0] 26)) := by go_grown
 go_enter Tryz.func29, Tryz.ntmps29
 go_wp2_with fail
 go_at_call 19
 refine (l1New bs v _ hl (jc7 hv hb0)).mono ?_
 rintro e w1 ⟨g, rfl, hg, hc1, b1⟩
 have lt1 : w.heap.size < g := by have := hg; simp at this; omega
 have R1 : w1.heap[w.heap.size]? = some (.cells #[.slice none 0 0] 26 (0, 0)) := (b1.block _ (by simp)).trans (heap_alloc_new w _)
 have L1 : Below w.heap.size w w1 := hb0.trans (b1.mono hb0.size)
 have g1 := jv8 hc1
 go_wp2_with fail
 go_at_call 20
 refine (l3DrawAny g bs w1 hl hc1).mono ?_
 rintro e w2 ⟨u, L, rfl, h5, h14, pr2, hc2, hg2⟩
 obtain ⟨ua, un, uc, rfl⟩ := pr2.slice
 have s2 := hg2.size
 have D3 : Hid (PB w g bs w2.heap.size w1.heap.size (.slice ua un uc) L (w2.alloc (.cells #[.slice ua un uc] 26))) := PB.begin lt1 g1 R1 L1 pr2 hc2 hg2
 have hP : w.heap.size < w2.heap.size := by omega
 have hgP : g < w2.heap.size := by omega
 have z3 : (w2.alloc (.cells #[.slice ua un uc] 26)).heap.size = w2.heap.size + 1 := by simp
 obtain ⟨c3, f3⟩ := ja6 D3.out.box
 obtain ⟨r3, fr3⟩ := ja6 D3.out.res
 clear pr2 hc2 hg2 hc1 R1 L1 b1
 have hfr := fun W (hW : Cur W g bs) => js9 g bs (-1) 5 (by omega) (by omega) (by omega) W hl hW
 go_wp2_with fail
 go_region_held3 (fun w' => w'.cell? ⟨w2.heap.size, 0, none⟩ = some (.slice ua un uc)) (first | exact c3 | exact c4 | exact c5.out) (first
  | (go_at_call 48; refine (hfr _ (jg5 D3.out.cur (by go_grown))).mono ?_; rintro e w4 ⟨y, rfl, _, _, hc4, hg4'⟩; have hg4 : (w2.alloc (.cells #[.slice ua un uc] 26)).grownBy w4 (some g) := ja8 (jb3 (by go_grown) (some g)) hg4'; have D4 : Hid _ := D3.out.draw lt1 g1 hgP hc4 hg4; (have c4 := (ja6 D4.out.box).1); obtain ⟨r4, fr4⟩ := ja6 D4.out.res; have c5 : Hid _ := D4.out.boxKept hP (.slice ua un uc)))
 all_goals
  obtain ⟨q1, q2, q3⟩ := D4.out.ends (by omega)
  clear c4 c5
  go_wp2
  refine bodyPost_ret (v := .tuple #[.agg #[.slice ua un uc], .int .i64 y]) (by simp [results, Tryz.results29, go_sem, q3]) rfl ?_
  exact ⟨_, L, y, rfl, h5, h14, q1, q2⟩
end Go.Proofs.YtldagpfeaabcdaaGreatDoor
namespace Go.Proofs.YtldagpfeaabcdaaGreatDoor
open Go.RowKit
set_option linter.unusedVariables false
set_option linter.unusedSimpArgs false
set_option maxHeartbeats 2000000
set_option maxRecDepth 20000
attribute [local go_sem ↓] Go.wp_at_zero Go.wp_at_succ
theorem SlOk.kept {w : World} {base b n : Nat} {x v : Value} (h : SlOk w base x n) (hb : b < base) : SlOk (w.setCell ⟨b, 0, none⟩ v) b x n := by
 rcases h with h | ⟨g, o, cap, m, e, hg, hs, hle⟩
 · exact .inl h
 · exact .inr ⟨g, o, cap, m, e, by omega, hs.same (heap_setCell_other w ⟨b, 0, none⟩ g v (by simp; omega)), hle⟩
theorem l1MaxB (a b : Int) (w : World) : Calls Tryz.prog 51 #[.int .i64 a, .int .i64 b] w fun e w' => (∃ x : Int, e = .returned (.int .i64 x) ∧ (x = a ∨ x = b)) ∧ w = w' := by
 by_cases h : b < a
 · go_enter Tryz.func51, Tryz.ntmps51
   go_wp2
   go_ret
   exact ⟨⟨_, rfl, .inl rfl⟩, rfl⟩
 · go_enter Tryz.func51, Tryz.ntmps51
   go_wp2
   go_ret
   exact ⟨⟨_, rfl, .inr rfl⟩, rfl⟩
structure EB (w : World) (g : Nat) (bs : List Int) (P : Nat) (u : Value) (L : List Nat) (W : World) : Prop where
 box : W.heap[P]? = some (.cells #[u] 26 (0, 0))
 pr : PrOk W (g + 1) u L
 rp : W.heap[w.heap.size]? = some (.cells #[.slice none 0 0] 26 (0, 0))
 rs : W.heap[w.heap.size + 1]? = some (stm3 ⟨0, 0, 0⟩)
 cur : Cur W g bs
 bel : Below w.heap.size w W
theorem EB.begin {w w1 w2 : World} {g : Nat} {bs : List Int} {u : Value} {L : List Nat} (lt1 : w.heap.size + 1 < g) (g1 : g < w1.heap.size) (R1 : w1.heap[w.heap.size]? = some (.cells #[.slice none 0 0] 26 (0, 0))) (S1 : w1.heap[w.heap.size + 1]? = some (stm3 ⟨0, 0, 0⟩)) (L1 : Below w.heap.size w w1)
 (pr2 : PrOk w2 w1.heap.size u L) (hc2 : Cur w2 g bs) (hg2 : w1.grownBy w2 (some g)) : EB w g bs w2.heap.size u L (w2.alloc (.cells #[u] 26)) := by
 have s2 := hg2.size
 have R2 := (hg2.block w.heap.size (by omega) (by simp; omega)).trans R1
 have S2 := (hg2.block (w.heap.size + 1) (by omega) (by simp; omega)).trans S1
 have L2 : Below w.heap.size w w2 := L1.grown hg2 L1.size (fun k e => by simp at e; omega)
 exact ⟨heap_alloc_new w2 _, (pr2.grown (World.grownBy_alloc w2 _ (some g)) (fun k hk => by cases hk; omega)).mono (by omega), (ja2 (by omega)).trans R2, (ja2 (by omega)).trans S2, jg6 hc2 _, L2.alloc L2.size _⟩
theorem EB.draw {w : World} {g : Nat} {bs : List Int} {P : Nat} {u : Value} {L : List Nat} {W W' : World} (h : EB w g bs P u L W) (lt1 : w.heap.size + 1 < g) (hP : g < P) (hc : Cur W' g bs) (hg : W.grownBy W' (some g)) : EB w g bs P u L W' :=
 ⟨jb4 h.box hg (by omega), h.pr.grown hg (fun k hk => by cases hk; omega), (hg.block w.heap.size (Array.getElem?_eq_some_iff.1 h.rp).1 (by simp; omega)).trans h.rp, (hg.block (w.heap.size + 1) (Array.getElem?_eq_some_iff.1 h.rs).1 (by simp; omega)).trans h.rs, hc, h.bel.grown hg h.bel.size (fun k e => by simp at e; omega)⟩
theorem frozen0 {W : World} {B : Nat} {C : Array Value} {t : TypeId} (q : W.heap[B]? = some (.cells C t (0, 0))) (i : Nat) : W.frozen? ⟨B, i, none⟩ = false := by
 simp [World.frozen?, q]
theorem qg8 {W : World} {B : Nat} {v0 v1 v2 : Value} {t : TypeId} (q : W.heap[B]? = some (.cells #[v0, v1, v2] t (0, 0))) (x y z : Value) : (((W.setCell ⟨B, 0, none⟩ x).setCell ⟨B, 1, none⟩ y).setCell ⟨B, 2, none⟩ z).heap[B]? = some (.cells #[x, y, z] t (0, 0)) := by
 have h1 := heap_setCell_same W B 0 _ t x q
 have h2 := heap_setCell_same _ B 1 _ t y h1
 have h3 := heap_setCell_same _ B 2 _ t z h2
 simpa using h3
theorem EB.ends {w : World} {g : Nat} {bs : List Int} {P : Nat} {u : Value} {L : List Nat} {W : World} (h : EB w g bs P u L W) (lt1 : w.heap.size + 1 < g) (k x y : Int) (W' : World)
 (hW : ((((W.setCell ⟨w.heap.size, 0, none⟩ u).setCell ⟨w.heap.size + 1, 0, none⟩ (.int .i64 k)).setCell ⟨w.heap.size + 1, 1, none⟩ (.int .i64 x)).setCell ⟨w.heap.size + 1, 2, none⟩ (.int .i64 y)).drew = W') :
 PrOk W' w.heap.size u L ∧ Below w.heap.size w W' ∧ W'.cell? ⟨w.heap.size, 0, none⟩ = some u ∧ W'.cell? ⟨w.heap.size + 1, 0, none⟩ = some (.int .i64 k) ∧ W'.cell? ⟨w.heap.size + 1, 1, none⟩ = some (.int .i64 x) ∧ W'.cell? ⟨w.heap.size + 1, 2, none⟩ = some (.int .i64 y) := by
 obtain ⟨W1, h1⟩ : ∃ z, W.setCell ⟨w.heap.size, 0, none⟩ u = z := ⟨_, rfl⟩
 rw [h1] at hW
 have s1 : W1.heap[w.heap.size + 1]? = some (stm3 ⟨0, 0, 0⟩) := by rw [← h1, heap_setCell_other W ⟨w.heap.size, 0, none⟩ (w.heap.size + 1) u (by simp)]; exact h.rs
 have p1 : W1.heap[w.heap.size]? = some (.cells #[u] 26 (0, 0)) := by rw [← h1]; exact one_set' h.rp u
 have pr1 : PrOk W1 (g + 1) u L := by rw [← h1]; exact h.pr.grown (jc2 W w.heap.size 0 u) (fun k hk => by cases hk; omega)
 have b1 : Below w.heap.size w W1 := by rw [← h1]; exact h.bel.setCell (by simp) _
 obtain ⟨W2, h2⟩ : ∃ z, (((W1.setCell ⟨w.heap.size + 1, 0, none⟩ (.int .i64 k)).setCell ⟨w.heap.size + 1, 1, none⟩ (.int .i64 x)).setCell ⟨w.heap.size + 1, 2, none⟩ (.int .i64 y)) = z := ⟨_, rfl⟩
 rw [h2] at hW
 have g2 := qh4 W1 (w.heap.size + 1) 0 1 2 (.int .i64 k) (.int .i64 x) (.int .i64 y)
 have s2 := qg8 s1 (.int .i64 k) (.int .i64 x) (.int .i64 y)
 rw [h2] at g2 s2
 have p2 := (g2.block w.heap.size (Array.getElem?_eq_some_iff.1 p1).1 (by simp)).trans p1
 have pr2 := pr1.grown g2 (fun k hk => by cases hk; omega)
 have b2 : Below w.heap.size w W2 := b1.grown g2 b1.size (fun k e => by simp at e; omega)
 have bd : Below W2.heap.size W2 W2.drew := by go_grown
 rw [hW] at bd
 have pr3 := pr2.grown (jb3 bd (some w.heap.size)) (fun k hk => by cases hk; omega)
 have p3 := (bd.block w.heap.size (Array.getElem?_eq_some_iff.1 p2).1).trans p2
 have s3 := (bd.block (w.heap.size + 1) (Array.getElem?_eq_some_iff.1 s2).1).trans s2
 have b3 := b2.grown (jb3 bd (some w.heap.size)) b2.size (fun k e => by simp at e; omega)
 obtain ⟨d0, d1, d2⟩ := jk9 s3
 exact ⟨pr3.mono (by omega), b3, (ja6 p3).1, d0, d1, d2⟩
end Go.Proofs.YtldagpfeaabcdaaGreatDoor
namespace Go.Proofs.YtldagpfeaabcdaaGreatDoor
open Go.RowKit
set_option linter.unusedVariables false
set_option linter.unusedSimpArgs false
set_option maxHeartbeats 2000000
set_option maxRecDepth 20000
attribute [local go_sem ↓] Go.wp_at_zero Go.wp_at_succ
structure QB (w : World) (g : Nat) (bs : List Int) (Q : Nat) (s : Stm) (W : World) : Prop where
 box : W.heap[Q]? = some (stm3 s)
 res : W.heap[w.heap.size]? = some (stm3 ⟨0, 0, 0⟩)
 cur : Cur W g bs
 bel : Below w.heap.size w W
theorem QB.draw {w : World} {g : Nat} {bs : List Int} {Q : Nat} {s : Stm} {W W' : World} (h : QB w g bs Q s W) (lt1 : w.heap.size < g) (hQ : g < Q) (hc : Cur W' g bs) (hg : W.grownBy W' (some g)) : QB w g bs Q s W' :=
 ⟨jb4 h.box hg (by omega), (hg.block w.heap.size (Array.getElem?_eq_some_iff.1 h.res).1 (by simp; omega)).trans h.res, hc, h.bel.grown hg h.bel.size (fun k e => by simp at e; omega)⟩
theorem QB.ends {w : World} {g : Nat} {bs : List Int} {Q : Nat} {s : Stm} {W : World} (h : QB w g bs Q s W) (k x y : Value) (W' : World) (hW : (((W.setCell ⟨w.heap.size, 0, none⟩ k).setCell ⟨w.heap.size, 1, none⟩ x).setCell ⟨w.heap.size, 2, none⟩ y) = W') :
 Below w.heap.size w W' ∧ W'.heap[w.heap.size]? = some (.cells #[k, x, y] 52 (0, 0)) := by
 have s2 := qg8 h.res k x y
 have b2 := ((h.bel.setCell (p := ⟨w.heap.size, 0, none⟩) (Nat.le_refl _) k).setCell (p := ⟨w.heap.size, 1, none⟩) (Nat.le_refl _) x).setCell (p := ⟨w.heap.size, 2, none⟩) (Nat.le_refl _) y
 rw [hW] at s2 b2
 exact ⟨b2, s2⟩
theorem QB.put {w : World} {g : Nat} {bs : List Int} {Q : Nat} {s : Stm} {W : World} (h : QB w g bs Q s W) (lt1 : w.heap.size < g) (hQ : g < Q) (o : Nat) (v : Value) (s' : Stm) (hs : (W.setCell ⟨Q, o, none⟩ v).heap[Q]? = some (stm3 s')) : QB w g bs Q s' (W.setCell ⟨Q, o, none⟩ v) :=
 ⟨hs, by rw [heap_setCell_other W ⟨Q, o, none⟩ w.heap.size v (by simp; omega)]; exact h.res, jc6 h.cur hQ _, h.bel.setCell (by simp; omega) _⟩
end Go.Proofs.YtldagpfeaabcdaaGreatDoor
