/-
  What the laws draw of programs: spec.DrawProgramOk, DrawCalls, DrawCircles, DrawReach, DrawTables, DrawInner.
-/
import Derived.Test.YtmloeldgeegddaaDrawAny
import Derived.Test.YtmloeldgeegddaaG50DrawProc4
namespace Go.Proofs.Ytmloeldgeegddaa
open Go.RowKit
set_option linter.unusedVariables false
set_option linter.unusedSimpArgs false
set_option maxHeartbeats 1000000
attribute [local go_sem ↓] Go.wp_at_zero Go.wp_at_succ

theorem PrOk.slice {w : World} {base : Nat} {u : Value} {L : List Nat} (h : PrOk w base u L) : ∃ a n c, u = .slice a n c := by
  obtain ⟨ao, cap, e, _⟩ := h
  exact ⟨_, _, _, e⟩

theorem PrOk.mono {w : World} {base base' : Nat} {u : Value} {L : List Nat} (h : PrOk w base u L) (hb : base' ≤ base) : PrOk w base' u L := by
  obtain ⟨ao, cap, e, hcc⟩ := h
  refine ⟨ao, cap, e, fun j n hj => ?_⟩
  obtain ⟨q, off, x, e1, hb1, cx, hs⟩ := hcc j n hj
  refine ⟨q, off, x, e1, by omega, cx, ?_⟩
  rcases hs with hs | ⟨g', o, c', m, e', hb', hsb, hle⟩
  · exact .inl hs
  · exact .inr ⟨g', o, c', m, e', by omega, hsb, hle⟩

/-- The answer is laid into its box. -/
theorem PrOk.answered {w' : World} {base b : Nat} {u x : Value} {L : List Nat} (h : PrOk w' base u L) (hb : b < base) : PrOk (w'.setCell ⟨b, 0, none⟩ x) b u L :=
  (h.grown (grown_setCell7 w' b 0 x) (fun k hk => by cases hk; omega)).mono (Nat.le_of_lt hb)

/-- What a draw has in hand behind l3DrawAny: the Program in its box (P), the box of what is answered, the cursor. -/
structure PB (w : World) (g : Nat) (bs : List Int) (P base : Nat) (u : Value) (L : List Nat) (W : World) : Prop where
  pr : PrOk W base u L
  box : W.heap[P]? = some (.cells #[u] 26 (0, 0))
  res : W.heap[w.heap.size]? = some (.cells #[.slice none 0 0] 26 (0, 0))
  cur : Cur W g bs
  bel : Below w.heap.size w W

theorem PB.begin {w w1 w2 : World} {g : Nat} {bs : List Int} {u : Value} {L : List Nat} (lt1 : w.heap.size < g) (g1 : g < w1.heap.size) (R1 : w1.heap[w.heap.size]? = some (.cells #[.slice none 0 0] 26 (0, 0))) (L1 : Below w.heap.size w w1)
    (pr2 : PrOk w2 w1.heap.size u L) (hc2 : Cur w2 g bs) (hg2 : w1.grownBy w2 (some g)) : PB w g bs w2.heap.size w1.heap.size u L (w2.alloc (.cells #[u] 26)) := by
  have s2 := hg2.size
  have R2 := (hg2.block w.heap.size (by omega) (by simp; omega)).trans R1
  have L2 : Below w.heap.size w w2 := L1.grown hg2 L1.size (fun k e => by simp at e; omega)
  exact ⟨pr2.grown (World.grownBy_alloc w2 _ (some g)) (fun k hk => by cases hk; omega), heap_alloc_new w2 _, (old_block (by omega)).trans R2, curAlloc hc2 _, L2.alloc L2.size _⟩

theorem PB.draw {w : World} {g : Nat} {bs : List Int} {P base : Nat} {u : Value} {L : List Nat} {W W' : World} (h : PB w g bs P base u L W) (lt1 : w.heap.size < g) (g1 : g < base) (hP : g < P) (hc : Cur W' g bs) (hg : W.grownBy W' (some g)) : PB w g bs P base u L W' :=
  ⟨h.pr.grown hg (fun k hk => by cases hk; omega), blockGrown h.box hg (by omega), (hg.block w.heap.size (Array.getElem?_eq_some_iff.1 h.res).1 (by simp; omega)).trans h.res, hc, h.bel.grown hg h.bel.size (fun k e => by simp at e; omega)⟩

theorem PB.boxKept {w : World} {g : Nat} {bs : List Int} {P base : Nat} {u : Value} {L : List Nat} {W : World} (h : PB w g bs P base u L W) (hP : w.heap.size < P) (x : Value) : (W.setCell ⟨w.heap.size, 0, none⟩ x).cell? ⟨P, 0, none⟩ = some u :=
  (oneCell ((Below.heap_setCell _ _ _ _ (by simp; omega)).trans h.box)).1

theorem PB.ends {w : World} {g : Nat} {bs : List Int} {P base : Nat} {u : Value} {L : List Nat} {W : World} (h : PB w g bs P base u L W) (hb : w.heap.size < base) :
    PrOk (W.setCell ⟨w.heap.size, 0, none⟩ u) w.heap.size u L ∧ Below w.heap.size w (W.setCell ⟨w.heap.size, 0, none⟩ u) ∧ (W.setCell ⟨w.heap.size, 0, none⟩ u).cell? ⟨w.heap.size, 0, none⟩ = some u :=
  ⟨h.pr.answered hb, h.bel.setCell (by simp) _, (oneCell (one_set' h.res u)).1⟩

theorem drawProgramOk (bs : List Int) (v : Value) (w : World) (hl : bs.length ≤ 1048576) (hv : Reads w v (bs.map (Value.int .u8))) :
    Calls Try.prog 7 #[v] w fun e w' => ∃ (u : Value) (L : List Nat), e = .returned (.agg #[u]) ∧ L.length ≤ 5 ∧ (∀ n ∈ L, n ≤ 14) ∧ PrOk w' w.heap.size u L ∧ Below w.heap.size w w' := by
  have hb0 : Below w.heap.size w (w.alloc (.cells #[.slice none 0 0] 26)) := by go_grown
  go_enter Try.func7, Try.ntmps7
  go_wp2_with fail
  go_at_call 44
  refine (l1New bs v _ hl (reads_below hv hb0)).mono ?_
  rintro e w1 ⟨g, rfl, hg, hc1, b1⟩
  have lt1 : w.heap.size < g := by have := hg; simp at this; omega
  have R1 : w1.heap[w.heap.size]? = some (.cells #[.slice none 0 0] 26 (0, 0)) := (b1.block _ (by simp)).trans (heap_alloc_new w _)
  have L1 : Below w.heap.size w w1 := hb0.trans (b1.mono hb0.size)
  have g1 := curLt hc1
  go_wp2_with fail
  go_at_call 45
  refine (l3DrawAny g bs w1 hl hc1).mono ?_
  rintro e w2 ⟨u, L, rfl, h5, h14, pr2, hc2, hg2⟩
  obtain ⟨ua, un, uc, rfl⟩ := pr2.slice
  have s2 := hg2.size
  have R2 := (hg2.block w.heap.size (by omega) (by simp; omega)).trans R1
  have L2 : Below w.heap.size w w2 := L1.grown hg2 L1.size (fun k e => by simp at e; omega)
  obtain ⟨r2, fr2⟩ := oneCell R2
  have G5 := heap_setCell_same w2 w.heap.size 0 _ 26 (.slice ua un uc) R2
  simp at G5
  obtain ⟨d5, _⟩ := oneCell G5
  have PR : Hid (PrOk w2 w1.heap.size (.slice ua un uc) L) := pr2
  clear G5 pr2
  go_wp2_with fail
  refine bodyPost_ret (v := .agg #[.slice ua un uc]) (by simp [results, Try.results7, go_sem, d5]) rfl ?_
  exact ⟨_, L, rfl, h5, h14, PR.out.answered (by omega), L2.setCell (by simp) _⟩

--DRAWS
theorem drawCalls (bs : List Int) (v : Value) (w : World) (hl : bs.length ≤ 1048576) (hv : Reads w v (bs.map (Value.int .u8))) :
    Calls Try.prog 8 #[v] w fun e w' => ∃ (u : Value) (L : List Nat) (i : Int), e = .returned (.tuple #[.agg #[u], .int .i64 i]) ∧ L.length ≤ 5 ∧ (∀ n ∈ L, n ≤ 14) ∧ PrOk w' w.heap.size u L ∧ Below w.heap.size w w' := by
  have hb0 : Below w.heap.size w (w.alloc (.cells #[.slice none 0 0] 26)) := by go_grown
  go_enter Try.func8, Try.ntmps8
  go_wp2_with fail
  go_at_call 44
  refine (l1New bs v _ hl (reads_below hv hb0)).mono ?_
  rintro e w1 ⟨g, rfl, hg, hc1, b1⟩
  have lt1 : w.heap.size < g := by have := hg; simp at this; omega
  have R1 : w1.heap[w.heap.size]? = some (.cells #[.slice none 0 0] 26 (0, 0)) := (b1.block _ (by simp)).trans (heap_alloc_new w _)
  have L1 : Below w.heap.size w w1 := hb0.trans (b1.mono hb0.size)
  have g1 := curLt hc1
  go_wp2_with fail
  go_at_call 45
  refine (l3DrawAny g bs w1 hl hc1).mono ?_
  rintro e w2 ⟨u, L, rfl, h5, h14, pr2, hc2, hg2⟩
  obtain ⟨ua, un, uc, rfl⟩ := pr2.slice
  have s2 := hg2.size
  have D3 : Hid (PB w g bs w2.heap.size w1.heap.size (.slice ua un uc) L (w2.alloc (.cells #[.slice ua un uc] 26))) := PB.begin lt1 g1 R1 L1 pr2 hc2 hg2
  have hP : w.heap.size < w2.heap.size := by omega
  have hgP : g < w2.heap.size := by omega
  have z3 : (w2.alloc (.cells #[.slice ua un uc] 26)).heap.size = w2.heap.size + 1 := by simp
  obtain ⟨c3, f3⟩ := oneCell D3.out.box
  obtain ⟨r3, fr3⟩ := oneCell D3.out.res
  clear pr2 hc2 hg2 hc1 R1 L1 b1
  have hfr := fun W (hW : Cur W g bs) => l1From g bs (-1) 5 (by omega) (by omega) (by omega) W hl hW
  go_wp2_with fail
  go_region_held3 (fun w' => w'.cell? ⟨w2.heap.size, 0, none⟩ = some (.slice ua un uc)) (first | exact c3 | exact c4 | exact c5.out) (first
    | (go_at_call 46; refine (hfr _ (cur_below D3.out.cur (by go_grown))).mono ?_; rintro e w4 ⟨y, rfl, _, _, hc4, hg4'⟩; have hg4 : (w2.alloc (.cells #[.slice ua un uc] 26)).grownBy w4 (some g) := grown_trans (grown_of_below (by go_grown) (some g)) hg4'; have D4 : Hid _ := D3.out.draw lt1 g1 hgP hc4 hg4; (have c4 := (oneCell D4.out.box).1); obtain ⟨r4, fr4⟩ := oneCell D4.out.res; have c5 : Hid _ := D4.out.boxKept hP (.slice ua un uc)))
  all_goals
    obtain ⟨q1, q2, q3⟩ := D4.out.ends (by omega)
    clear c4 c5
    go_wp2
    refine bodyPost_ret (v := .tuple #[.agg #[.slice ua un uc], .int .i64 y]) (by simp [results, Try.results8, go_sem, q3]) rfl ?_
    exact ⟨_, L, y, rfl, h5, h14, q1, q2⟩

theorem drawCircles (bs : List Int) (v : Value) (w : World) (hl : bs.length ≤ 1048576) (hv : Reads w v (bs.map (Value.int .u8))) :
    Calls Try.prog 33 #[v] w fun e w' => ∃ (u : Value) (L : List Nat), e = .returned (.agg #[u]) ∧ L.length ≤ 5 ∧ (∀ n ∈ L, n ≤ 14) ∧ PrOk w' w.heap.size u L ∧ Below w.heap.size w w' := by
  have hb0 : Below w.heap.size w (w.alloc (.cells #[.slice none 0 0] 26)) := by go_grown
  go_enter Try.func33, Try.ntmps33
  go_wp2_with fail
  go_at_call 7
  refine (drawProgramOk bs v _ hl (reads_below hv hb0)).mono ?_
  rintro e w1 ⟨u, L, rfl, h5, h14, pr1, b1⟩
  obtain ⟨ua, un, uc, rfl⟩ := pr1.slice
  have R1 : w1.heap[w.heap.size]? = some (.cells #[.slice none 0 0] 26 (0, 0)) := (b1.block _ (by simp)).trans (heap_alloc_new w _)
  have L1 : Below w.heap.size w w1 := hb0.trans (b1.mono hb0.size)
  have z1 : (w.alloc (.cells #[.slice none 0 0] 26)).heap.size = w.heap.size + 1 := by simp
  rw [z1] at pr1
  obtain ⟨r1, fr1⟩ := oneCell R1
  have G5 := one_set' R1 (.slice ua un uc)
  obtain ⟨d5, _⟩ := oneCell G5
  have LW := Below.setCell (p := ⟨w.heap.size, 0, none⟩) L1 (Nat.le_refl _) (.slice ua un uc)
  have PR : Hid (PrOk w1 (w.heap.size + 1) (.slice ua un uc) L) := pr1
  clear pr1
  go_wp2
  refine bodyPost_ret (v := .agg #[.slice ua un uc]) (by simp [results, Try.results33, go_sem, d5]) rfl ?_
  exact ⟨_, L, rfl, h5, h14, PR.out.answered (by omega), LW⟩

theorem drawReach (bs : List Int) (v : Value) (w : World) (hl : bs.length ≤ 1048576) (hv : Reads w v (bs.map (Value.int .u8))) :
    Calls Try.prog 36 #[v] w fun e w' => ∃ (u : Value) (L : List Nat) (i : Int), e = .returned (.tuple #[.agg #[u], .int .i64 i]) ∧ L.length ≤ 5 ∧ (∀ n ∈ L, n ≤ 14) ∧ PrOk w' w.heap.size u L ∧ Below w.heap.size w w' := by
  have hb0 : Below w.heap.size w (w.alloc (.cells #[.slice none 0 0] 26)) := by go_grown
  go_enter Try.func36, Try.ntmps36
  go_wp2_with fail
  go_at_call 8
  refine (drawCalls bs v _ hl (reads_below hv hb0)).mono ?_
  rintro e w1 ⟨u, L, i, rfl, h5, h14, pr1, b1⟩
  obtain ⟨ua, un, uc, rfl⟩ := pr1.slice
  have R1 : w1.heap[w.heap.size]? = some (.cells #[.slice none 0 0] 26 (0, 0)) := (b1.block _ (by simp)).trans (heap_alloc_new w _)
  have L1 : Below w.heap.size w w1 := hb0.trans (b1.mono hb0.size)
  have z1 : (w.alloc (.cells #[.slice none 0 0] 26)).heap.size = w.heap.size + 1 := by simp
  rw [z1] at pr1
  obtain ⟨r1, fr1⟩ := oneCell R1
  have G5 := one_set' R1 (.slice ua un uc)
  obtain ⟨d5, _⟩ := oneCell G5
  have LW := Below.setCell (p := ⟨w.heap.size, 0, none⟩) L1 (Nat.le_refl _) (.slice ua un uc)
  have PR : Hid (PrOk w1 (w.heap.size + 1) (.slice ua un uc) L) := pr1
  clear pr1
  go_wp2
  refine bodyPost_ret (v := .tuple #[.agg #[.slice ua un uc], .int .i64 i]) (by simp [results, Try.results36, go_sem, d5]) rfl ?_
  exact ⟨_, L, i, rfl, h5, h14, PR.out.answered (by omega), LW⟩

end Go.Proofs.Ytmloeldgeegddaa
