/-
  Put together out of: DrawSolved, DrawWays.
-/
import Derived.Test.YtebadimjpbhagaaG35DrawRel
import Derived.Test.YtebadimjpbhagaaSpecFlow
import Derived.Test.YtebadimjpbhagaaDrawProc4
import Derived.BigRegion
/-
  spec.DrawSolved: some Proc in rows of its own, and two numbers.
-/
namespace Go.Proofs.Ytebadimjpbhagaa
open Go.RowKit
set_option linter.unusedVariables false
set_option maxHeartbeats 2000000
set_option maxRecDepth 20000
attribute [local go_sem ↓] Go.wp_at_zero Go.wp_at_succ

theorem l1Max (a b : Int) (w : World) : Calls Try.prog 34 #[.int .i64 a, .int .i64 b] w fun e w' => (∃ x : Int, e = .returned (.int .i64 x)) ∧ w = w' := by
  by_cases h : b < a
  · go_enter Try.func34, Try.ntmps34
    go_wp2
    go_ret
    exact ⟨⟨_, rfl⟩, rfl⟩
  · go_enter Try.func34, Try.ntmps34
    go_wp2
    go_ret
    exact ⟨⟨_, rfl⟩, rfl⟩

theorem drawSolved (bs : List Int) (v : Value) (w : World) (hl : bs.length ≤ 1048576) (hv : Reads w v (bs.map (Value.int .u8))) :
    Calls Try.prog 6 #[v] w fun e w' => ∃ (u : Value) (ss : List Stm) (n s : Int), e = .returned (.tuple #[.agg #[u], .int .i64 n, .int .i64 s]) ∧ 1 ≤ ss.length ∧ ss.length ≤ 7 ∧ w'.ownsRow w.heap.size 77 3 u ss.length (cells3 ss) ∧ Below w.heap.size w w' := by
  have hb0 : Below w.heap.size w (w.alloc (.cells #[.slice none 0 0] 26)) := by go_grown
  go_enter Try.func6, Try.ntmps6
  go_wp2_with fail
  go_at_call 30
  refine (l1New bs v _ hl (reads_below hv hb0)).mono ?_
  rintro e w1 ⟨g, rfl, hg, hc1, b1⟩
  have lt1 : w.heap.size < g := by have := hg; simp at this; omega
  have R1 : w1.heap[w.heap.size]? = some (.cells #[.slice none 0 0] 26 (0, 0)) := (b1.block _ (by simp)).trans (heap_alloc_new w _)
  have L1 : Below w.heap.size w w1 := hb0.trans (b1.mono hb0.size)
  have g1 := curLt hc1
  go_wp2_with fail
  go_at_call 31
  refine (l4DrawProc g bs w1 hl hc1).mono ?_
  rintro e w2 ⟨u, ss, rfl, h1, h7, own2, hc2, hg2⟩
  have s2 := hg2.size
  have R2 := (hg2.block w.heap.size (by omega) (by simp; omega)).trans R1
  have L2 : Below w.heap.size w w2 := L1.grown hg2 L1.size (fun k e => by simp at e; omega)
  have X3 := heap_alloc_new w2 (.cells #[u] 26)
  have hc3 := curAlloc hc2 (.cells #[u] 26)
  have R3 : (w2.alloc (.cells #[u] 26)).heap[w.heap.size]? = _ := (old_block (by omega)).trans R2
  have L3 : Below w.heap.size w (w2.alloc (.cells #[u] 26)) := L2.alloc L2.size _
  have own3 := own2.alloc (.cells #[u] 26)
  have z3 : (w2.alloc (.cells #[u] 26)).heap.size = w2.heap.size + 1 := by simp
  obtain ⟨ua, un, uc, hu⟩ := ownSlice own2
  subst hu
  have HO : Hid (∀ W, (w2.alloc (.cells #[.slice ua un uc] 26)).grownBy W (some g) → W.ownsRow w1.heap.size 77 3 (.slice ua un uc) ss.length (cells3 ss) ∧ Below w.heap.size w W ∧ W.heap[w.heap.size]? = some (.cells #[.slice none 0 0] 26 (0, 0)) ∧ W.heap[w2.heap.size]? = some (.cells #[.slice ua un uc] 26 (0, 0))) := fun W hg4 =>
    ⟨own_grown own3 hg4 (fun k hk e => by have := (own2.lt k hk).1; simp at e; omega), L3.grown hg4 L3.size (fun k e => by simp at e; omega), (hg4.block w.heap.size (by rw [z3]; omega) (by simp; omega)).trans R3, blockGrown X3 hg4 (by omega)⟩
  have HEND : Hid (∀ W, (w2.alloc (.cells #[.slice ua un uc] 26)).grownBy W (some g) → (W.setCell ⟨w.heap.size, 0, none⟩ (.slice ua un uc)).ownsRow w.heap.size 77 3 (.slice ua un uc) ss.length (cells3 ss) ∧ Below w.heap.size w (W.setCell ⟨w.heap.size, 0, none⟩ (.slice ua un uc)) ∧ (W.setCell ⟨w.heap.size, 0, none⟩ (.slice ua un uc)).cell? ⟨w.heap.size, 0, none⟩ = some (.slice ua un uc)) := fun W hW => by
    obtain ⟨q1, q2, q3, q4⟩ := HO.out W hW
    exact ⟨own_mono (ownsRow_setCell_other q1 (a := ⟨w.heap.size, 0, none⟩) (fun e => by have h : w1.heap.size ≤ w.heap.size := (q1.lt _ e).1; omega) _) (by omega), q2.setCell (by simp) _, (oneCell (one_set' q3 (.slice ua un uc))).1⟩
  clear R3 R2 R1 own3 X3 L3
  go_wp2_with fail
  go_at_call 32
  refine (l7DrawClient g bs _ hl hc3).mono ?_
  rintro e w4 ⟨n, rfl, hc4, hg4⟩
  go_wp2_with fail
  go_at_call 33
  refine (l1Once g bs 2 (by omega) w4 hl hc4).mono ?_
  rintro e w5 ⟨b, rfl, hc5, hg5⟩
  have hg45 := grown_trans hg4 hg5
  obtain ⟨_, _, r5, x5⟩ := HO.out _ hg45
  obtain ⟨c5, f5⟩ := oneCell x5
  obtain ⟨d5, e5⟩ := oneCell r5
  have zw : w.heap.size < w5.heap.size := by have := hg45.size; rw [z3] at this; omega
  have zu : w2.heap.size < w5.heap.size := by have := hg45.size; rw [z3] at this; omega
  have HC7 : Hid (∀ W, (w2.alloc (.cells #[.slice ua un uc] 26)).grownBy W (some g) → (W.setCell ⟨w.heap.size, 0, none⟩ (.slice ua un uc)).cell? ⟨w2.heap.size, 0, none⟩ = some (.slice ua un uc)) := fun W hW =>
    (oneCell ((Below.heap_setCell _ _ _ _ (by simp; omega)).trans (HO.out W hW).2.2.2)).1
  cases b
  · have hds := fun W hW => l6DrawSet g bs W hl hW
    go_wp2_with fail
    go_region_held3 (fun w' => w'.cell? ⟨w2.heap.size, 0, none⟩ = some (.slice ua un uc)) (first | exact c5 | exact c6 | exact c7.out) (first
      | (go_at_call 36; refine (hds _ (cur_below hc5 (by go_grown))).mono ?_; rintro e w6 ⟨y, rfl, hc6, hg6'⟩; have hg6 : w5.grownBy w6 (some g) := grown_trans (grown_of_below (by go_grown) (some g)) hg6'; have hgA := grown_trans hg45 hg6; have Z6 := HO.out _ hgA; (have c6 := (oneCell Z6.2.2.2).1); obtain ⟨r6, fr6⟩ := oneCell Z6.2.2.1; have c7 : Hid _ := HC7.out _ hgA))
    all_goals
      obtain ⟨q1, q2, q3⟩ := HEND.out _ hgA
      clear Z6 c6 c7
      go_wp2
      refine bodyPost_ret (v := .tuple #[.agg #[.slice ua un uc], .int .i64 n, .int .i64 y]) (by simp [results, Try.results6, go_sem, q3]) rfl ?_
      exact ⟨_, ss, n, y, rfl, h1, h7, q1, q2⟩
  · have hst := fun W => specStart n W
    have hmx := fun W => l1Max 0 (startAns n) W
    go_wp2_with fail
    go_region_held3 (fun w' => w'.cell? ⟨w2.heap.size, 0, none⟩ = some (.slice ua un uc)) (first | exact c5 | exact c6 | exact c7.out) (first
      | (go_at_call 35; refine (hst _).mono ?_; rintro e w6 ⟨rfl, b6⟩; have M6 : Below w5.heap.size w5 w6 := Below.trans (by go_grown) b6; have hg6 : w5.grownBy w6 (some g) := grown_of_below M6 (some g); have hgA := grown_trans hg45 hg6; have Z6 := HO.out _ hgA; (have c6 := (oneCell Z6.2.2.2).1); obtain ⟨r6, fr6⟩ := oneCell Z6.2.2.1; have c7 : Hid _ := HC7.out _ hgA)
      | (go_at_call 34; refine (hmx _).mono ?_; rintro e w7 ⟨⟨y, rfl⟩, rfl⟩))
    all_goals
      obtain ⟨q1, q2, q3⟩ := HEND.out _ hgA
      clear Z6 c6 c7
      go_wp2
      refine bodyPost_ret (v := .tuple #[.agg #[.slice ua un uc], .int .i64 n, .int .i64 y]) (by simp [results, Try.results6, go_sem, q3]) rfl ?_
      exact ⟨_, ss, n, y, rfl, h1, h7, q1, q2⟩

end Go.Proofs.Ytebadimjpbhagaa

/-
  spec.DrawWays: some Proc in rows of its own, and two numbers.
-/
namespace Go.Proofs.Ytebadimjpbhagaa
open Go.RowKit
set_option linter.unusedVariables false
set_option maxHeartbeats 2000000
attribute [local go_sem ↓] Go.wp_at_zero Go.wp_at_succ

/-- The world in the last region: the cursor turns, and the answer's block. -/
structure DJ (R X g n : Nat) (bs : List Int) (u : Value) (ss : List Stm) (base : Nat) (w0 : World) (b : Bool) (wr : World) : Prop where
  cur : b = false → Cur wr g bs
  px : wr.heap[X]? = some (.cells #[u] 26 (0, 0))
  pr : ∃ c, wr.heap[R]? = some (.cells #[c] 26 (0, 0)) ∧ (b = true → c = u)
  own : wr.ownsRow base 77 3 u ss.length (cells3 ss)
  low : Below w0.heap.size w0 wr
  hR : R = w0.heap.size
  hg : g < base
  hR2 : R < base

theorem DJ.x0 {R X g n : Nat} {bs : List Int} {u : Value} {ss : List Stm} {base : Nat} {w0 : World} {b : Bool} {wr : World} (h : DJ R X g n bs u ss base w0 b wr) : wr.cell? ⟨X, 0, none⟩ = some u := (oneCell h.px).1
theorem DJ.r0 {R X g n : Nat} {bs : List Int} {u : Value} {ss : List Stm} {base : Nat} {w0 : World} {b : Bool} {wr : World} (h : DJ R X g n bs u ss base w0 b wr) : (wr.cell? ⟨R, 0, none⟩).isSome = true := by
  obtain ⟨c, hc, _⟩ := h.pr
  rw [(oneCell hc).1]; rfl
theorem DJ.r1 {R X g n : Nat} {bs : List Int} {u : Value} {ss : List Stm} {base : Nat} {w0 : World} {b : Bool} {wr : World} (h : DJ R X g n bs u ss base w0 b wr) : wr.frozen? ⟨R, 0, none⟩ = false := by
  obtain ⟨c, hc, _⟩ := h.pr
  exact (oneCell hc).2

theorem DJ.step {R X g n : Nat} {bs : List Int} {u : Value} {ss : List Stm} {base : Nat} {w0 : World} {b : Bool} {wr w' : World} (h : DJ R X g n bs u ss base w0 b wr) (hRg : R < g) (hgX : g < X) (hc : Cur w' g bs) (hg : wr.grownBy w' (some g)) : DJ R X g n bs u ss base w0 b w' where
  cur := fun _ => hc
  px := blockGrown h.px hg hgX
  pr := by
    obtain ⟨c, h1, h2⟩ := h.pr
    exact ⟨c, (hg.block R (Array.getElem?_eq_some_iff.1 h1).1 (by simp; omega)).trans h1, h2⟩
  own := own_grown h.own hg (fun k hk e => by have := (h.own.lt k hk).1; have := h.hg; simp at e; omega)
  low := h.low.grown hg h.low.size (fun k e => by have := h.hR; simp at e; omega)
  hR := h.hR
  hg := h.hg
  hR2 := h.hR2

theorem DJ.store {R X g n : Nat} {bs : List Int} {u : Value} {ss : List Stm} {base : Nat} {w0 : World} {b : Bool} {wr : World} (h : DJ R X g n bs u ss base w0 b wr) (hRg : R < g) (hgX : g < X) : DJ R X g n bs u ss base w0 true (wr.setCell ⟨R, 0, none⟩ u) where
  cur := fun e => absurd e (by simp)
  px := (Below.heap_setCell wr ⟨R, 0, none⟩ u X (by simp; omega)).trans h.px
  pr := by
    obtain ⟨c, h1, h2⟩ := h.pr
    exact ⟨u, one_set' h1 u, fun _ => rfl⟩
  own := ownsRow_setCell_other h.own (a := ⟨R, 0, none⟩) (fun e => by have h1 : base ≤ R := (h.own.lt _ e).1; have := h.hR2; omega) _
  low := h.low.setCell (by have := h.hR; show w0.heap.size ≤ R; omega) _
  hR := h.hR
  hg := h.hg
  hR2 := h.hR2

/-- The list of eight numbers. -/
def lit8 : List Value := [.int .i64 0, .int .i64 1, .int .i64 3, .int .i64 5, .int .i64 7, .int .i64 8, .int .i64 10, .int .i64 6]

def LitS (X : Nat) (wr : World) (v : Value) : Prop := ∃ B, v = .slice (some ⟨B, 0, none⟩) 8 8 ∧ X < B ∧ wr.heap[B]? = some (.cells lit8.toArray 2 (0, 0))
def LitP (X : Nat) (wr : World) (v : Value) : Prop := ∃ B o, o < 8 ∧ v = .pointer (some ⟨B, o, none⟩) ∧ X < B ∧ wr.heap[B]? = some (.cells lit8.toArray 2 (0, 0))

theorem lit_cell {wr : World} {B o : Nat} (hB : wr.heap[B]? = some (.cells lit8.toArray 2 (0, 0))) (ho : o < 8) : wr.cell? ⟨B, o, none⟩ = some (.int .i64 ([0, 1, 3, 5, 7, 8, 10, 6].getD o (0 : Int))) := by
  rw [cell_of_row _ _ o _ _ (0, 0) hB]
  have hc : o = 0 ∨ o = 1 ∨ o = 2 ∨ o = 3 ∨ o = 4 ∨ o = 5 ∨ o = 6 ∨ o = 7 := by omega
  rcases hc with rfl | rfl | rfl | rfl | rfl | rfl | rfl | rfl <;> rfl

theorem LitS.grown {X : Nat} {wr w' : World} {v : Value} (h : LitS X wr v) {g : Nat} (hg : wr.grownBy w' (some g)) (hgX : g < X) : LitS X w' v := by
  obtain ⟨B, e, hX, hB⟩ := h
  exact ⟨B, e, hX, blockGrown hB hg (by omega)⟩
theorem LitP.grown {X : Nat} {wr w' : World} {v : Value} (h : LitP X wr v) {g : Nat} (hg : wr.grownBy w' (some g)) (hgX : g < X) : LitP X w' v := by
  obtain ⟨B, o, ho, e, hX, hB⟩ := h
  exact ⟨B, o, ho, e, hX, blockGrown hB hg (by omega)⟩
theorem LitP.alloc {X : Nat} {wr : World} {v : Value} (h : LitP X wr v) (o : Obj) : LitP X (wr.alloc o) v := by
  obtain ⟨B, k, ho, e, hX, hB⟩ := h
  exact ⟨B, k, ho, e, hX, (old_block (Array.getElem?_eq_some_iff.1 hB).1).trans hB⟩
theorem LitS.set {X : Nat} {wr : World} {v : Value} (h : LitS X wr v) {R : Nat} (hR : R < X) {u : Value} : LitS X (wr.setCell ⟨R, 0, none⟩ u) v := by
  obtain ⟨B, e, hX, hB⟩ := h
  exact ⟨B, e, hX, (Below.heap_setCell wr ⟨R, 0, none⟩ u B (by simp; omega)).trans hB⟩
theorem LitP.set {X : Nat} {wr : World} {v : Value} (h : LitP X wr v) {R : Nat} (hR : R < X) {u : Value} : LitP X (wr.setCell ⟨R, 0, none⟩ u) v := by
  obtain ⟨B, o, ho, e, hX, hB⟩ := h
  exact ⟨B, o, ho, e, hX, (Below.heap_setCell wr ⟨R, 0, none⟩ u B (by simp; omega)).trans hB⟩

theorem DJ.xlt {R X g n : Nat} {bs : List Int} {u : Value} {ss : List Stm} {base : Nat} {w0 : World} {b : Bool} {wr : World} (h : DJ R X g n bs u ss base w0 b wr) : X < wr.heap.size := (Array.getElem?_eq_some_iff.1 h.px).1

theorem DJ.alloc {R X g n : Nat} {bs : List Int} {u : Value} {ss : List Stm} {base : Nat} {w0 : World} {b : Bool} {wr : World} (h : DJ R X g n bs u ss base w0 b wr) (o : Obj) (_ : 0 ≤ R) : DJ R X g n bs u ss base w0 b (wr.alloc o) where
  cur := fun e => curAlloc (h.cur e) o
  px := (old_block h.xlt).trans h.px
  pr := by
    obtain ⟨c, h1, h2⟩ := h.pr
    exact ⟨c, (old_block (Array.getElem?_eq_some_iff.1 h1).1).trans h1, h2⟩
  own := h.own.alloc o
  low := h.low.alloc h.low.size o
  hR := h.hR
  hg := h.hg
  hR2 := h.hR2

/-- What the region has, operation by operation. -/
def DWFct (R X g : Nat) (u : Value) (at4 : Int) (l : Nat → Bool) (x18 x19 x21 x3 : Value) : Prop :=
  (l 0 = true → x18 = .agg #[u]) ∧ (l 1 = true → x19 = .int .i64 at4) ∧ (l 3 = true → x21 = .pointer (some ⟨g, 0, none⟩)) ∧ (l 8 = true → x3 = .int .i64 at4)

set_option maxRecDepth 20000 in
/-- The invariant of that region. -/
def DWInv (R X g : Nat) (u : Value) (at4 : Int) (J : Bool → World → Prop) (l : Nat → Bool) (a : Act) (wr : World) : Prop :=
  ∃ y0 y1 y4 y8 y9 y10 y11 y12 y13 y14 y15 y16 y17 y20 y22 y23 y24 x18 x19 x21 x3 : Value,
    a = { tmps := List.toArray (y0 :: y1 :: .pointer (some ⟨R, 0, none⟩) :: x3 :: y4 :: .pointer (some ⟨g, 0, none⟩) :: .pointer (some ⟨X, 0, none⟩) :: .int .i64 at4 :: y8 :: y9 :: y10 :: y11 :: y12 :: y13 :: y14 :: y15 :: y16 :: y17 :: x18 :: x19 :: y20 :: x21 :: y22 :: y23 :: y24 :: []), defers := [] } ∧
    (J (l 7) wr ∧ (l 7 = true → l 4 = true) ∧ (l 2 = true → LitS X wr y20) ∧ (l 4 = true → ∃ z : Nat, z < 8 ∧ y22 = .int .i64 (z : Int)) ∧ (l 5 = true → LitP X wr y23) ∧ (l 6 = true → ∃ q : Int, y24 = .int .i64 q) ∧ (l 9 = true → ∃ q : Int, y4 = .int .i64 q)) ∧ DWFct R X g u at4 l x18 x19 x21 x3

end Go.Proofs.Ytebadimjpbhagaa
