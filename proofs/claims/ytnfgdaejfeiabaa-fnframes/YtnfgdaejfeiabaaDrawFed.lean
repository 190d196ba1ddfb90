/-
  spec.DrawFed: what it draws.
-/
import Derived.Test.YtnfgdaejfeiabaaDrawReader
namespace Go.Proofs.Ytnfgdaejfeiabaa
open Go.RowKit
set_option linter.unusedVariables false
set_option maxHeartbeats 1000000

/-- string(..) of a row Z of n bytes. -/
def CV (n : Nat) (Z : Array Value) (zs : ByteArray) : Prop :=
  ∀ (W : World) (b : Nat), W.heap[b]? = some (.cells Z 5 (0, 0)) → (convert 22 9 (.slice (some ⟨b, 0, none⟩) n n)).run Try.prog W = .ok (.string zs) W

/-- What DrawFed's region that makes a long chunk has, operation by operation. -/
def DFct (z g : Nat) (bs : List Int) (p : ByteArray) (q : Bool) (l : Nat → Bool) (x3 x32 x33 x34 x35 x36 x37 : Value) (wr : World) : Prop :=
    (l 6 = true → wr.heap[z]? = some (.cells #[.string p, .bool q] 27 (0, 0)) ∧ l 0 = true ∧ l 2 = true) ∧
    (l 6 = false → wr.heap[z]? = some (.cells #[.string ⟨#[]⟩, .bool false] 27 (0, 0)) ∧ Cur wr g bs) ∧
    (l 0 = true → x32 = .agg #[.string p, .bool q]) ∧
    (l 1 = true → x33 = .pointer (some ⟨g, 0, none⟩)) ∧
    (l 2 = true → ∃ y : Int, x34 = .int .i64 y ∧ 0 ≤ y ∧ y < 2) ∧
    (l 3 = true → ∃ y : Int, x35 = .int .i64 y ∧ 20000 ≤ y ∧ y < 20002) ∧
    (l 4 = true → ∃ (b n : Nat) (Z : Array Value) (zs : ByteArray), x36 = .slice (some ⟨b, 0, none⟩) n n ∧ g < b ∧ wr.heap[b]? = some (.cells Z 5 (0, 0)) ∧ CV n Z zs) ∧
    (l 5 = true → ∃ c : ByteArray, x37 = .string c) ∧
    (l 7 = true → ∃ c : ByteArray, x3 = .string c)

/-- The invariant of that region. -/
def DInv (B z g X : Nat) (bs : List Int) (w : World) (p : ByteArray) (q : Bool) (l : Nat → Bool) (a : Act) (wr : World) : Prop :=
  ∃ y0 y1 y5 y6 y8 y9 y10 y11 y12 y13 y14 y15 y16 y17 y18 y19 y20 y21 y22 y23 y24 y25 y26 y27 y28 y29 y30 y31 y38 y39 y40 y41 x3 x32 x33 x34 x35 x36 x37 : Value, a = { tmps := List.toArray (y0 :: y1 :: .pointer (some ⟨z, 0, none⟩) :: x3 :: .pointer (some ⟨g, 0, none⟩) :: y5 :: y6 :: .pointer (some ⟨X, 0, none⟩) :: y8 :: y9 :: y10 :: y11 :: y12 :: y13 :: y14 :: y15 :: y16 :: y17 :: y18 :: y19 :: y20 :: y21 :: y22 :: y23 :: y24 :: y25 :: y26 :: y27 :: y28 :: y29 :: y30 :: y31 :: x32 :: x33 :: x34 :: x35 :: x36 :: x37 :: y38 :: y39 :: y40 :: y41 :: []), defers := [] } ∧
    Below B w wr ∧ g < wr.heap.size ∧ wr.heap[X]? = some (.cells #[.string p, .bool q] 27 (0, 0)) ∧ DFct z g bs p q l x3 x32 x33 x34 x35 x36 x37 wr

theorem drawFed (bs : List Int) (v : Value) (w : World) (hl : bs.length ≤ 1048576) (hv : Reads w v (bs.map (Value.int .u8))) :
    Calls Try.prog 7 #[v] w fun e w' => ∃ (r : ByteArray) (d : Bool) (c : ByteArray), e = .returned (.tuple #[.agg #[.string r, .bool d], .string c]) ∧ Below w.heap.size w w' := by
  have hb0 : Below w.heap.size w (w.alloc (.cells #[.string ⟨#[]⟩, .bool false] 27)) := by go_grown
  go_enter Try.func7, Try.ntmps7
  go_wp2_with fail
  go_at_call 15
  refine (l1New bs v _ hl (reads_below hv hb0)).mono ?_
  rintro e w1 ⟨g, rfl, hg, hc1, b1⟩
  have lt1 : w.heap.size < g := by have := hg; simp at this; omega
  have R1 : w1.heap[w.heap.size]? = some (.cells #[.string ⟨#[]⟩, .bool false] 27 (0, 0)) := (b1.block _ (by simp)).trans (heap_alloc_new w _)
  have LW : Below w.heap.size w w1 := hb0.trans (b1.mono hb0.size)
  go_wp2_with fail
  go_at_call 19
  refine (l2DrawBytes g bs w1 hl hc1).mono ?_
  rintro e w2 ⟨s, rfl, hs, hc2, hg2⟩
  have L2 : Below g w1 w2 := below_grown (Below.refl _ _) hg2 (Nat.le_of_lt (cur_lt hc1))
  go_wp2_with fail
  go_at_call 17
  refine (l1Below g bs ((s.size : Int) + 1) (by omega) w2 hl hc2).mono ?_
  rintro e w3 ⟨k, rfl, hk0, hk1, _, hc3, hg3⟩
  have hk1 : k ≤ s.size := by have := hk1 (by omega); omega
  have L3 : Below g w1 w3 := below_grown L2 hg3 (Nat.le_of_lt (cur_lt hc2))
  have hsl := slice_to s k hk0 hk1
  have hsz : (ByteArray.mk #[]).size + (s.extract 0 k.toNat).size ≤ 1000000 := by
    have : (s.extract 0 k.toNat).size ≤ s.size := by rw [ByteArray.size_extract]; omega
    have h0 : (ByteArray.mk #[]).size = 0 := rfl
    omega
  have hfed := l2Fed ⟨#[]⟩ (s.extract 0 k.toNat) hsz w3
  revert hfed
  generalize offs 1000001 ((⟨#[]⟩ : ByteArray) ++ s.extract 0 k.toNat) = O
  obtain ⟨ts, p, q⟩ := O
  intro hfed
  simp only at hfed
  go_wp2_with fail
  go_at_call 20
  refine hfed.mono ?_
  rintro e w4 ⟨u, rfl, _, b4⟩
  clear hfed hsl hsz
  have hlt3 := cur_lt hc3
  have L4 : Below g w1 w4 := L3.trans (b4.mono (Nat.le_of_lt hlt3))
  have hc4 := cur_below hc3 b4
  have hlt4 := cur_lt hc4
  have hc5 := cur_alloc hc4 (.cells #[.string p, .bool q] 27)
  have L5 : Below g w1 (w4.alloc (.cells #[.string p, .bool q] 27)) := L4.alloc (Nat.le_of_lt hlt4) _
  have X5 := heap_alloc_new w4 (.cells #[.string p, .bool q] 27)
  go_wp2_with fail
  go_at_call 16
  refine (l1Once g bs 8 (by omega) _ hl hc5).mono ?_
  rintro e w6 ⟨o, rfl, hc6, hg6⟩
  have L6 : Below g w1 w6 := below_grown L5 hg6 (by simp; omega)
  have X6 := block_grown X5 hg6 hlt4
  have hgX0 : g < w4.heap.size := hlt4
  generalize w4.heap.size = X at *
  clear hc5 L5 X5 hc4 hlt4 L4
  have hvr := reads_below hv (LW.trans (L6.mono (Nat.le_of_lt lt1)))
  have hgX : g < X := hgX0
  cases o
  case' true =>
    obtain ⟨c0, c1, f0, f1⟩ := two_cells X6
    go_wp2_with fail
    go_at_call 9
    refine (drawReaderOk bs v w6 hl hvr).mono ?_
    rintro e w8 ⟨p, q, rfl, _, b8⟩
    have hX8 := (b8.block X (Array.getElem?_eq_some_iff.1 X6).1).trans X6
    have hc8 := cur_below hc6 b8
    have L8 : Below g w1 w8 := L6.trans (b8.mono (Nat.le_of_lt (cur_lt hc6)))
    clear c0 c1 f0 f1 L6 X6 hc6 b8
    obtain ⟨c0, c1, f0, f1⟩ := two_cells hX8
    have X6 := two_set hX8 (.string p) (.bool q)
    have L6 : Below g w1 ((w8.setCell ⟨X, 0, none⟩ (.string p)).setCell ⟨X, 1, none⟩ (.bool q)) := (L8.setCell (Nat.le_of_lt hgX) _).setCell (Nat.le_of_lt hgX) _
    have hc6 := cur_grown (cur_grown hc8 (grown_setCell w8 X 0 (.string p)) (by simp; omega)) (grown_setCell _ X 1 (.bool q)) (by simp; omega)
    clear hX8 hc8 L8
    go_wp2_with fail
    clear c0 c1 f0 f1
  all_goals
    have hgX' := (Array.getElem?_eq_some_iff.1 X6).1
    obtain ⟨c0, c1, f0, f1⟩ := two_cells X6
    try go_wp2_with fail
    go_at_call 16
    refine (l1Once g bs 30 (by omega) _ hl hc6).mono ?_
    rintro e w7 ⟨o7, rfl, hc7, hg7⟩
    have L7 : Below g w1 w7 := below_grown L6 hg7 (Nat.le_of_lt (cur_lt hc6))
    have X7 := block_grown X6 hg7 hgX
    have LW7 : Below w.heap.size w w7 := LW.trans (L7.mono (Nat.le_of_lt lt1))
    have R7 := (L7.block w.heap.size lt1).trans R1
    clear c0 c1 f0 f1 hc6 L6 X6 hgX' hg7
    cases o7 with
    | false =>
      obtain ⟨c0, c1, f0, f1⟩ := two_cells X7
      obtain ⟨e0, e1, i0, i1⟩ := two_cells R7
      obtain ⟨t0, t1, t2⟩ := two_read R7 (.string p) (.bool q)
      have hsl := slice_from s k hk0 hk1
      clear X7 R7
      go_wp2_with fail
      go_region
      all_goals
        go_wp2
        refine bodyPost_ret (v := .tuple #[.agg #[.string p, .bool q], .string (s.extract k.toNat s.size)]) (by simp [results, Try.results7, go_sem, t1, t2]) rfl ?_
        exact ⟨p, q, _, rfl, (show Below w.heap.size w w7.drew from LW7.drew).setCell (by simp) _ |>.setCell (by simp) _⟩
    | true =>
      have hlt7 := cur_lt hc7
      go_wp2_with fail
      refine wp_region_inv (by kernel_rfl) (by kernel_rfl) (DInv w.heap.size w.heap.size g X bs w p q) ?h0 ?hs ?he
      case h0 => exact ⟨_, _, _, _, _, _, _, _, _, _, _, _, _, _, _, _, _, _, _, _, _, _, _, _, _, _, _, _, _, _, _, _, _, _, _, _, _, _, _, rfl, LW7.drew, hlt7, X7, by simp, fun _ => ⟨R7, cur_below hc7 (by go_grown)⟩, by simp, by simp, by simp, by simp, by simp, by simp, by simp⟩
      case hs =>
        intro l i o a wr ho hI hli haf
        obtain ⟨y0, y1, y5, y6, y8, y9, y10, y11, y12, y13, y14, y15, y16, y17, y18, y19, y20, y21, y22, y23, y24, y25, y26, y27, y28, y29, y30, y31, y38, y39, y40, y41, x3, x32, x33, x34, x35, x36, x37, rfl, hbr, hgl, hX, pf⟩ := hI
        have hi : i < 8 := (Array.getElem?_eq_some_iff.1 ho).1
        by_cases hi7 : i = 7
        · subst hi7
          simp only [List.getElem?_toArray, List.getElem?_cons_zero, List.getElem?_cons_succ, Option.some.injEq] at ho
          subst ho
          simp [Region.binds] at haf
          obtain ⟨c, rfl⟩ := pf.2.2.2.2.2.2.2.1 haf.1
          go_wp2_with fail
          obtain ⟨p6, p6f, p0, p1, p2, p3, p4, p5, p7⟩ := pf
          exact ⟨_, _, _, _, _, _, _, _, _, _, _, _, _, _, _, _, _, _, _, _, _, _, _, _, _, _, _, _, _, _, _, _, _, _, _, _, _, _, _, rfl, hbr, hgl, hX, p6, p6f, p0, p1, p2, p3, p4, p5, fun _ => ⟨c, rfl⟩⟩
        have hcases : i = 0 ∨ i = 1 ∨ i = 2 ∨ i = 3 ∨ i = 4 ∨ i = 5 ∨ i = 6 := by omega
        rcases hcases with rfl | rfl | rfl | rfl | rfl | rfl | rfl
        · simp only [List.getElem?_toArray, List.getElem?_cons_zero, Option.some.injEq] at ho
          subst ho
          obtain ⟨c0, c1, f0, f1⟩ := two_cells hX
          go_wp2_with fail
          obtain ⟨p6, p6f, p0, p1, p2, p3, p4, p5, p7⟩ := pf
          exact ⟨_, _, _, _, _, _, _, _, _, _, _, _, _, _, _, _, _, _, _, _, _, _, _, _, _, _, _, _, _, _, _, _, _, _, _, _, _, _, _, rfl, hbr, hgl, hX, (fun h => ⟨(p6 h).1, rfl, (p6 h).2.2⟩), p6f, fun _ => rfl, p1, p2, p3, p4, p5, p7⟩
        · simp only [List.getElem?_toArray, List.getElem?_cons_zero, List.getElem?_cons_succ, Option.some.injEq] at ho
          subst ho
          go_wp2_with fail
          obtain ⟨p6, p6f, p0, p1, p2, p3, p4, p5, p7⟩ := pf
          exact ⟨_, _, _, _, _, _, _, _, _, _, _, _, _, _, _, _, _, _, _, _, _, _, _, _, _, _, _, _, _, _, _, _, _, _, _, _, _, _, _, rfl, hbr, hgl, hX, p6, p6f, p0, fun _ => rfl, p2, p3, p4, p5, p7⟩
        · simp only [List.getElem?_toArray, List.getElem?_cons_zero, List.getElem?_cons_succ, Option.some.injEq] at ho
          subst ho
          simp [Region.binds] at haf
          obtain rfl : x33 = _ := pf.2.2.2.1 haf
          have h6 : l 6 = false := by
            cases h6 : l 6 with
            | false => rfl
            | true => rw [(pf.1 h6).2.2] at hli; cases hli
          have hcr := (pf.2.1 h6).2
          go_wp2_with fail
          go_at_call 17
          refine (l1Below g bs 2 (by omega) wr hl hcr).mono ?_
          rintro e w9 ⟨y, rfl, hy0, hy1, _, hc9, hg9⟩
          have hy1 := hy1 (by omega)
          have hs9 := hg9.size
          go_wp2_with fail
          obtain ⟨p6, p6f, p0, p1, p2, p3, p4, p5, p7⟩ := pf
          exact ⟨_, _, _, _, _, _, _, _, _, _, _, _, _, _, _, _, _, _, _, _, _, _, _, _, _, _, _, _, _, _, _, _, _, _, _, _, _, _, _, rfl, below_grown hbr hg9 hbr.size (Nat.le_of_lt lt1), by omega, block_grown hX hg9 hgX, (fun h => absurd (show l 6 = true from h) (by rw [h6]; simp)), (fun _ => ⟨(hg9.block w.heap.size (by omega) (by simp; omega)).trans (p6f h6).1, hc9⟩), p0, p1, fun _ => ⟨y, rfl, hy0, hy1⟩, p3, (fun h => by obtain ⟨b, n, Z, zs, h1, h2, h3, h4⟩ := p4 h; exact ⟨b, n, Z, zs, h1, h2, block_grown h3 hg9 h2, h4⟩), p5, p7⟩
        · simp only [List.getElem?_toArray, List.getElem?_cons_zero, List.getElem?_cons_succ, Option.some.injEq] at ho
          subst ho
          simp [Region.binds] at haf
          obtain ⟨y, rfl, hy0, hy1⟩ := pf.2.2.2.2.1 haf
          go_wp2_with fail
          obtain ⟨p6, p6f, p0, p1, p2, p3, p4, p5, p7⟩ := pf
          exact ⟨_, _, _, _, _, _, _, _, _, _, _, _, _, _, _, _, _, _, _, _, _, _, _, _, _, _, _, _, _, _, _, _, _, _, _, _, _, _, _, rfl, hbr, hgl, hX, p6, p6f, p0, p1, p2, fun _ => ⟨20000 + y, rfl, by omega, by omega⟩, p4, p5, p7⟩
        · simp only [List.getElem?_toArray, List.getElem?_cons_zero, List.getElem?_cons_succ, Option.some.injEq] at ho
          subst ho
          simp [Region.binds] at haf
          obtain ⟨y, rfl, hy0, hy1⟩ := pf.2.2.2.2.2.1 haf
          obtain ⟨n, hn⟩ : ∃ n : Nat, y = n := ⟨y.toNat, by omega⟩
          obtain ⟨Z, zs, hzs, hmk, hcv⟩ := makeBytes n y hn (by omega)
          have HCV : Hid _ := hcv
          clear hcv
          clear hn
          go_wp2_with fail
          obtain ⟨p6, p6f, p0, p1, p2, p3, p4, p5, p7⟩ := pf
          exact ⟨_, _, _, _, _, _, _, _, _, _, _, _, _, _, _, _, _, _, _, _, _, _, _, _, _, _, _, _, _, _, _, _, _, _, _, _, _, _, _, rfl, hbr.alloc hbr.size _, by simp; omega, (old_block (Array.getElem?_eq_some_iff.1 hX).1).trans hX, (fun h => ⟨(old_block (Array.getElem?_eq_some_iff.1 (p6 h).1).1).trans (p6 h).1, (p6 h).2⟩), (fun h => ⟨(old_block (Array.getElem?_eq_some_iff.1 (p6f h).1).1).trans (p6f h).1, cur_alloc (p6f h).2 _⟩), p0, p1, p2, p3, fun _ => ⟨wr.heap.size, n, Z, zs, rfl, hgl, heap_alloc_new wr _, HCV.out⟩, p5, p7⟩
        · simp only [List.getElem?_toArray, List.getElem?_cons_zero, List.getElem?_cons_succ, Option.some.injEq] at ho
          subst ho
          simp [Region.binds] at haf
          obtain ⟨b, n, Z, zs, rfl, hb1, hb2, hb3⟩ := pf.2.2.2.2.2.2.1 haf
          have hcv := hb3 wr b hb2
          have HB3 : Hid _ := hb3
          clear hb3
          go_wp2_with fail
          obtain ⟨p6, p6f, p0, p1, p2, p3, p4, p5, p7⟩ := pf
          exact ⟨_, _, _, _, _, _, _, _, _, _, _, _, _, _, _, _, _, _, _, _, _, _, _, _, _, _, _, _, _, _, _, _, _, _, _, _, _, _, _, rfl, hbr, hgl, hX, p6, p6f, p0, p1, p2, p3, p4, fun _ => ⟨zs, rfl⟩, p7⟩
        · simp only [List.getElem?_toArray, List.getElem?_cons_zero, List.getElem?_cons_succ, Option.some.injEq] at ho
          subst ho
          simp [Region.binds] at haf
          obtain rfl : x32 = _ := pf.2.2.1 haf.1
          obtain ⟨hz, hcr⟩ := pf.2.1 hli
          obtain ⟨c0, c1, f0, f1⟩ := two_cells hz
          have hset := two_set hz (.string p) (.bool q)
          have HS : Hid _ := hset
          clear hset
          go_wp2_with fail
          obtain ⟨p6, p6f, p0, p1, p2, p3, p4, p5, p7⟩ := pf
          refine ⟨_, _, _, _, _, _, _, _, _, _, _, _, _, _, _, _, _, _, _, _, _, _, _, _, _, _, _, _, _, _, _, _, _, _, _, _, _, _, _, rfl, (hbr.setCell (by simp) _).setCell (by simp) _, by simp [World.setCell]; omega, ?_, fun _ => ⟨HS.out, haf.1, haf.2.1⟩, (fun h => by simp at h), p0, p1, p2, p3, (fun h => ?_), p5, p7⟩
          · rw [Below.heap_setCell _ _ _ _ (by simp; omega), Below.heap_setCell _ _ _ _ (by simp; omega)]; exact hX
          · obtain ⟨b, n, Z, zs, h1, h2, h3, h4⟩ := p4 h
            exact ⟨b, n, Z, zs, h1, h2, by rw [Below.heap_setCell _ _ _ _ (by simp; omega), Below.heap_setCell _ _ _ _ (by simp; omega)]; exact h3, h4⟩
      case he =>
        intro l a wr hI hall
        obtain ⟨y0, y1, y5, y6, y8, y9, y10, y11, y12, y13, y14, y15, y16, y17, y18, y19, y20, y21, y22, y23, y24, y25, y26, y27, y28, y29, y30, y31, y38, y39, y40, y41, x3, x32, x33, x34, x35, x36, x37, rfl, hbr, hgl, hX, pf⟩ := hI
        obtain ⟨c, rfl⟩ := pf.2.2.2.2.2.2.2.2 (hall 7 (by simp))
        obtain ⟨d0, d1, d2, d3⟩ := two_cells (pf.1 (hall 6 (by simp))).1
        clear pf hall
        go_wp2
        refine bodyPost_ret (v := .tuple #[.agg #[.string p, .bool q], .string c]) (by simp [results, Try.results7, go_sem, d0, d1]) rfl ?_
        exact ⟨p, q, c, rfl, hbr⟩

end Go.Proofs.Ytnfgdaejfeiabaa
