/-
  The law FnBackwards.
-/
import Derived.Test.YtklcpagideeedaaBackMath
import Derived.Test.YtklcpagideeedaaDrawNext
import Derived.Test.YtklcpagideeedaaOpenCode
namespace Go.Proofs.Ytklcpagideeedaa
open Go.ChangeShapes Go.WideShapes Go.ChangeAt Go.RowKit
set_option linter.unusedVariables false
set_option maxHeartbeats 2000000
attribute [local go_sem ↓] Go.wp_at_zero Go.wp_at_succ

/-- What the law holds between its steps. -/
structure BkS (X : Nat) (u : Value) (ss : List Stm) (nv bv rv : Value) (A B R : List Int) (w wr : World) : Prop where
  box : wr.heap[X]? = some (.cells #[u] 26 (0, 0))
  rd : Reads3 wr u ss
  n : Reads wr nv (ints A)
  b : Reads wr bv (ints B)
  r : Reads wr rv (ints R)
  bl : Below w.heap.size w wr

theorem BkS.step {X : Nat} {u : Value} {ss : List Stm} {nv bv rv : Value} {A B R : List Int} {w wr wr' : World} (h : BkS X u ss nv bv rv A B R w wr) (hb : Below wr.heap.size wr wr') : BkS X u ss nv bv rv A B R w wr' :=
  ⟨(hb.block X (Array.getElem?_eq_some_iff.1 h.box).1).trans h.box, reads3_below h.rd hb, reads_below h.n hb, reads_below h.b hb, reads_below h.r hb, h.bl.trans (hb.mono h.bl.size)⟩

theorem any_mem (xs : List Int) (n : Int) : xs.any (fun x => decide (x = n)) = decide (n ∈ xs) := by
  rw [Bool.eq_iff_iff]
  simp

theorem reads_at {w : World} {a : Option Addr} {n c : Nat} {xs : List Int} (h : Reads w (.slice a n c) (ints xs)) {j : Nat} (hj : j < xs.length) : n = xs.length ∧ ∃ g off, a = some ⟨g, off, none⟩ ∧ w.cell? ⟨g, off + j, none⟩ = some (.int .i64 xs[j]) ∧ g < w.heap.size := by
  obtain ⟨ao, cap, e, hc⟩ := h
  simp only [Value.slice.injEq] at e
  obtain ⟨rfl, hn, rfl⟩ := e
  obtain ⟨g, off, ha, hcell⟩ := hc j (.int .i64 xs[j]) (by simp [ints, hj])
  exact ⟨by rw [hn, ints_length], g, off, ha, hcell, World.block_lt_of_cell? w _ hcell⟩

theorem reads_len {w : World} {v : Value} {xs : List Int} (h : Reads w v (ints xs)) : ∃ a c, v = .slice a xs.length c := by
  obtain ⟨ao, cap, rfl, _⟩ := h
  exact ⟨ao, cap, by rw [ints_length]⟩

set_option maxRecDepth 20000 in
set_option maxHeartbeats 16000000 in
theorem walkBackwards (bs : List Int) (v : Value) (w : World) (hl : bs.length ≤ maxLen) (hv : Reads w v (bs.map (Value.int .u8))) :
    Calls Try.prog 3 #[v] w fun e w' => e = .returned (.bool true) ∧ Below w.heap.size w w' := by
  have hbig := lawBig bs v w hl hv
  by_cases hb : (4096 : Int) < (bs.length : Int)
  · rw [decide_eq_true hb] at hbig
    go_enter Try.func3, Try.ntmps3
    go_wp2_with (go_at_call 4; refine hbig.mono ?_; rintro e w1 ⟨rfl, rfl⟩)
    go_ret
    exact ⟨rfl, Below.refl _ _⟩
  rw [decide_eq_false hb] at hbig
  go_enter Try.func3, Try.ntmps3
  go_wp2_with fail
  go_at_call 4
  refine hbig.mono ?_
  rintro e w1 ⟨rfl, rfl⟩
  clear hbig
  go_wp2_with fail
  go_at_call 5
  refine (drawNext bs v w (by omega) hv).mono ?_
  rintro e w1 ⟨u, ss, i, rfl, h1, h7, ou, b1⟩
  clear hv
  have hsl : ss.length ≤ maxLen := by unfold maxLen; omega
  have L1 : Below w.heap.size w (w1.alloc (.cells #[u] 26)) := b1.alloc b1.size _
  have X1 := heap_alloc_new w1 (.cells #[u] 26)
  have r1 := reads3_own (ou.alloc (.cells #[u] 26))
  have z1 : (w1.alloc (.cells #[u] 26)).heap.size = w1.heap.size + 1 := by simp
  obtain ⟨ua, un, uc, rfl⟩ := ownSlice ou
  obtain ⟨c1, f1⟩ := oneCell X1
  obtain ⟨R, hR1, hR2, hRl⟩ := reached_some ss
  have hRA : RAns ss R := ⟨hR1, hR2⟩
  have hiR := implReached ss R hR1 hR2
  have hsR := specReached ss R hR1 hR2
  have hAl := nextAns_length ss i
  have hBl := beforeAns_length ss i
  have hAm : Hid (∀ x, x ∈ nextAns ss i → i ∈ beforeAns ss x ∧ (i ∈ R → x ∈ R)) := fun x hx => ⟨back1 hx, fun hi => hRA.closed hi hx⟩
  have hBm : Hid (∀ x, x ∈ beforeAns ss i → i ∈ nextAns ss x) := fun x hx => back2 hx
  have hRm : Hid (∀ x, x ∈ R → x = 0 ∨ ∃ y ∈ R, x ∈ nextAns ss y) := fun x hx => hRA.from hx
  have hAs := rises_of (nextAns_sorted ss i)
  have hBs := rises_of (beforeAns_sorted ss i)
  have hRs := rises_of hRA.sorted
  have hNi := implNext ss i
  have hNs := specNext ss i
  have hBi := implBefore ss i
  have hBsp := specBefore ss i
  revert hAm hBm hAs hBs hNi hNs hBi hBsp hAl hBl
  generalize nextAns ss i = A
  generalize beforeAns ss i = B
  intro hAl hBl hAm hBm hAs hBs hNi hNs hBi hBsp
  have hA' : A.length ≤ maxLen := by unfold maxLen; omega
  have hB' : B.length ≤ maxLen := by unfold maxLen; omega
  have hR' : R.length ≤ maxLen := by unfold maxLen; omega
  clear hR1 hR2
  go_wp2_with fail
  go_at_call 6
  refine (hNi _ _ hsl r1).mono ?_
  rintro e w2 ⟨nv, rfl, on, b2⟩
  have s2 := b2.size
  have L2 := L1.trans (b2.mono L1.size)
  have X2 := (b2.block w1.heap.size (by omega)).trans X1
  have r2 := reads3_below r1 b2
  have on2 := reads_own on
  clear c1 f1 X1 r1 hNi
  obtain ⟨c1, f1⟩ := oneCell X2
  go_wp2_with fail
  go_at_call 7
  refine (hBi _ _ hsl r2).mono ?_
  rintro e w3 ⟨bv, rfl, ob, b3⟩
  have s3 := b3.size
  have L3 := L2.trans (b3.mono L2.size)
  have X3 := (b3.block w1.heap.size (by omega)).trans X2
  have r3 := reads3_below r2 b3
  have on3 := reads_below on2 b3
  have ob3 := reads_own ob
  clear c1 f1 X2 r2 hBi
  obtain ⟨c1, f1⟩ := oneCell X3
  go_wp2_with fail
  go_at_call 8
  refine (hiR _ _ hsl r3).mono ?_
  rintro e w4 ⟨rv, rfl, or, b4⟩
  have D4 : BkS w1.heap.size (.slice ua un uc) ss nv bv rv A B R w w4 := ⟨(b4.block w1.heap.size (by omega)).trans X3, reads3_below r3 b4, reads_below on3 b4, reads_below ob3 b4, reads_own or, L3.trans (b4.mono L3.size)⟩
  clear c1 f1 X3 r3 hiR on on2 on3 ob ob3 or L1 L2 L3 b1 b2 b3 b4 ou
  obtain ⟨na, nc, rfl⟩ := reads_len D4.n
  obtain ⟨ba, bc, rfl⟩ := reads_len D4.b
  obtain ⟨ra, rc, rfl⟩ := reads_len D4.r
  obtain ⟨c1, f1⟩ := oneCell D4.box
  go_wp2_with fail
  go_at_call 10
  refine (hNs _ _ hsl D4.rd).mono ?_
  rintro e w5 ⟨x5, rfl, o5, b5⟩
  have D5 := D4.step b5
  clear D4 c1 f1 hNs
  go_wp2_with fail
  go_at_call 9
  refine (likeInts A _ _ _ hA' D5.n (reads_own o5)).mono ?_
  rintro e w6 ⟨rfl, b6⟩
  have D6 := D5.step b6
  clear D5 o5
  obtain ⟨c1, f1⟩ := oneCell D6.box
  go_wp2_with fail
  go_at_call 11
  refine (hBsp _ _ hsl D6.rd).mono ?_
  rintro e w7 ⟨x7, rfl, o7, b7⟩
  have D7 := D6.step b7
  clear D6 c1 f1 hBsp
  go_wp2_with fail
  go_at_call 9
  refine (likeInts B _ _ _ hB' D7.b (reads_own o7)).mono ?_
  rintro e w8 ⟨rfl, b8⟩
  have D8 := D7.step b8
  clear D7 o7
  obtain ⟨c1, f1⟩ := oneCell D8.box
  go_wp2_with fail
  go_at_call 12
  refine (hsR _ _ hsl D8.rd).mono ?_
  rintro e w9 ⟨x9, rfl, o9, b9⟩
  have D9 := D8.step b9
  clear D8 c1 f1 hsR
  go_wp2_with fail
  go_at_call 9
  refine (likeInts R _ _ _ hR' D9.r (reads_own o9)).mono ?_
  rintro e w10 ⟨rfl, b10⟩
  have D10 := D9.step b10
  clear D9 o9
  go_wp2_with fail
  go_at_call 13
  refine (lawRises A _ _ hA' hAs D10.n).mono ?_
  rintro e w11 ⟨rfl, b11⟩
  have D11 := D10.step b11
  clear D10
  go_wp2_with fail
  go_at_call 13
  refine (lawRises B _ _ hB' hBs D11.b).mono ?_
  rintro e w12 ⟨rfl, b12⟩
  have D12 := D11.step b12
  clear D11
  go_wp2_with fail
  go_at_call 13
  refine (lawRises R _ _ hR' hRs D12.r).mono ?_
  rintro e w13 ⟨rfl, b13⟩
  have D13 := D12.step b13
  clear D12 b5 b6 b7 b8 b9 b10 b11 b12 b13 hAs hBs hRs
  go_wp2_with fail
  go_loopw [8] (fun cv wr => ∃ c : Nat, c ≤ A.length ∧ cv = .int .i64 c ∧ BkS w1.heap.size (.slice ua un uc) ss (.slice na A.length nc) (.slice ba B.length bc) (.slice ra R.length rc) A B R w wr) (fun cv _ => A.length - (intOf cv).toNat)
  case atStart => exact ⟨0, Nat.zero_le _, rfl, D13⟩
  case round =>
    obtain ⟨wa, hren⟩ : ∃ x, x = wr := ⟨_, rfl⟩
    subst hren
    obtain ⟨c, hc, rfl, D⟩ := hrel
    clear D13
    by_cases hlt : c < A.length
    · have hlt' : (c : Int) < (A.length : Int) := by omega
      have hc0 : (0 : Int) ≤ (c : Int) := by omega
      obtain ⟨_, g, off, rfl, q0, gB⟩ := reads_at D.n hlt
      obtain ⟨hm1, hm2⟩ := hAm.out A[c] (List.getElem_mem hlt)
      obtain ⟨c1, f1⟩ := oneCell D.box
      have hXl := (Array.getElem?_eq_some_iff.1 D.box).1
      have hbl2 := beforeAns_length ss A[c]
      have hbe : ∀ W, Below wa.heap.size wa W → _ := fun W hW => implBefore ss A[c] _ W hsl (reads3_below D.rd hW)
      have hh1 : ∀ W vv, Reads W vv (ints (beforeAns ss A[c])) → _ := fun W vv hW => lawHas (beforeAns ss A[c]) i vv W (by unfold maxLen; omega) hW
      rw [any_mem, decide_eq_true hm1] at hh1
      have hh2 : ∀ W, Below wa.heap.size wa W → _ := fun W hW => lawHas R i (.slice ra R.length rc) W hR' (reads_below D.r hW)
      rw [any_mem] at hh2
      have hh3 : ∀ W, Below wa.heap.size wa W → _ := fun W hW => lawHas R A[c] (.slice ra R.length rc) W hR' (reads_below D.r hW)
      rw [any_mem] at hh3
      have HD : Hid _ := D
      clear hm1 D
      generalize A[c] = y at *
      generalize beforeAns ss y = By at *
      by_cases hin : i ∈ R
      · rw [decide_eq_true hin] at hh2
        rw [decide_eq_true (hm2 hin)] at hh3
        clear hm2 hin
        go_wp2_with fail
        go_region_held3 (fun w' => w'.cell? ⟨w1.heap.size, 0, none⟩ = some (.slice ua un uc) ∧ w'.cell? ⟨g, off + c, none⟩ = some (.int .i64 y)) (first | exact ⟨c1, q0⟩ | exact ⟨(hc4 _ _ hXl).trans c1, (hc4 _ _ gB).trans q0⟩ | exact ⟨(hc5 _ _ hXl).trans c1, (hc5 _ _ gB).trans q0⟩ | exact ⟨(hc6 _ _ hXl).trans c1, (hc6 _ _ gB).trans q0⟩ | exact ⟨(hc7 _ _ hXl).trans c1, (hc7 _ _ gB).trans q0⟩) (first
          | (go_at_call 7; refine (hbe _ (by go_grown)).mono ?_; rintro e w4 ⟨v4, rfl, own4, b4⟩; have M4 : Below wa.heap.size wa w4 := Below.trans (by go_grown) b4; obtain ⟨hc4, hf4⟩ := bcell M4)
          | (go_at_call_of 14 v4; refine (hh1 _ _ (reads_own own4)).mono ?_; rintro e w5 ⟨rfl, b5⟩; have M5 : Below wa.heap.size wa w5 := M4.trans (b5.mono M4.size); obtain ⟨hc5, hf5⟩ := bcell M5)
          | (go_at_call_of 14 i; refine (hh2 _ M5).mono ?_; rintro e w6 ⟨rfl, b6⟩; have M6 : Below wa.heap.size wa w6 := M5.trans (b6.mono M5.size); obtain ⟨hc6, hf6⟩ := bcell M6)
          | (go_at_call_of 14 y; refine (hh3 _ M6).mono ?_; rintro e w7 ⟨rfl, b7⟩; have M7 : Below wa.heap.size wa w7 := M6.trans (b7.mono M6.size); obtain ⟨hc7, hf7⟩ := bcell M7))
        all_goals
          have DN := HD.out.step M7
          go_wp2
          go_roundw
          case rel => exact ⟨c + 1, by omega, by go_num, DN⟩
          case measure => simp [intOf]; omega
      · rw [decide_eq_false hin] at hh2
        clear hm2 hin hh3
        go_wp2_with fail
        first
          | (go_region_with (first
              | (go_at_call 7; refine (hbe _ (by go_grown)).mono ?_; rintro e w4 ⟨v4, rfl, own4, b4⟩; have M4 : Below wa.heap.size wa w4 := Below.trans (by go_grown) b4; obtain ⟨hc4, hf4⟩ := bcell M4)
              | (go_at_call_of 14 v4; refine (hh1 _ _ (reads_own own4)).mono ?_; rintro e w5 ⟨rfl, b5⟩; have M5 : Below wa.heap.size wa w5 := M4.trans (b5.mono M4.size); obtain ⟨hc5, hf5⟩ := bcell M5)
              | (go_at_call_of 14 i; refine (hh2 _ M5).mono ?_; rintro e w6 ⟨rfl, b6⟩; have M6 : Below wa.heap.size wa w6 := M5.trans (b6.mono M5.size); obtain ⟨hc6, hf6⟩ := bcell M6)))
          | fail
        all_goals
          have DN := HD.out.step M6
          go_wp2
          go_roundw
          case rel => exact ⟨c + 1, by omega, by go_num, DN⟩
          case measure => simp [intOf]; omega
    · obtain rfl : c = A.length := by omega
      go_wp2_with fail
      go_loopw [9] (fun cv wr => ∃ c : Nat, c ≤ B.length ∧ cv = .int .i64 c ∧ BkS w1.heap.size (.slice ua un uc) ss (.slice na A.length nc) (.slice ba B.length bc) (.slice ra R.length rc) A B R w wr) (fun cv _ => B.length - (intOf cv).toNat)
      case atStart => exact ⟨0, Nat.zero_le _, rfl, D⟩
      case round =>
        obtain ⟨wb, hren⟩ : ∃ x, x = wr := ⟨_, rfl⟩
        subst hren
        obtain ⟨c, hc, rfl, E⟩ := hrel
        clear D
        by_cases hlt : c < B.length
        · have hlt' : (c : Int) < (B.length : Int) := by omega
          have hc0 : (0 : Int) ≤ (c : Int) := by omega
          obtain ⟨_, g, off, rfl, q0, gB⟩ := reads_at E.b hlt
          have hm1 := hBm.out B[c] (List.getElem_mem hlt)
          obtain ⟨c1, f1⟩ := oneCell E.box
          have hXl := (Array.getElem?_eq_some_iff.1 E.box).1
          have hbl2 := nextAns_length ss B[c]
          have hbe : ∀ W, Below wb.heap.size wb W → _ := fun W hW => implNext ss B[c] _ W hsl (reads3_below E.rd hW)
          have hh1 : ∀ W vv, Reads W vv (ints (nextAns ss B[c])) → _ := fun W vv hW => lawHas (nextAns ss B[c]) i vv W (by unfold maxLen; omega) hW
          rw [any_mem, decide_eq_true hm1] at hh1
          have HD : Hid _ := E
          clear hm1 E
          generalize B[c] = y at *
          generalize nextAns ss y = By at *
          go_wp2_with fail
          go_region_held3 (fun w' => w'.cell? ⟨w1.heap.size, 0, none⟩ = some (.slice ua un uc) ∧ w'.cell? ⟨g, off + c, none⟩ = some (.int .i64 y)) (first | exact ⟨c1, q0⟩ | exact ⟨(hc4 _ _ hXl).trans c1, (hc4 _ _ gB).trans q0⟩ | exact ⟨(hc5 _ _ hXl).trans c1, (hc5 _ _ gB).trans q0⟩) (first
            | (go_at_call 6; refine (hbe _ (by go_grown)).mono ?_; rintro e w4 ⟨v4, rfl, own4, b4⟩; have M4 : Below wb.heap.size wb w4 := Below.trans (by go_grown) b4; obtain ⟨hc4, hf4⟩ := bcell M4)
            | (go_at_call_of 14 v4; refine (hh1 _ _ (reads_own own4)).mono ?_; rintro e w5 ⟨rfl, b5⟩; have M5 : Below wb.heap.size wb w5 := M4.trans (b5.mono M4.size); obtain ⟨hc5, hf5⟩ := bcell M5))
          all_goals
            have DN := HD.out.step M5
            go_wp2
            go_roundw
            case rel => exact ⟨c + 1, by omega, by go_num, DN⟩
            case measure => simp [intOf]; omega
        · obtain rfl : c = B.length := by omega
          go_wp2_with fail
          go_loopw [10] (fun cv wr => ∃ c : Nat, c ≤ R.length ∧ cv = .int .i64 c ∧ BkS w1.heap.size (.slice ua un uc) ss (.slice na A.length nc) (.slice ba B.length bc) (.slice ra R.length rc) A B R w wr) (fun cv _ => R.length - (intOf cv).toNat)
          case atStart => exact ⟨0, Nat.zero_le _, rfl, E⟩
          case round =>
            obtain ⟨wc, hren⟩ : ∃ x, x = wr := ⟨_, rfl⟩
            subst hren
            obtain ⟨c, hc, rfl, G⟩ := hrel
            clear E
            by_cases hlt : c < R.length
            · have hlt' : (c : Int) < (R.length : Int) := by omega
              have hc0 : (0 : Int) ≤ (c : Int) := by omega
              obtain ⟨_, g, off, hra, q0, gB⟩ := reads_at G.r hlt
              have hq0 : wc.cell? ⟨g, off + c, none⟩ = some (.int .i64 R[c]) := q0
              have hend : Hid (((R[c] == 0) || R.any (fun x => decide (R[c] ∈ nextAns ss x))) = true) := by
                show ((R[c] == 0) || R.any (fun x => decide (R[c] ∈ nextAns ss x))) = true
                rcases hRm.out R[c] (List.getElem_mem hlt) with h | ⟨y, hy, hm⟩
                · simp [h]
                · rw [Bool.or_eq_true]; right
                  exact List.any_eq_true.2 ⟨y, hy, by simpa using hm⟩
              subst hra
              generalize R[c] = t at *
              have HQ : Hid (wc.cell? ⟨g, off + c, none⟩ = some (.int .i64 t)) := hq0
              go_wp2_with fail
              clear q0 hq0
              go_loopw [11, 12] (fun sv kv wr => ∃ k : Nat, k ≤ R.length ∧ kv = .int .i64 k ∧ sv = .bool ((t == 0) || (R.take k).any (fun x => decide (t ∈ nextAns ss x))) ∧ wr.cell? ⟨g, off + c, none⟩ = some (.int .i64 t) ∧ g < wr.heap.size ∧
                  BkS w1.heap.size (.slice ua un uc) ss (.slice na A.length nc) (.slice ba B.length bc) (.slice (some ⟨g, off, none⟩) R.length rc) A B R w wr) (fun _ kv _ => R.length - (intOf kv).toNat)
              case atStart => exact ⟨0, Nat.zero_le _, rfl, by simp, HQ.out, gB, G⟩
              case round =>
                obtain ⟨wd, hren⟩ : ∃ x, x = wr := ⟨_, rfl⟩
                subst hren
                obtain ⟨k, hk, rfl, rfl, qt, gt, G'⟩ := hrel
                by_cases hkl : k < R.length
                · have hkl' : (k : Int) < (R.length : Int) := by omega
                  have hk0 : (0 : Int) ≤ (k : Int) := by omega
                  obtain ⟨_, g', off', hra', q1, _⟩ := reads_at G'.r hkl
                  simp only [Option.some.injEq, Addr.mk.injEq, and_true] at hra'
                  obtain ⟨rfl, rfl⟩ := hra'
                  have hsn : (R.take (k + 1)).any (fun x => decide (t ∈ nextAns ss x)) = ((R.take k).any (fun x => decide (t ∈ nextAns ss x)) || decide (t ∈ nextAns ss R[k])) := by
                    rw [List.take_succ_eq_append_getElem hkl, List.any_append]; simp
                  obtain ⟨c1, f1⟩ := oneCell G'.box
                  have hXl := (Array.getElem?_eq_some_iff.1 G'.box).1
                  have hbl2 := nextAns_length ss R[k]
                  have hbe : ∀ W, Below wd.heap.size wd W → _ := fun W hW => implNext ss R[k] _ W hsl (reads3_below G'.rd hW)
                  have hh1 : ∀ W vv, Reads W vv (ints (nextAns ss R[k])) → _ := fun W vv hW => lawHas (nextAns ss R[k]) t vv W (by unfold maxLen; omega) hW
                  rw [any_mem] at hh1
                  have HD : Hid _ := G'
                  have HSN : Hid _ := hsn
                  clear G' hsn
                  generalize R[k] = y at *
                  cases hq : ((t == 0) || (R.take k).any (fun x => decide (t ∈ nextAns ss x)))
                  · have HN : Hid (((t == 0) || (R.take (k + 1)).any (fun x => decide (t ∈ nextAns ss x))) = decide (t ∈ nextAns ss y)) := by
                      show ((t == 0) || (R.take (k + 1)).any (fun x => decide (t ∈ nextAns ss x))) = decide (t ∈ nextAns ss y)
                      rw [HSN.out, ← Bool.or_assoc, hq, Bool.false_or]
                    generalize decide (t ∈ nextAns ss y) = q at *
                    generalize nextAns ss y = By at *
                    clear HSN hq
                    go_wp2_with fail
                    first
                      | (go_region_held3 (fun w' => w'.cell? ⟨w1.heap.size, 0, none⟩ = some (.slice ua un uc) ∧ w'.cell? ⟨g, off + k, none⟩ = some (.int .i64 y) ∧ w'.cell? ⟨g, off + c, none⟩ = some (.int .i64 t)) (first | exact ⟨c1, q1, qt⟩ | exact ⟨(hc4 _ _ hXl).trans c1, (hc4 _ _ gt).trans q1, (hc4 _ _ gt).trans qt⟩ | exact ⟨(hc5 _ _ hXl).trans c1, (hc5 _ _ gt).trans q1, (hc5 _ _ gt).trans qt⟩) (first
                          | (go_at_call 6; refine (hbe _ (by go_grown)).mono ?_; rintro e w4 ⟨v4, rfl, own4, b4⟩; have M4 : Below wd.heap.size wd w4 := Below.trans (by go_grown) b4; obtain ⟨hc4, hf4⟩ := bcell M4)
                          | (go_at_call_of 14 v4; refine (hh1 _ _ (reads_own own4)).mono ?_; rintro e w5 ⟨rfl, b5⟩; have M5 : Below wd.heap.size wd w5 := M4.trans (b5.mono M4.size); obtain ⟨hc5, hf5⟩ := bcell M5)))
                      | fail
                    all_goals
                      have DN := HD.out.step M5
                      have qt5 := (hc5 _ _ gt).trans qt
                      have gt5 : g < w5.heap.size := Nat.lt_of_lt_of_le gt M5.size
                      go_wp2
                      go_roundw
                      case rel => exact ⟨k + 1, by omega, by go_num, by rw [HN.out], qt5, gt5, DN⟩
                      case measure => simp [intOf]; omega
                  · have HN : Hid (((t == 0) || (R.take (k + 1)).any (fun x => decide (t ∈ nextAns ss x))) = true) := by
                      show ((t == 0) || (R.take (k + 1)).any (fun x => decide (t ∈ nextAns ss x))) = true
                      rw [HSN.out, ← Bool.or_assoc, hq, Bool.true_or]
                    clear HSN hbe hh1 hq
                    go_wp2_with fail
                    go_quiet (fail)
                    go_wp2
                    go_roundw
                    case rel => exact ⟨k + 1, by omega, by go_num, by rw [HN.out], by simpa using qt, gt, HD.out.step (below_drewN (Below.refl _ _) _)⟩
                    case measure => simp [intOf]; omega
                · obtain rfl : k = R.length := by omega
                  rw [List.take_length, hend.out]
                  go_wp2
                  go_roundw
                  case rel => exact ⟨c + 1, by omega, by go_num, G'⟩
                  case measure => simp [intOf]; omega
            · obtain rfl : c = R.length := by omega
              have hpo := specProcOk ss (.slice ua un uc) wc hsl G.rd
              obtain ⟨c1, f1⟩ := oneCell G.box
              cases hp : procOk ss
              · rw [hp] at hpo
                go_wp2_with fail
                go_at_call 15
                refine hpo.mono ?_
                rintro e w4 ⟨rfl, b4⟩
                go_wp2
                go_ret
                exact ⟨rfl, G.bl.trans (b4.mono G.bl.size)⟩
              · rw [hp] at hpo
                have h0 := hRA.zero hp
                go_wp2_with fail
                go_at_call 15
                refine hpo.mono ?_
                rintro e w4 ⟨rfl, b4⟩
                have G4 := G.step b4
                have hh := lawHas R 0 _ w4 hR' G4.r
                rw [any_mem, decide_eq_true h0] at hh
                go_wp2_with fail
                go_at_call 14
                refine hh.mono ?_
                rintro e w5 ⟨rfl, b5⟩
                go_wp2
                go_ret
                exact ⟨rfl, G4.bl.trans (b5.mono G4.bl.size)⟩

set_option maxRecDepth 100000 in
theorem liftedFnBackwards (os : Os) (started : os.Started) (H : Type) (enc : TypeId × Value → H) :
    ReturnsInHanded {} Try.checked os 3 .any (Rows.fnBackwardsSpec.pre6 enc Try.prog Try.f3 Rows.fnBackwardsRow.domain false) (Rows.fnBackwardsSpec.post enc Try.prog Try.f3 false true false false) := by
  refine returnsInHanded_of_change (C := Try.checked) own started (by kernel_rfl) Try.func3
    (ChangeSpec.witness6 (enc := enc) (C := Try.checked) false ⟨#[], #[.slice none 0 0], []⟩ 8 (by kernel_rfl) (by kernel_rfl) (by kernel_rfl) (by kernel_rfl)) ?_
  intro W base args ds gs before hval0 hW hcnd _
  have hval : ∀ (j : Nat) t v, Try.f3.params[j]? = some t → args[j]? = some v → Value.okWide Try.prog W .any base t v := hval0
  have hW' := hW
  obtain ⟨p, q, hA0, hV, rfl, hfz, hnd⟩ := hW
  have hA : DataW.TrodAll enc Try.prog W 0 (fun _ => true) true Try.f3.params.toList args.toList ds p := hA0
  rw [Try.params3] at hA hval
  obtain ⟨v0, vs0, d0, ds0, p0, q0, hargs, rfl, rfl, h0, r0⟩ := trodAll_cons hA
  obtain ⟨rfl, rfl, rfl⟩ := trodAll_nil r0
  obtain rfl : args = #[v0] := by cases args; simp_all
  obtain ⟨rfl, rfl⟩ := trodVars_none hV
  obtain ⟨bs, hr, hl, hs⟩ := open_code Try.underlying22 Try.underlying5 cellsByte (hval 0 22 v0 rfl rfl) h0
  refine (walkBackwards bs v0 W hl hr).mono fun e W' ⟨he, hb⟩ => ?_
  subst he
  refine ⟨_, rfl, law_post (tb := 4) laidOut ?_ hW' rfl Try.underlying4 rfl rfl hb⟩
  exact all_readable (P := Try.prog) (by kernel_rfl)

theorem overFnBackwards : Rows.fnBackwardsRow.holds Try.pinned (OpenSpec.ofChange Rows.fnBackwardsSpec) :=
  OpenClaim.holds_of_wide 3 Try.f3 rfl rfl rfl rfl rfl rfl rfl ⟨rfl, rfl, rfl, rfl, rfl⟩ rfl rfl rfl rfl rfl (by kernel_rfl) Try.func3 (by kernel_rfl)
    (of_decide_eq_true (by kernel_rfl)) (by unfold Func.isWrapper; first | (rw [if_pos (by decide +kernel)]; kernel_rfl) | (rw [if_neg (by decide +kernel)]; exact ⟨rfl, rfl⟩))
    (fun os started H enc _ => liftedFnBackwards os started H enc)

/-- ████ THE STATEMENT ████ -/
theorem backwardsHolds : Rows.FnBackwardsSaid :=
  overFnBackwards
#print axioms backwardsHolds

end Go.Proofs.Ytklcpagideeedaa
