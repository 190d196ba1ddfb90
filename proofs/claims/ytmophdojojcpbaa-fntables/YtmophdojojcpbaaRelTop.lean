/-
  Chapter 6, the program's side: Image, ofTwo, Compose, Join, Within, Unit.
-/
import Derived.Test.YtmophdojojcpbaaImplRel
import Derived.Test.YtmophdojojcpbaaRegionInv
namespace Go.Proofs.Ytmophdojojcpbaa
open Go.RowKit
set_option linter.unusedVariables false
set_option maxHeartbeats 1000000

theorem wpList_arrayAt {ops : Array Oper} {rest : List Oper} {op : Oper} {a : Act} {w : World} {Q : Exit → Act → World → Prop} (hgd : op.guard = none) (x : Operand) (ho : op.op = .sliceToArrayPointer 59 x)
    (g off cap : Nat) (hx : a.eval x = .slice (some ⟨g, off, none⟩) 7 cap)
    (h : wpList Try.prog ops Q rest (a.put op.dst (.pointer (some ⟨g, off, none⟩))) w) : wpList Try.prog ops Q (op :: rest) a w := by
  refine wpList_plain hgd fun K hK => ?_
  unfold Oper.wp execOp
  simp only [ho, hx, Sem.run_bind, run_arrayAt w 59 2 7 (some ⟨g, off, none⟩) 7 cap relUnd (by omega), Result.andThen_ok]
  exact hK _ _ h

theorem lor_comm {a b : Int} (ha : Small a) (hb : Small b) : lor a b = lor b a :=
  bit_ext (lor_small ha hb) (lor_small hb ha) (fun t _ => by rw [bit_lor ha hb, bit_lor hb ha, Bool.or_comm])

theorem joi_comm {xs ys : List Int} (hx : Smalls xs) (hy : Smalls ys) : joi xs ys = joi ys xs := by
  refine list7 (by simp [joi, hx.1, hy.1]) (by simp [joi, hx.1, hy.1]) (fun j hj => ?_)
  have h1 : (joi xs ys).getD j 0 = lor (xs.getD j 0) (ys.getD j 0) := by simp [joi, List.getD, hx.1, hy.1, hj]
  have h2 : (joi ys xs).getD j 0 = lor (ys.getD j 0) (xs.getD j 0) := by simp [joi, List.getD, hx.1, hy.1, hj]
  rw [h1, h2, lor_comm (hx.getD j) (hy.getD j)]


/-- What ofTwo's region has, operation by operation. -/
def OFct (va vb : Value) (g off g' off' f : Nat) (xs ys zs : List Int) (base : Nat) (l : Nat → Bool) (x7 x16 x17 x18 x19 x20 x21 x22 x23 : Value) (wr : World) : Prop :=
  (l 0 = true → x16 = .func (.func f) #[] #[]) ∧ (l 1 = true → x17 = va) ∧ (l 2 = true → x18 = .pointer (some ⟨g, off, none⟩)) ∧ (l 3 = true → x19 = relV xs) ∧
  (l 4 = true → x20 = vb) ∧ (l 5 = true → x21 = .pointer (some ⟨g', off', none⟩)) ∧ (l 6 = true → x22 = relV ys) ∧ (l 7 = true → x23 = relV zs) ∧
  (l 8 = true → ∃ B, x7 = .pointer (some ⟨B, 0, none⟩) ∧ base ≤ B ∧ ∃ L : List Int, L.length = 7 ∧ RelAt wr B L ∧ (l 9 = true → L = zs)) ∧ (l 9 = true → l 8 = true)

/-- The invariant of that region. -/
def OInv (va vb vf : Value) (g off g' off' f : Nat) (xs ys zs : List Int) (w : World) (l : Nat → Bool) (a : Act) (wr : World) : Prop :=
  ∃ y3 y4 y5 y6 y8 y9 y10 y11 y12 y13 y14 y15 y24 x7 x16 x17 x18 x19 x20 x21 x22 x23 : Value,
    a = { tmps := List.toArray (va :: vb :: vf :: y3 :: y4 :: y5 :: y6 :: x7 :: y8 :: y9 :: y10 :: y11 :: y12 :: y13 :: y14 :: y15 :: x16 :: x17 :: x18 :: x19 :: x20 :: x21 :: x22 :: x23 :: y24 :: []), defers := [] } ∧
    Below w.heap.size w wr ∧ OFct va vb g off g' off' f xs ys zs w.heap.size l x7 x16 x17 x18 x19 x20 x21 x22 x23 wr

theorem implUnit (w : World) : Calls Try.prog 112 #[] w fun e w' => ∃ a, e = .returned a ∧ w'.ownsRow w.heap.size 59 1 a unitL.length (ints unitL) ∧ Below w.heap.size w w' := by
  have hb0 : Below w.heap.size w (w.alloc (.cells (ints (List.replicate 7 0)).toArray 59)) := by go_grown
  have B0 : RelAt (w.alloc (.cells (ints (List.replicate 7 0)).toArray 59)) w.heap.size (List.replicate 7 0) := heap_alloc_new w _
  go_enter Try.func112, Try.ntmps112
  go_wp2
  rw [zeros7]
  go_loopw [3] (fun i wr => ∃ (k : Nat), k ≤ 7 ∧ i = .int .i64 k ∧ RelAt wr w.heap.size (unitL.take k ++ List.replicate (7 - k) 0) ∧ Below w.heap.size w wr) (fun i _ => 7 - (intOf i).toNat)
  case atStart => exact ⟨0, by omega, rfl, B0, hb0⟩
  case round =>
    obtain ⟨k, hk, rfl, b0, hb⟩ := hrel
    clear B0 hb0
    by_cases hlt : k < 7
    · have hlt' : (k : Int) < 7 := by omega
      have hpl : (unitL.take k ++ List.replicate (7 - k) (0 : Int)).length = 7 := by simp [unitL]; omega
      obtain ⟨c0, f0⟩ := b0.cell k (by omega)
      have hset : ∀ x, x = (2 : Int) ^ k → (unitL.take k ++ List.replicate (7 - k) (0 : Int)).set k x = unitL.take (k + 1) ++ List.replicate (7 - (k + 1)) 0 := by
        rintro x rfl
        have hc : k = 0 ∨ k = 1 ∨ k = 2 ∨ k = 3 ∨ k = 4 ∨ k = 5 ∨ k = 6 := by omega
        rcases hc with rfl | rfl | rfl | rfl | rfl | rfl | rfl <;> rfl
      have hpow : (1 : Int) * 2 ^ k ≤ 64 ∧ (1 : Int) ≤ 2 ^ k := by
        have hc : k = 0 ∨ k = 1 ∨ k = 2 ∨ k = 3 ∨ k = 4 ∨ k = 5 ∨ k = 6 := by omega
        rcases hc with rfl | rfl | rfl | rfl | rfl | rfl | rfl <;> decide
      have HS : Hid _ := hset
      have H0 : Hid _ := b0
      clear hset b0
      go_wp2
      go_roundw
      case rel =>
        refine ⟨k + 1, by omega, by go_num, ?_, hb.setCell (Nat.le_refl _) _⟩
        rw [← HS.out _ rfl]
        exact RelAt.set H0.out k (2 ^ k)
      case measure => simp [intOf]; omega
    · have hkk : k = 7 := by omega
      subst hkk
      have hR : RelAt wr w.heap.size unitL := b0
      have HR : Hid _ := hR
      clear hR b0
      go_wp2
      go_ret
      exact ⟨_, rfl, RelAt.own HR.out (Nat.le_refl _) rfl, hb⟩

/-- What Within's region has, operation by operation. -/
def WFct (va vb : Value) (g off g' off' : Nat) (xs ys : List Int) (l : Nat → Bool) (x13 x14 x15 x16 x17 x18 x19 x20 x21 x22 x23 x4 : Value) : Prop :=
  (l 0 = true → x13 = vb) ∧ (l 1 = true → x14 = .pointer (some ⟨g', off', none⟩)) ∧ (l 2 = true → x15 = relV ys) ∧ (l 3 = true → x16 = va) ∧ (l 4 = true → x17 = .pointer (some ⟨g, off, none⟩)) ∧ (l 5 = true → x18 = relV xs) ∧ (l 6 = true → x19 = relV (joi ys xs)) ∧ (l 7 = true → x20 = vb) ∧ (l 8 = true → x21 = .pointer (some ⟨g', off', none⟩)) ∧ (l 9 = true → x22 = relV ys) ∧ (l 10 = true → x23 = .bool (decide (joi ys xs = ys))) ∧ (l 11 = true → x4 = .bool (decide (joi ys xs = ys)))

/-- The invariant of that region. -/
def WInv (va vb : Value) (g off g' off' : Nat) (xs ys : List Int) (w : World) (l : Nat → Bool) (a : Act) (wr : World) : Prop :=
  ∃ y2 y3 y5 y6 y7 y8 y9 y10 y11 y12 x13 x14 x15 x16 x17 x18 x19 x20 x21 x22 x23 x4 : Value,
    a = { tmps := List.toArray (va :: vb :: y2 :: y3 :: x4 :: y5 :: y6 :: y7 :: y8 :: y9 :: y10 :: y11 :: y12 :: x13 :: x14 :: x15 :: x16 :: x17 :: x18 :: x19 :: x20 :: x21 :: x22 :: x23 :: []), defers := [] } ∧
    Below w.heap.size w wr ∧ WFct va vb g off g' off' xs ys l x13 x14 x15 x16 x17 x18 x19 x20 x21 x22 x23 x4

theorem implWithin (xs ys : List Int) (v u : Value) (w : World) (hx : xs.length ≤ maxLen) (hy : ys.length ≤ maxLen) (hv : Reads w v (ints xs)) (hu : Reads w u (ints ys)) :
    Calls Try.prog 15 #[v, u] w fun e w' => e = .returned (.bool (withinAns xs ys)) ∧ Below w.heap.size w w' := by
  cases hr : relOk xs
  · have h1 : withinAns xs ys = false := by simp [withinAns, hr]
    rw [h1]
    go_enter Try.func15, Try.ntmps15
    go_wp2_with (go_at_call 17; refine (implRelOk xs v w hx hv).mono ?_; rintro e w1 ⟨rfl, b1⟩; simp only [hr])
    go_ret
    exact ⟨rfl, b1⟩
  · cases hs : relOk ys
    · have h1 : withinAns xs ys = false := by simp [withinAns, hs]
      rw [h1]
      go_enter Try.func15, Try.ntmps15
      go_wp2_with fail
      go_at_call 17
      refine (implRelOk xs v w hx hv).mono ?_
      rintro e w1 ⟨rfl, b1⟩
      simp only [hr]
      go_wp2_with fail
      go_at_call 17
      refine (implRelOk ys u w1 hy (reads_below hu b1)).mono ?_
      rintro e w2 ⟨rfl, b2⟩
      have L2 := b1.trans (b2.mono b1.size)
      simp only [hs]
      go_wp2
      go_ret
      exact ⟨rfl, L2⟩
    · have h1 : withinAns xs ys = decide (joi ys xs = ys) := by
        have hxs := relOk_iff.1 hr
        have hys := relOk_iff.1 hs
        simp only [withinAns, hs, hr, Bool.true_and]
        rw [joi_comm hxs hys]
      rw [h1]
      have hxs := relOk_iff.1 hr
      have hys := relOk_iff.1 hs
      have hx7 := hxs.1
      have hy7 := hys.1
      have hj7 : (joi ys xs).length = 7 := by simp [joi, hx7, hy7]
      have hor := fun W => relOr ys xs W hys hxs
      have hrx' := implRelOk xs v w hx hv
      have hry' := fun W hW => implRelOk ys u W hy (reads_below hu hW)
      obtain ⟨g, off, cap, hve, hrg⟩ := reads_range hv hx7
      obtain ⟨g', off', cap', hue, hrg'⟩ := reads_range hu hy7
      have HG : Hid (∀ W, Below w.heap.size w W → W.rangeAt g off (ints xs)) := fun W hW => range_below hrg hW
      have HG' : Hid (∀ W, Below w.heap.size w W → W.rangeAt g' off' (ints ys)) := fun W hW => range_below hrg' hW
      have heq := run_equalRels
      clear hrg hrg'
      subst hve hue
      go_enter Try.func15, Try.ntmps15
      go_wp2_with fail
      go_at_call 17
      refine hrx'.mono ?_
      rintro e w1 ⟨rfl, b1⟩
      simp only [hr]
      clear hrx'
      go_wp2_with fail
      go_at_call 17
      refine (hry' w1 b1).mono ?_
      rintro e w2 ⟨rfl, b2⟩
      simp only [hs]
      have L2 : Below w.heap.size w w2 := b1.trans (b2.mono b1.size)
      clear hry' b1 b2
      go_wp2_with fail
      refine wp_region_inv (by kernel_rfl) (by kernel_rfl) (WInv (.slice (some ⟨g, off, none⟩) 7 cap) (.slice (some ⟨g', off', none⟩) 7 cap') g off g' off' xs ys w) ?h0 ?hs ?he
      case h0 => exact ⟨_, _, _, _, _, _, _, _, _, _, _, _, _, _, _, _, _, _, _, _, _, _, rfl, L2.drew, by simp, by simp, by simp, by simp, by simp, by simp, by simp, by simp, by simp, by simp, by simp, by simp⟩
      case hs =>
        intro l i o a wr ho hI hli haf
        obtain ⟨y2, y3, y5, y6, y7, y8, y9, y10, y11, y12, x13, x14, x15, x16, x17, x18, x19, x20, x21, x22, x23, x4, rfl, hbr, pf⟩ := hI
        have hi : i < 12 := (Array.getElem?_eq_some_iff.1 ho).1
        have hcases : i = 0 ∨ i = 1 ∨ i = 2 ∨ i = 3 ∨ i = 4 ∨ i = 5 ∨ i = 6 ∨ i = 7 ∨ i = 8 ∨ i = 9 ∨ i = 10 ∨ i = 11 := by omega
        rcases hcases with rfl | rfl | rfl | rfl | rfl | rfl | rfl | rfl | rfl | rfl | rfl | rfl
        · simp only [List.getElem?_toArray, List.getElem?_cons_zero, Option.some.injEq] at ho
          subst ho
          have HPF : Hid _ := pf
          clear pf
          go_wp2_with fail
          obtain ⟨p0, p1, p2, p3, p4, p5, p6, p7, p8, p9, p10, p11⟩ := HPF.out
          exact ⟨_, _, _, _, _, _, _, _, _, _, _, _, _, _, _, _, _, _, _, _, _, _, rfl, hbr, fun _ => rfl, p1, p2, p3, p4, p5, p6, p7, p8, p9, p10, p11⟩
        · simp only [List.getElem?_toArray, List.getElem?_cons_zero, List.getElem?_cons_succ, Option.some.injEq] at ho
          subst ho
          simp [Region.binds] at haf
          obtain rfl : x13 = _ := pf.1 haf
          have HPF : Hid _ := pf
          clear pf
          go_wp2_with (refine wpList_arrayAt rfl (.tmp 13) rfl g' off' cap' rfl ?_)
          obtain ⟨p0, p1, p2, p3, p4, p5, p6, p7, p8, p9, p10, p11⟩ := HPF.out
          exact ⟨_, _, _, _, _, _, _, _, _, _, _, _, _, _, _, _, _, _, _, _, _, _, rfl, hbr, fun _ => rfl, fun _ => rfl, p2, p3, p4, p5, p6, p7, p8, p9, p10, p11⟩
        · simp only [List.getElem?_toArray, List.getElem?_cons_zero, List.getElem?_cons_succ, Option.some.injEq] at ho
          subst ho
          simp [Region.binds] at haf
          obtain rfl : x14 = _ := pf.2.1 haf
          have HPF : Hid _ := pf
          clear pf
          go_wp2_with (refine wpList_loadRel rfl (.tmp 14) rfl g' off' ys rfl hy7 (HG'.out _ hbr) ?_)
          obtain ⟨p0, p1, p2, p3, p4, p5, p6, p7, p8, p9, p10, p11⟩ := HPF.out
          exact ⟨_, _, _, _, _, _, _, _, _, _, _, _, _, _, _, _, _, _, _, _, _, _, rfl, hbr, p0, fun _ => rfl, fun _ => rfl, p3, p4, p5, p6, p7, p8, p9, p10, p11⟩
        · simp only [List.getElem?_toArray, List.getElem?_cons_zero, List.getElem?_cons_succ, Option.some.injEq] at ho
          subst ho
          have HPF : Hid _ := pf
          clear pf
          go_wp2_with fail
          obtain ⟨p0, p1, p2, p3, p4, p5, p6, p7, p8, p9, p10, p11⟩ := HPF.out
          exact ⟨_, _, _, _, _, _, _, _, _, _, _, _, _, _, _, _, _, _, _, _, _, _, rfl, hbr, p0, p1, p2, fun _ => rfl, p4, p5, p6, p7, p8, p9, p10, p11⟩
        · simp only [List.getElem?_toArray, List.getElem?_cons_zero, List.getElem?_cons_succ, Option.some.injEq] at ho
          subst ho
          simp [Region.binds] at haf
          obtain rfl : x16 = _ := pf.2.2.2.1 haf
          have HPF : Hid _ := pf
          clear pf
          go_wp2_with (refine wpList_arrayAt rfl (.tmp 16) rfl g off cap rfl ?_)
          obtain ⟨p0, p1, p2, p3, p4, p5, p6, p7, p8, p9, p10, p11⟩ := HPF.out
          exact ⟨_, _, _, _, _, _, _, _, _, _, _, _, _, _, _, _, _, _, _, _, _, _, rfl, hbr, p0, p1, p2, fun _ => rfl, fun _ => rfl, p5, p6, p7, p8, p9, p10, p11⟩
        · simp only [List.getElem?_toArray, List.getElem?_cons_zero, List.getElem?_cons_succ, Option.some.injEq] at ho
          subst ho
          simp [Region.binds] at haf
          obtain rfl : x17 = _ := pf.2.2.2.2.1 haf
          have HPF : Hid _ := pf
          clear pf
          go_wp2_with (refine wpList_loadRel rfl (.tmp 17) rfl g off xs rfl hx7 (HG.out _ hbr) ?_)
          obtain ⟨p0, p1, p2, p3, p4, p5, p6, p7, p8, p9, p10, p11⟩ := HPF.out
          exact ⟨_, _, _, _, _, _, _, _, _, _, _, _, _, _, _, _, _, _, _, _, _, _, rfl, hbr, p0, p1, p2, p3, fun _ => rfl, fun _ => rfl, p6, p7, p8, p9, p10, p11⟩
        · simp only [List.getElem?_toArray, List.getElem?_cons_zero, List.getElem?_cons_succ, Option.some.injEq] at ho
          subst ho
          simp [Region.binds] at haf
          obtain rfl : x15 = _ := pf.2.2.1 haf.1
          obtain rfl : x18 = _ := pf.2.2.2.2.2.1 haf.2
          have HPF : Hid _ := pf
          clear pf
          go_wp2_with (go_at_call 52; refine (hor _).mono ?_; rintro e w9 ⟨rfl, b9⟩)
          obtain ⟨p0, p1, p2, p3, p4, p5, p6, p7, p8, p9, p10, p11⟩ := HPF.out
          exact ⟨_, _, _, _, _, _, _, _, _, _, _, _, _, _, _, _, _, _, _, _, _, _, rfl, hbr.trans (b9.mono hbr.size), p0, p1, fun _ => rfl, p3, p4, fun _ => rfl, fun _ => rfl, p7, p8, p9, p10, p11⟩
        · simp only [List.getElem?_toArray, List.getElem?_cons_zero, List.getElem?_cons_succ, Option.some.injEq] at ho
          subst ho
          have HPF : Hid _ := pf
          clear pf
          go_wp2_with fail
          obtain ⟨p0, p1, p2, p3, p4, p5, p6, p7, p8, p9, p10, p11⟩ := HPF.out
          exact ⟨_, _, _, _, _, _, _, _, _, _, _, _, _, _, _, _, _, _, _, _, _, _, rfl, hbr, p0, p1, p2, p3, p4, p5, p6, fun _ => rfl, p8, p9, p10, p11⟩
        · simp only [List.getElem?_toArray, List.getElem?_cons_zero, List.getElem?_cons_succ, Option.some.injEq] at ho
          subst ho
          simp [Region.binds] at haf
          obtain rfl : x20 = _ := pf.2.2.2.2.2.2.2.1 haf
          have HPF : Hid _ := pf
          clear pf
          go_wp2_with (refine wpList_arrayAt rfl (.tmp 20) rfl g' off' cap' rfl ?_)
          obtain ⟨p0, p1, p2, p3, p4, p5, p6, p7, p8, p9, p10, p11⟩ := HPF.out
          exact ⟨_, _, _, _, _, _, _, _, _, _, _, _, _, _, _, _, _, _, _, _, _, _, rfl, hbr, p0, p1, p2, p3, p4, p5, p6, fun _ => rfl, fun _ => rfl, p9, p10, p11⟩
        · simp only [List.getElem?_toArray, List.getElem?_cons_zero, List.getElem?_cons_succ, Option.some.injEq] at ho
          subst ho
          simp [Region.binds] at haf
          obtain rfl : x21 = _ := pf.2.2.2.2.2.2.2.2.1 haf
          have HPF : Hid _ := pf
          clear pf
          go_wp2_with (refine wpList_loadRel rfl (.tmp 21) rfl g' off' ys rfl hy7 (HG'.out _ hbr) ?_)
          obtain ⟨p0, p1, p2, p3, p4, p5, p6, p7, p8, p9, p10, p11⟩ := HPF.out
          exact ⟨_, _, _, _, _, _, _, _, _, _, _, _, _, _, _, _, _, _, _, _, _, _, rfl, hbr, p0, p1, p2, p3, p4, p5, p6, p7, fun _ => rfl, fun _ => rfl, p10, p11⟩
        · simp only [List.getElem?_toArray, List.getElem?_cons_zero, List.getElem?_cons_succ, Option.some.injEq] at ho
          subst ho
          simp [Region.binds] at haf
          obtain rfl : x19 = _ := pf.2.2.2.2.2.2.1 haf.1
          obtain rfl : x22 = _ := pf.2.2.2.2.2.2.2.2.2.1 haf.2
          have HPF : Hid _ := pf
          clear pf
          have he1 : ∀ w, (Op.equalIn 10000 59 (.agg (ints (joi ys xs)).toArray) (.agg (ints ys).toArray)).run Try.prog w = .ok (decide (joi ys xs = ys)) w := fun w => run_equalRels w (joi ys xs) ys hj7 hy7
          unfold relV
          go_wp2_with fail
          obtain ⟨p0, p1, p2, p3, p4, p5, p6, p7, p8, p9, p10, p11⟩ := HPF.out
          exact ⟨_, _, _, _, _, _, _, _, _, _, _, _, _, _, _, _, _, _, _, _, _, _, rfl, hbr, p0, p1, p2, p3, p4, p5, fun _ => rfl, p7, p8, fun _ => rfl, fun _ => rfl, p11⟩
        · simp only [List.getElem?_toArray, List.getElem?_cons_zero, List.getElem?_cons_succ, Option.some.injEq] at ho
          subst ho
          simp [Region.binds] at haf
          obtain rfl : x23 = _ := pf.2.2.2.2.2.2.2.2.2.2.1 haf.1
          have HPF : Hid _ := pf
          clear pf
          go_wp2_with fail
          obtain ⟨p0, p1, p2, p3, p4, p5, p6, p7, p8, p9, p10, p11⟩ := HPF.out
          exact ⟨_, _, _, _, _, _, _, _, _, _, _, _, _, _, _, _, _, _, _, _, _, _, rfl, hbr, p0, p1, p2, p3, p4, p5, p6, p7, p8, p9, fun _ => rfl, fun _ => rfl⟩
      case he =>
        intro l a wr hI hall
        obtain ⟨y2, y3, y5, y6, y7, y8, y9, y10, y11, y12, x13, x14, x15, x16, x17, x18, x19, x20, x21, x22, x23, x4, rfl, hbr, pf⟩ := hI
        obtain rfl : x4 = _ := pf.2.2.2.2.2.2.2.2.2.2.2 (hall 11 (by simp))
        clear pf hall
        go_wp2
        go_ret
        exact ⟨rfl, hbr⟩

end Go.Proofs.Ytmophdojojcpbaa
