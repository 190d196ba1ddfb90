/-
 Chapter 10, the program's side: effectWith.
-/
import Derived.Test.YtnjbihfceckpfaaRelTab
import Derived.Test.YtnjbihfceckpfaaG03DrawProc
namespace Go.Proofs.Ytnjbihfceckpfaa
open Go.RowKit
set_option linter.unusedVariables false
set_option linter.unusedSimpArgs false
set_option maxHeartbeats 4000000
set_option maxRecDepth 20000

theorem own_range {w : World} {base : Nat} {t : TypeId} {v : Value} {xs : List Int} (h : w.ownsRow base t 1 v 7 (ints xs)) : ∃ g cap, v = .slice (some ⟨g, 0, none⟩) 7 cap ∧ w.rangeAt g 0 (ints xs) ∧ g < w.heap.size ∧ base ≤ g := by
 have hx : (ints xs).length = 7 := h.1
 rcases own_shape h with ⟨_, e, _⟩ | ⟨g, cp, e, hl, hc⟩
 · omega
 · subst e
   refine ⟨g, cp, rfl, fun j u hu => ?_, (h.lt g rfl).2, (h.lt g rfl).1⟩
   have := hc j u hu
   have e2 : (⟨g, 0, none⟩ : Addr).add j = ⟨g, 0 + j, none⟩ := by unfold Addr.add; split <;> simp_all
   rwa [e2] at this

/-- A slice, a pointer, at a relation; a new relation's block. -/
def SliceR (w : World) (x : Value) (xs : List Int) : Prop := ∃ g cap, x = .slice (some ⟨g, 0, none⟩) 7 cap ∧ w.rangeAt g 0 (ints xs) ∧ g < w.heap.size
def PtrR (w : World) (x : Value) (xs : List Int) : Prop := ∃ g, x = .pointer (some ⟨g, 0, none⟩) ∧ w.rangeAt g 0 (ints xs) ∧ g < w.heap.size
def BoxR (w : World) (base : Nat) (x : Value) : Prop := ∃ B, x = .pointer (some ⟨B, 0, none⟩) ∧ base ≤ B ∧ RelAt w B (List.replicate 7 0)

theorem SliceR.below {w w' : World} {x : Value} {xs : List Int} (h : SliceR w x xs) (hb : Below w.heap.size w w') : SliceR w' x xs := by
 obtain ⟨g, cap, e, hr, hg⟩ := h
 exact ⟨g, cap, e, range_below hr hb, Nat.lt_of_lt_of_le hg hb.size⟩
theorem PtrR.below {w w' : World} {x : Value} {xs : List Int} (h : PtrR w x xs) (hb : Below w.heap.size w w') : PtrR w' x xs := by
 obtain ⟨g, e, hr, hg⟩ := h
 exact ⟨g, e, range_below hr hb, Nat.lt_of_lt_of_le hg hb.size⟩
theorem BoxR.below {w w' : World} {base : Nat} {x : Value} (h : BoxR w base x) (hb : Below w.heap.size w w') : BoxR w' base x := by
 obtain ⟨B, e, h1, h2⟩ := h
 exact ⟨B, e, h1, (hb.block B h2.lt).trans h2⟩

--HELD defs
/-- What the region has, operation by operation. -/
def EAFct (c : Int) (r : List Int) (y n0 : Nat) (wr : World) (l : Nat → Bool) (x16 x17 x18 x19 x20 x21 x22 x23 x24 x25 x26 x27 x28 x7 : Value) : Prop :=
 (l 0 = true → x16 = .int .i64 c) ∧ (l 1 = true → SliceR wr x17 (enterAns c)) ∧ (l 2 = true → PtrR wr x18 (enterAns c)) ∧ (l 3 = true → x19 = relV (enterAns c)) ∧ (l 4 = true → x20 = .pointer (some ⟨n0, 2, none⟩)) ∧ (l 5 = true → x21 = .int .i64 (y : Int)) ∧ (l 6 = true → x22 = .pointer (some ⟨n0 + 1, y * 7, none⟩)) ∧ (l 7 = true → x23 = relV r) ∧ (l 8 = true → x24 = relV (comp (enterAns c) r)) ∧ (l 9 = true → SliceR wr x25 (leaveL)) ∧ (l 10 = true → PtrR wr x26 (leaveL)) ∧ (l 11 = true → x27 = relV (leaveL)) ∧ (l 12 = true → x28 = relV (comp (comp (enterAns c) r) leaveL)) ∧ (l 13 = true → BoxR wr (n0 + 1 + 1 + 1) x7)

set_option maxRecDepth 20000 in
/-- The invariant of that region. -/
def EAInv (c : Int) (r : List Int) (y n0 : Nat) (W0 : World) (l : Nat → Bool) (a : Act) (wr : World) : Prop :=
 ∃ y1 y2 y3 y8 y9 y10 y11 y12 y13 y14 y15 y29 y30 y31 y32 y33 x16 x17 x18 x19 x20 x21 x22 x23 x24 x25 x26 x27 x28 x7 : Value,
  a = { tmps := List.toArray (.int .i64 c :: y1 :: y2 :: y3 :: .pointer (some ⟨n0, 0, none⟩) :: .pointer (some ⟨n0 + 1, 0, none⟩) :: .pointer (some ⟨n0 + 1 + 1, 0, none⟩) :: x7 :: y8 :: y9 :: y10 :: y11 :: y12 :: y13 :: y14 :: y15 :: x16 :: x17 :: x18 :: x19 :: x20 :: x21 :: x22 :: x23 :: x24 :: x25 :: x26 :: x27 :: x28 :: y29 :: y30 :: y31 :: y32 :: y33 :: []), defers := [] } ∧ (l 14 = true → ∀ j, j < 14 → l j = true) ∧
  (l 14 = false → Below W0.heap.size W0 wr ∧ EAFct c r y n0 wr l x16 x17 x18 x19 x20 x21 x22 x23 x24 x25 x26 x27 x28 x7) ∧ (l 14 = true → ∃ B, x7 = .pointer (some ⟨B, 0, none⟩) ∧ n0 + 1 + 1 + 1 ≤ B ∧ RelAt wr B (comp (comp (enterAns c) r) leaveL) ∧ Below W0.heap.size W0 wr)

--DLEH defs
--HELD defsb
/-- What the region has, operation by operation. -/
def EBFct (t : List Int) (B n0 : Nat) (wr : World) (l : Nat → Bool) (x29 x30 x31 x32 x33 : Value) : Prop :=
 (l 0 = true → SliceR wr x29 (keepL)) ∧ (l 1 = true → PtrR wr x30 (keepL)) ∧ (l 2 = true → x31 = relV (keepL)) ∧ (l 3 = true → x32 = relV t) ∧ (l 4 = true → x33 = relV (joi keepL t))

set_option maxRecDepth 20000 in
/-- The invariant of that region. -/
def EBInv (t : List Int) (B n0 : Nat) (W0 : World) (l : Nat → Bool) (a : Act) (wr : World) : Prop :=
 ∃ y0 y1 y2 y3 y8 y9 y10 y11 y12 y13 y14 y15 y16 y17 y18 y19 y20 y21 y22 y23 y24 y25 y26 y27 y28 x29 x30 x31 x32 x33 : Value,
  a = { tmps := List.toArray (y0 :: y1 :: y2 :: y3 :: .pointer (some ⟨n0, 0, none⟩) :: .pointer (some ⟨n0 + 1, 0, none⟩) :: .pointer (some ⟨n0 + 1 + 1, 0, none⟩) :: .pointer (some ⟨B, 0, none⟩) :: y8 :: y9 :: y10 :: y11 :: y12 :: y13 :: y14 :: y15 :: y16 :: y17 :: y18 :: y19 :: y20 :: y21 :: y22 :: y23 :: y24 :: y25 :: y26 :: y27 :: y28 :: x29 :: x30 :: x31 :: x32 :: x33 :: []), defers := [] } ∧ (l 5 = true → ∀ j, j < 5 → l j = true) ∧
  (l 5 = false → Below W0.heap.size W0 wr ∧ EBFct t B n0 wr l x29 x30 x31 x32 x33) ∧ (l 5 = true → RelAt wr (n0 + 1 + 1) (joi keepL t) ∧ Below n0 W0 wr)

--DLEH defsb
theorem effectWith (c : Int) (T : List (List Int)) (n : Nat) (s : Stm) (w : World) (hc : c = 1 ∨ c = 2) (hn : n ≤ 4) (hs : CanS n s) (hR : Rows7 4 T) (hT : GoodN n T) :
 Calls Try.prog 140 #[.int .i64 c, .agg #[.int .i64 s.k, .int .i64 s.x, .int .i64 s.y], tabR T] w fun e w' => e = .returned (relV (effL c T s)) ∧ Below w.heap.size w w' := by
 obtain ⟨k, x, y⟩ := s
 dsimp only
 obtain ⟨ts, hts⟩ : ∃ ts, ints T.flatten = ts := ⟨_, rfl⟩
 unfold tabR
 rw [hts]
 by_cases h8 : k = 8
 · subst h8
   obtain ⟨y, rfl, hy⟩ := hs.y rfl
   have e : effL c T ⟨8, x, (y : Int)⟩ = joi keepL (comp (comp (enterAns c) (T.getD y [])) leaveL) := by simp [effL]
   rw [e]
   have hr := hT y hy
   have hy4 : y < 4 := by omega
   have hy4' : (y : Int) < 4 := by omega
   obtain ⟨r, hre⟩ : ∃ r, T.getD y [] = r := ⟨_, rfl⟩
   rw [hre] at hr ⊢
   have he := enter_smalls hc
   have h1 := comp_smalls he hr
   have h2 := comp_smalls h1 leave_smalls
   have h3 := joi_smalls keep_smalls h2
   clear hs e hT hy
   go_enter Try.func140, Try.ntmps140
   go_wp2_with fail
   subst hts
   rw [zeros7]
   obtain ⟨W, hW⟩ : ∃ W, ((w.alloc (.cells #[.int .i64 8, .int .i64 x, .int .i64 (y : Int)] 92)).alloc (.cells (ints T.flatten).toArray 88)).alloc (.cells (ints (List.replicate 7 0)).toArray 64) = W := ⟨_, rfl⟩
   have sW' : W.heap.size = w.heap.size + 1 + 1 + 1 := by rw [← hW]; simp
   have bW : Below w.heap.size w W := by rw [← hW]; go_grown
   have cS : W.cell? ⟨w.heap.size, 2, none⟩ = some (.int .i64 (y : Int)) := by
    have : W.heap[w.heap.size]? = some (.cells #[.int .i64 8, .int .i64 x, .int .i64 (y : Int)] 92 (0, 0)) := by
     rw [← hW, old_block (by simp; omega), old_block (by simp)]; exact heap_alloc_new w _
    rw [cell_of_row _ _ 2 _ _ (0, 0) this]; rfl
   have hTW : TabR W (w.heap.size + 1) 88 T := by
    unfold TabR
    rw [← hW, old_block (by simp)]
    have := heap_alloc_new (w.alloc (.cells #[.int .i64 8, .int .i64 x, .int .i64 (y : Int)] 92)) (.cells (ints T.flatten).toArray 88)
    simpa using this
   have hRW0 : RelAt W (w.heap.size + 1 + 1) (List.replicate 7 0) := by
    unfold RelAt
    rw [← hW]
    have := heap_alloc_new ((w.alloc (.cells #[.int .i64 8, .int .i64 x, .int .i64 (y : Int)] 92)).alloc (.cells (ints T.flatten).toArray 88)) (.cells (ints (List.replicate 7 0)).toArray 64)
    simpa using this
   rw [hW]
   clear hW
   have zS : w.heap.size < W.heap.size := by omega
   have sW : w.heap.size + 1 + 1 + 1 ≤ W.heap.size := by omega
   have sW2 : W.heap.size ≤ w.heap.size + 1 + 1 + 1 := by omega
   have hTW : TabR W.drew (w.heap.size + 1) 88 T := hTW
   refine wp_region_inv (by kernel_rfl) (by kernel_rfl) (EAInv c r y w.heap.size W.drew) ?h0 ?hs ?he
   case h0 => exact ⟨_, _, _, _, _, _, _, _, _, _, _, _, _, _, _, _, _, _, _, _, _, _, _, _, _, _, _, _, _, _, rfl, by simp, fun _ => ⟨Below.refl _ _, by simp, by simp, by simp, by simp, by simp, by simp, by simp, by simp, by simp, by simp, by simp, by simp, by simp, by simp⟩, by simp⟩
   case hs =>
    intro l i o a wr ho hI hli haf
    obtain ⟨y1, y2, y3, y8, y9, y10, y11, y12, y13, y14, y15, y29, y30, y31, y32, y33, x16, x17, x18, x19, x20, x21, x22, x23, x24, x25, x26, x27, x28, x7, rfl, hall, hF, hlast⟩ := hI
    have hi : i < 15 := (Array.getElem?_eq_some_iff.1 ho).1
    have h14 : l 14 = false := by
     cases h : l 14
     · rfl
     · by_cases e : i = 14
       · subst e; simp [h] at hli
       · have := hall h i (by omega); simp [this] at hli
    obtain ⟨hJ, pf⟩ := hF h14
    have H14 : Hid _ := h14
    clear hF hlast hall h14
    have hcases : i = 0 ∨ i = 1 ∨ i = 2 ∨ i = 3 ∨ i = 4 ∨ i = 5 ∨ i = 6 ∨ i = 7 ∨ i = 8 ∨ i = 9 ∨ i = 10 ∨ i = 11 ∨ i = 12 ∨ i = 13 ∨ i = 14 := by omega
    rcases hcases with rfl | rfl | rfl | rfl | rfl | rfl | rfl | rfl | rfl | rfl | rfl | rfl | rfl | rfl | rfl
    · simp only [List.getElem?_toArray, List.getElem?_cons_zero, Option.some.injEq] at ho
      subst ho
      have HPF : Hid _ := pf
      clear pf
      go_wp2_with (fail)
      obtain ⟨p0, p1, p2, p3, p4, p5, p6, p7, p8, p9, p10, p11, p12, p13⟩ := HPF.out
      exact ⟨_, _, _, _, _, _, _, _, _, _, _, _, _, _, _, _, _, _, _, _, _, _, _, _, _, _, _, _, _, _, rfl, fun h => absurd h (by simp [H14.out]), fun _ => ⟨hJ, fun _ => rfl, p1, p2, p3, p4, p5, p6, p7, p8, p9, p10, p11, p12, p13⟩, fun h => absurd h (by simp [H14.out])⟩
    · simp only [List.getElem?_toArray, List.getElem?_cons_zero, List.getElem?_cons_succ, Option.some.injEq] at ho
      subst ho
      simp [Region.binds] at haf
      obtain rfl : x16 = _ := pf.1 (haf)
      have HPF : Hid _ := pf
      clear pf
      go_wp2_with (go_at_call 113; refine (implEnter c _).mono ?_; rintro e w9 ⟨a9, rfl, o9, b9⟩)
      rw [he.1] at o9
      obtain ⟨g9, cp9, rfl, hr9, hg9, _⟩ := own_range o9
      obtain ⟨p0, p1, p2, p3, p4, p5, p6, p7, p8, p9, p10, p11, p12, p13⟩ := HPF.out
      exact ⟨_, _, _, _, _, _, _, _, _, _, _, _, _, _, _, _, _, _, _, _, _, _, _, _, _, _, _, _, _, _, rfl, fun h => absurd h (by simp [H14.out]), fun _ => ⟨hJ.trans (b9.mono hJ.size), fun _ => rfl, fun _ => ⟨g9, cp9, rfl, hr9, hg9⟩, fun h => (p2 h).below b9, p3, p4, p5, p6, p7, p8, fun h => (p9 h).below b9, fun h => (p10 h).below b9, p11, p12, fun h => (p13 h).below b9⟩, fun h => absurd h (by simp [H14.out])⟩
    · simp only [List.getElem?_toArray, List.getElem?_cons_zero, List.getElem?_cons_succ, Option.some.injEq] at ho
      subst ho
      simp [Region.binds] at haf
      obtain ⟨g1, cp1, rfl, hr1, hg1⟩ := pf.2.1 (haf)
      have HPF : Hid _ := pf
      clear pf
      go_wp2_with (refine wpList_arrayAt rfl (.tmp 17) rfl g1 0 cp1 rfl ?_)
      obtain ⟨p0, p1, p2, p3, p4, p5, p6, p7, p8, p9, p10, p11, p12, p13⟩ := HPF.out
      exact ⟨_, _, _, _, _, _, _, _, _, _, _, _, _, _, _, _, _, _, _, _, _, _, _, _, _, _, _, _, _, _, rfl, fun h => absurd h (by simp [H14.out]), fun _ => ⟨hJ, p0, p1, fun _ => ⟨g1, rfl, hr1, hg1⟩, p3, p4, p5, p6, p7, p8, p9, p10, p11, p12, p13⟩, fun h => absurd h (by simp [H14.out])⟩
    · simp only [List.getElem?_toArray, List.getElem?_cons_zero, List.getElem?_cons_succ, Option.some.injEq] at ho
      subst ho
      simp [Region.binds] at haf
      obtain ⟨g2, rfl, hr2, hg2⟩ := pf.2.2.1 (haf)
      have HPF : Hid _ := pf
      clear pf
      go_wp2_with (refine wpList_loadRel rfl (.tmp 18) rfl g2 0 (enterAns c) rfl he.1 hr2 ?_)
      obtain ⟨p0, p1, p2, p3, p4, p5, p6, p7, p8, p9, p10, p11, p12, p13⟩ := HPF.out
      exact ⟨_, _, _, _, _, _, _, _, _, _, _, _, _, _, _, _, _, _, _, _, _, _, _, _, _, _, _, _, _, _, rfl, fun h => absurd h (by simp [H14.out]), fun _ => ⟨hJ, p0, p1, p2, fun _ => rfl, p4, p5, p6, p7, p8, p9, p10, p11, p12, p13⟩, fun h => absurd h (by simp [H14.out])⟩
    · simp only [List.getElem?_toArray, List.getElem?_cons_zero, List.getElem?_cons_succ, Option.some.injEq] at ho
      subst ho
      have HPF : Hid _ := pf
      clear pf
      go_wp2_with (fail)
      obtain ⟨p0, p1, p2, p3, p4, p5, p6, p7, p8, p9, p10, p11, p12, p13⟩ := HPF.out
      exact ⟨_, _, _, _, _, _, _, _, _, _, _, _, _, _, _, _, _, _, _, _, _, _, _, _, _, _, _, _, _, _, rfl, fun h => absurd h (by simp [H14.out]), fun _ => ⟨hJ, p0, p1, p2, p3, fun _ => rfl, p5, p6, p7, p8, p9, p10, p11, p12, p13⟩, fun h => absurd h (by simp [H14.out])⟩
    · simp only [List.getElem?_toArray, List.getElem?_cons_zero, List.getElem?_cons_succ, Option.some.injEq] at ho
      subst ho
      simp [Region.binds] at haf
      obtain rfl : x20 = _ := pf.2.2.2.2.1 (haf)
      have HPF : Hid _ := pf
      clear pf
      have c9 := (hJ.cell (p := ⟨w.heap.size, 2, none⟩) zS).trans cS
      go_wp2_with (fail)
      obtain ⟨p0, p1, p2, p3, p4, p5, p6, p7, p8, p9, p10, p11, p12, p13⟩ := HPF.out
      exact ⟨_, _, _, _, _, _, _, _, _, _, _, _, _, _, _, _, _, _, _, _, _, _, _, _, _, _, _, _, _, _, rfl, fun h => absurd h (by simp [H14.out]), fun _ => ⟨hJ, p0, p1, p2, p3, fun _ => rfl, fun _ => rfl, p6, p7, p8, p9, p10, p11, p12, p13⟩, fun h => absurd h (by simp [H14.out])⟩
    · simp only [List.getElem?_toArray, List.getElem?_cons_zero, List.getElem?_cons_succ, Option.some.injEq] at ho
      subst ho
      simp [Region.binds] at haf
      obtain rfl : x21 = _ := pf.2.2.2.2.2.1 (haf)
      have HPF : Hid _ := pf
      clear pf
      go_wp2_with (fail)
      obtain ⟨p0, p1, p2, p3, p4, p5, p6, p7, p8, p9, p10, p11, p12, p13⟩ := HPF.out
      exact ⟨_, _, _, _, _, _, _, _, _, _, _, _, _, _, _, _, _, _, _, _, _, _, _, _, _, _, _, _, _, _, rfl, fun h => absurd h (by simp [H14.out]), fun _ => ⟨hJ, p0, p1, p2, p3, p4, fun _ => rfl, fun _ => rfl, p7, p8, p9, p10, p11, p12, p13⟩, fun h => absurd h (by simp [H14.out])⟩
    · simp only [List.getElem?_toArray, List.getElem?_cons_zero, List.getElem?_cons_succ, Option.some.injEq] at ho
      subst ho
      simp [Region.binds] at haf
      obtain rfl : x22 = _ := pf.2.2.2.2.2.2.1 (haf)
      have HPF : Hid _ := pf
      clear pf
      have hT9 := (hTW.below hJ).row hR hy4
      go_wp2_with (refine wpList_loadRel rfl (.tmp 22) rfl (w.heap.size + 1) (y * 7) r rfl hr.1 (hre ▸ hT9) ?_)
      obtain ⟨p0, p1, p2, p3, p4, p5, p6, p7, p8, p9, p10, p11, p12, p13⟩ := HPF.out
      exact ⟨_, _, _, _, _, _, _, _, _, _, _, _, _, _, _, _, _, _, _, _, _, _, _, _, _, _, _, _, _, _, rfl, fun h => absurd h (by simp [H14.out]), fun _ => ⟨hJ, p0, p1, p2, p3, p4, p5, fun _ => rfl, fun _ => rfl, p8, p9, p10, p11, p12, p13⟩, fun h => absurd h (by simp [H14.out])⟩
    · simp only [List.getElem?_toArray, List.getElem?_cons_zero, List.getElem?_cons_succ, Option.some.injEq] at ho
      subst ho
      simp [Region.binds] at haf
      obtain rfl : x19 = _ := pf.2.2.2.1 (haf.1)
      obtain rfl : x23 = _ := pf.2.2.2.2.2.2.2.1 (haf.2.1)
      have HPF : Hid _ := pf
      clear pf
      go_wp2_with (go_at_call 143; refine (relThen (enterAns c) r _ he hr).mono ?_; rintro e w9 ⟨rfl, b9⟩)
      obtain ⟨p0, p1, p2, p3, p4, p5, p6, p7, p8, p9, p10, p11, p12, p13⟩ := HPF.out
      exact ⟨_, _, _, _, _, _, _, _, _, _, _, _, _, _, _, _, _, _, _, _, _, _, _, _, _, _, _, _, _, _, rfl, fun h => absurd h (by simp [H14.out]), fun _ => ⟨hJ.trans (b9.mono hJ.size), p0, fun h => (p1 h).below b9, fun h => (p2 h).below b9, fun _ => rfl, p4, p5, p6, fun _ => rfl, fun _ => rfl, fun h => (p9 h).below b9, fun h => (p10 h).below b9, p11, p12, fun h => (p13 h).below b9⟩, fun h => absurd h (by simp [H14.out])⟩
    · simp only [List.getElem?_toArray, List.getElem?_cons_zero, List.getElem?_cons_succ, Option.some.injEq] at ho
      subst ho
      have HPF : Hid _ := pf
      clear pf
      go_wp2_with (go_at_call 127; refine (implLeave _).mono ?_; rintro e w9 ⟨a9, rfl, o9, b9⟩)
      rw [leave_smalls.1] at o9
      obtain ⟨g9, cp9, rfl, hr9, hg9, _⟩ := own_range o9
      obtain ⟨p0, p1, p2, p3, p4, p5, p6, p7, p8, p9, p10, p11, p12, p13⟩ := HPF.out
      exact ⟨_, _, _, _, _, _, _, _, _, _, _, _, _, _, _, _, _, _, _, _, _, _, _, _, _, _, _, _, _, _, rfl, fun h => absurd h (by simp [H14.out]), fun _ => ⟨hJ.trans (b9.mono hJ.size), p0, fun h => (p1 h).below b9, fun h => (p2 h).below b9, p3, p4, p5, p6, p7, p8, fun _ => ⟨g9, cp9, rfl, hr9, hg9⟩, fun h => (p10 h).below b9, p11, p12, fun h => (p13 h).below b9⟩, fun h => absurd h (by simp [H14.out])⟩
    · simp only [List.getElem?_toArray, List.getElem?_cons_zero, List.getElem?_cons_succ, Option.some.injEq] at ho
      subst ho
      simp [Region.binds] at haf
      obtain ⟨g1, cp1, rfl, hr1, hg1⟩ := pf.2.2.2.2.2.2.2.2.2.1 (haf)
      have HPF : Hid _ := pf
      clear pf
      go_wp2_with (refine wpList_arrayAt rfl (.tmp 25) rfl g1 0 cp1 rfl ?_)
      obtain ⟨p0, p1, p2, p3, p4, p5, p6, p7, p8, p9, p10, p11, p12, p13⟩ := HPF.out
      exact ⟨_, _, _, _, _, _, _, _, _, _, _, _, _, _, _, _, _, _, _, _, _, _, _, _, _, _, _, _, _, _, rfl, fun h => absurd h (by simp [H14.out]), fun _ => ⟨hJ, p0, p1, p2, p3, p4, p5, p6, p7, p8, p9, fun _ => ⟨g1, rfl, hr1, hg1⟩, p11, p12, p13⟩, fun h => absurd h (by simp [H14.out])⟩
    · simp only [List.getElem?_toArray, List.getElem?_cons_zero, List.getElem?_cons_succ, Option.some.injEq] at ho
      subst ho
      simp [Region.binds] at haf
      obtain ⟨g2, rfl, hr2, hg2⟩ := pf.2.2.2.2.2.2.2.2.2.2.1 (haf)
      have HPF : Hid _ := pf
      clear pf
      go_wp2_with (refine wpList_loadRel rfl (.tmp 26) rfl g2 0 (leaveL) rfl leave_smalls.1 hr2 ?_)
      obtain ⟨p0, p1, p2, p3, p4, p5, p6, p7, p8, p9, p10, p11, p12, p13⟩ := HPF.out
      exact ⟨_, _, _, _, _, _, _, _, _, _, _, _, _, _, _, _, _, _, _, _, _, _, _, _, _, _, _, _, _, _, rfl, fun h => absurd h (by simp [H14.out]), fun _ => ⟨hJ, p0, p1, p2, p3, p4, p5, p6, p7, p8, p9, p10, fun _ => rfl, p12, p13⟩, fun h => absurd h (by simp [H14.out])⟩
    · simp only [List.getElem?_toArray, List.getElem?_cons_zero, List.getElem?_cons_succ, Option.some.injEq] at ho
      subst ho
      simp [Region.binds] at haf
      obtain rfl : x24 = _ := pf.2.2.2.2.2.2.2.2.1 (haf.1)
      obtain rfl : x27 = _ := pf.2.2.2.2.2.2.2.2.2.2.2.1 (haf.2.1)
      have HPF : Hid _ := pf
      clear pf
      go_wp2_with (go_at_call 143; refine (relThen (comp (enterAns c) r) leaveL _ h1 leave_smalls).mono ?_; rintro e w9 ⟨rfl, b9⟩)
      obtain ⟨p0, p1, p2, p3, p4, p5, p6, p7, p8, p9, p10, p11, p12, p13⟩ := HPF.out
      exact ⟨_, _, _, _, _, _, _, _, _, _, _, _, _, _, _, _, _, _, _, _, _, _, _, _, _, _, _, _, _, _, rfl, fun h => absurd h (by simp [H14.out]), fun _ => ⟨hJ.trans (b9.mono hJ.size), p0, fun h => (p1 h).below b9, fun h => (p2 h).below b9, p3, p4, p5, p6, p7, fun _ => rfl, fun h => (p9 h).below b9, fun h => (p10 h).below b9, fun _ => rfl, fun _ => rfl, fun h => (p13 h).below b9⟩, fun h => absurd h (by simp [H14.out])⟩
    · simp only [List.getElem?_toArray, List.getElem?_cons_zero, List.getElem?_cons_succ, Option.some.injEq] at ho
      subst ho
      have HPF : Hid _ := pf
      clear pf
      go_wp2_with (fail)
      have b9 : Below wr.heap.size wr (wr.alloc (.cells #[.int .i64 0, .int .i64 0, .int .i64 0, .int .i64 0, .int .i64 0, .int .i64 0, .int .i64 0] 64)) := by go_grown
      obtain ⟨p0, p1, p2, p3, p4, p5, p6, p7, p8, p9, p10, p11, p12, p13⟩ := HPF.out
      exact ⟨_, _, _, _, _, _, _, _, _, _, _, _, _, _, _, _, _, _, _, _, _, _, _, _, _, _, _, _, _, _, rfl, fun h => absurd h (by simp [H14.out]), fun _ => ⟨hJ.trans (b9.mono hJ.size), p0, fun h => (p1 h).below b9, fun h => (p2 h).below b9, p3, p4, p5, p6, p7, p8, fun h => (p9 h).below b9, fun h => (p10 h).below b9, p11, p12, fun _ => ⟨wr.heap.size, rfl, Nat.le_trans sW hJ.size, by rw [zeros7]; exact heap_alloc_new wr _⟩⟩, fun h => absurd h (by simp [H14.out])⟩
    · simp only [List.getElem?_toArray, List.getElem?_cons_zero, List.getElem?_cons_succ, Option.some.injEq] at ho
      subst ho
      simp [Region.binds] at haf
      obtain ⟨B3, rfl, hB3, hr3⟩ := pf.2.2.2.2.2.2.2.2.2.2.2.2.2 (haf.1)
      obtain rfl : x28 = _ := pf.2.2.2.2.2.2.2.2.2.2.2.2.1 (haf.2.1)
      have HPF : Hid _ := pf
      clear pf
      go_wp2_with (refine wpList_storeRel rfl rfl (.tmp 7) (.tmp 28) rfl B3 0 (comp (comp (enterAns c) r) leaveL) rfl rfl h2.1 (by simpa using hr3.there) ?_)
      refine ⟨_, _, _, _, _, _, _, _, _, _, _, _, _, _, _, _, _, _, _, _, _, _, _, _, _, _, _, _, _, _, rfl, fun _ j hj => ?_, fun h => absurd h (by simp), fun _ => ⟨B3, rfl, hB3, hr3.store (by rw [h2.1]; rfl), hJ.grown (grown_setCells7 _ _ _ _) hJ.size (fun k hk => by cases hk; exact Nat.le_trans sW2 hB3)⟩⟩
      have hcj : j = 0 ∨ j = 1 ∨ j = 2 ∨ j = 3 ∨ j = 4 ∨ j = 5 ∨ j = 6 ∨ j = 7 ∨ j = 8 ∨ j = 9 ∨ j = 10 ∨ j = 11 ∨ j = 12 ∨ j = 13 := by omega
      rcases hcj with rfl | rfl | rfl | rfl | rfl | rfl | rfl | rfl | rfl | rfl | rfl | rfl | rfl | rfl <;> simp_all
   case he =>
    intro l a wr hI hall9
    obtain ⟨y1, y2, y3, y8, y9, y10, y11, y12, y13, y14, y15, y29, y30, y31, y32, y33, x16, x17, x18, x19, x20, x21, x22, x23, x24, x25, x26, x27, x28, x7, rfl, hall, hF, hlast⟩ := hI
    have hend := hlast (hall9 14 (by simp))
    clear hall hF hlast hall9
    obtain ⟨B, rfl, hB, hBt, bB⟩ := hend
    have bB : Below W.heap.size W wr := Below.trans (by go_grown) bB
    have hRW : RelAt wr (w.heap.size + 1 + 1) (List.replicate 7 0) := (bB.block _ (by omega)).trans hRW0
    have bB' := bW.trans (bB.mono bW.size)
    have s5 := bB.size
    obtain ⟨t, ht0⟩ : ∃ t, comp (comp (enterAns c) r) leaveL = t := ⟨_, rfl⟩
    rw [ht0] at hBt h2 h3
    have HT0 : Hid _ := ht0
    have ht := h2
    have hBl := hBt.lt
    obtain ⟨w5, hw5⟩ : ∃ z, z = wr := ⟨_, rfl⟩
    subst hw5
    have hBt : RelAt w5.drew B t := hBt
    have hRW : RelAt w5.drew (w.heap.size + 1 + 1) (List.replicate 7 0) := hRW
    have hBl : B < w5.drew.heap.size := hBl
    have zR : w.heap.size + 1 + 1 < w5.drew.heap.size := by show _ < w5.heap.size; omega
    have hZ : w.heap.size ≤ w5.drew.heap.size := by omega
    clear hRW0 hTW bB cS ht0
    go_wp2_with fail
    refine wp_region_inv (by kernel_rfl) (by kernel_rfl) (EBInv t B w.heap.size w5.drew) ?h0 ?hs ?he
    case h0 => exact ⟨_, _, _, _, _, _, _, _, _, _, _, _, _, _, _, _, _, _, _, _, _, _, _, _, _, _, _, _, _, _, rfl, by simp, fun _ => ⟨Below.refl _ _, by simp, by simp, by simp, by simp, by simp⟩, by simp⟩
    case hs =>
     intro l i o a wr ho hI hli haf
     obtain ⟨y0, y1, y2, y3, y8, y9, y10, y11, y12, y13, y14, y15, y16, y17, y18, y19, y20, y21, y22, y23, y24, y25, y26, y27, y28, x29, x30, x31, x32, x33, rfl, hall, hF, hlast⟩ := hI
     have hi : i < 6 := (Array.getElem?_eq_some_iff.1 ho).1
     have h14 : l 5 = false := by
      cases h : l 5
      · rfl
      · by_cases e : i = 5
        · subst e; simp [h] at hli
        · have := hall h i (by omega); simp [this] at hli
     obtain ⟨hJ, pf⟩ := hF h14
     have H14 : Hid _ := h14
     clear hF hlast hall h14
     have hcases : i = 0 ∨ i = 1 ∨ i = 2 ∨ i = 3 ∨ i = 4 ∨ i = 5 := by omega
     rcases hcases with rfl | rfl | rfl | rfl | rfl | rfl
     · simp only [List.getElem?_toArray, List.getElem?_cons_zero, Option.some.injEq] at ho
       subst ho
       have HPF : Hid _ := pf
       clear pf
       go_wp2_with (go_at_call 128; refine (implKeep _).mono ?_; rintro e w9 ⟨a9, rfl, o9, b9⟩)
       rw [keep_smalls.1] at o9
       obtain ⟨g9, cp9, rfl, hr9, hg9, _⟩ := own_range o9
       obtain ⟨p0, p1, p2, p3, p4⟩ := HPF.out
       exact ⟨_, _, _, _, _, _, _, _, _, _, _, _, _, _, _, _, _, _, _, _, _, _, _, _, _, _, _, _, _, _, rfl, fun h => absurd h (by simp [H14.out]), fun _ => ⟨hJ.trans (b9.mono hJ.size), fun _ => ⟨g9, cp9, rfl, hr9, hg9⟩, fun h => (p1 h).below b9, p2, p3, p4⟩, fun h => absurd h (by simp [H14.out])⟩
     · simp only [List.getElem?_toArray, List.getElem?_cons_zero, List.getElem?_cons_succ, Option.some.injEq] at ho
       subst ho
       simp [Region.binds] at haf
       obtain ⟨g1, cp1, rfl, hr1, hg1⟩ := pf.1 (haf)
       have HPF : Hid _ := pf
       clear pf
       go_wp2_with (refine wpList_arrayAt rfl (.tmp 29) rfl g1 0 cp1 rfl ?_)
       obtain ⟨p0, p1, p2, p3, p4⟩ := HPF.out
       exact ⟨_, _, _, _, _, _, _, _, _, _, _, _, _, _, _, _, _, _, _, _, _, _, _, _, _, _, _, _, _, _, rfl, fun h => absurd h (by simp [H14.out]), fun _ => ⟨hJ, p0, fun _ => ⟨g1, rfl, hr1, hg1⟩, p2, p3, p4⟩, fun h => absurd h (by simp [H14.out])⟩
     · simp only [List.getElem?_toArray, List.getElem?_cons_zero, List.getElem?_cons_succ, Option.some.injEq] at ho
       subst ho
       simp [Region.binds] at haf
       obtain ⟨g2, rfl, hr2, hg2⟩ := pf.2.1 (haf)
       have HPF : Hid _ := pf
       clear pf
       go_wp2_with (refine wpList_loadRel rfl (.tmp 30) rfl g2 0 (keepL) rfl keep_smalls.1 hr2 ?_)
       obtain ⟨p0, p1, p2, p3, p4⟩ := HPF.out
       exact ⟨_, _, _, _, _, _, _, _, _, _, _, _, _, _, _, _, _, _, _, _, _, _, _, _, _, _, _, _, _, _, rfl, fun h => absurd h (by simp [H14.out]), fun _ => ⟨hJ, p0, p1, fun _ => rfl, p3, p4⟩, fun h => absurd h (by simp [H14.out])⟩
     · simp only [List.getElem?_toArray, List.getElem?_cons_zero, List.getElem?_cons_succ, Option.some.injEq] at ho
       subst ho
       have HPF : Hid _ := pf
       clear pf
       have hB9 : RelAt wr B t := (hJ.block B hBl).trans hBt
       go_wp2_with (refine wpList_loadRel rfl (.tmp 7) rfl B 0 t rfl ht.1 hB9.range ?_)
       obtain ⟨p0, p1, p2, p3, p4⟩ := HPF.out
       exact ⟨_, _, _, _, _, _, _, _, _, _, _, _, _, _, _, _, _, _, _, _, _, _, _, _, _, _, _, _, _, _, rfl, fun h => absurd h (by simp [H14.out]), fun _ => ⟨hJ, p0, p1, p2, fun _ => rfl, p4⟩, fun h => absurd h (by simp [H14.out])⟩
     · simp only [List.getElem?_toArray, List.getElem?_cons_zero, List.getElem?_cons_succ, Option.some.injEq] at ho
       subst ho
       simp [Region.binds] at haf
       obtain rfl : x31 = _ := pf.2.2.1 (haf.1)
       obtain rfl : x32 = _ := pf.2.2.2.1 (haf.2.1)
       have HPF : Hid _ := pf
       clear pf
       go_wp2_with (go_at_call 118; refine (relOr keepL t _ keep_smalls ht).mono ?_; rintro e w9 ⟨rfl, b9⟩)
       obtain ⟨p0, p1, p2, p3, p4⟩ := HPF.out
       exact ⟨_, _, _, _, _, _, _, _, _, _, _, _, _, _, _, _, _, _, _, _, _, _, _, _, _, _, _, _, _, _, rfl, fun h => absurd h (by simp [H14.out]), fun _ => ⟨hJ.trans (b9.mono hJ.size), fun h => (p0 h).below b9, fun h => (p1 h).below b9, fun _ => rfl, fun _ => rfl, fun _ => rfl⟩, fun h => absurd h (by simp [H14.out])⟩
     · simp only [List.getElem?_toArray, List.getElem?_cons_zero, List.getElem?_cons_succ, Option.some.injEq] at ho
       subst ho
       simp [Region.binds] at haf
       obtain rfl : x33 = _ := pf.2.2.2.2 (haf.1)
       have HPF : Hid _ := pf
       clear pf
       have hr9 : RelAt wr (w.heap.size + 1 + 1) (List.replicate 7 0) := (hJ.block _ zR).trans hRW
       go_wp2_with (refine wpList_storeRel rfl rfl (.tmp 6) (.tmp 33) rfl (w.heap.size + 1 + 1) 0 (joi keepL t) rfl rfl h3.1 (by simpa using hr9.there) ?_)
       refine ⟨_, _, _, _, _, _, _, _, _, _, _, _, _, _, _, _, _, _, _, _, _, _, _, _, _, _, _, _, _, _, rfl, fun _ j hj => ?_, fun h => absurd h (by simp), fun _ => ⟨hr9.store (by rw [h3.1]; rfl), (Below.mono hJ hZ).grown (grown_setCells7 _ _ _ _) (by have := hJ.size; omega) (fun k hk => by cases hk; omega)⟩⟩
       have hcj : j = 0 ∨ j = 1 ∨ j = 2 ∨ j = 3 ∨ j = 4 := by omega
       rcases hcj with rfl | rfl | rfl | rfl | rfl <;> simp_all
    case he =>
     intro l a wr hI hall9
     obtain ⟨y0, y1, y2, y3, y8, y9, y10, y11, y12, y13, y14, y15, y16, y17, y18, y19, y20, y21, y22, y23, y24, y25, y26, y27, y28, x29, x30, x31, x32, x33, rfl, hall, hF, hlast⟩ := hI
     have hend := hlast (hall9 5 (by simp))
     clear hall hF hlast hall9
     obtain ⟨hR9, b9⟩ := hend
     go_wp2
     refine bodyPost_cellR rfl (w.heap.size + 1 + 1) 0 (ints (joi keepL t)) _ rfl hR9.range relUnd rfl (by rw [relInfo]; simp [ints, h3.1]) rfl ⟨by rw [HT0.out]; rfl, ?_⟩
     exact bB'.trans (show Below w.heap.size w5 wr from ⟨b9.os, b9.tape, b9.output, b9.size, b9.block⟩)
 · have e : effL c T ⟨k, x, y⟩ = flowL c k x y := by unfold effL; rw [if_neg h8]
   rw [e]
   have e2 : flowAns c k x y = flowL c k x y := by unfold flowAns; simp [hs.1, hc]
   have hf := implFlow c k x y
   rw [e2] at hf
   go_enter Try.func140, Try.ntmps140
   go_wp2_with fail
   go_at_call 130
   refine (hf _).mono ?_
   rintro e w1 ⟨a1, rfl, o1, b1⟩
   rw [flowL_length] at o1
   obtain ⟨g1, cp1, rfl, hr1, hg1, _⟩ := own_range o1
   have bW : Below w.heap.size w (((w.alloc (.cells #[.int .i64 k, .int .i64 x, .int .i64 y] 92)).alloc (.cells ts.toArray 88)).alloc (.cells #[.int .i64 0, .int .i64 0, .int .i64 0, .int .i64 0, .int .i64 0, .int .i64 0, .int .i64 0] 64)) := by go_grown
   have hR1 : RelAt w1 (w.heap.size + 1 + 1) (List.replicate 7 0) := by
    have h9 := heap_alloc_new ((w.alloc (.cells #[.int .i64 k, .int .i64 x, .int .i64 y] 92)).alloc (.cells ts.toArray 88)) (.cells #[.int .i64 0, .int .i64 0, .int .i64 0, .int .i64 0, .int .i64 0, .int .i64 0, .int .i64 0] 64)
    rw [zeros7] at h9
    refine (b1.block _ (by simp)).trans ?_
    rw [zeros7]
    simpa using h9
   have bL := bW.trans (b1.mono bW.size)
   have hth : w1.there (w.heap.size + 1 + 1) 0 7 := by simpa using hR1.there
   have HTH : Hid _ := hth
   have HR : Hid _ := hR1
   have hfl := flowL_length c k x y
   clear hth hR1 hf bW
   go_wp2_with (first
    | refine wpList_arrayAt rfl (.tmp 13) rfl g1 0 cp1 rfl ?_
    | refine wpList_loadRel rfl (.tmp 14) rfl g1 0 (flowL c k x y) rfl hfl hr1 ?_
    | refine wpList_storeRel rfl rfl (.tmp 6) (.tmp 15) rfl (w.heap.size + 1 + 1) 0 (flowL c k x y) rfl rfl hfl HTH.out ?_)
   have hfin := RelAt.store HR.out (zs := flowL c k x y) (by rw [hfl]; rfl)
   refine bodyPost_cellR rfl (w.heap.size + 1 + 1) 0 (ints (flowL c k x y)) _ rfl hfin.range relUnd rfl (by rw [relInfo]; simp [ints, hfl]) rfl ⟨rfl, ?_⟩
   exact bL.grown (grown_setCells7 _ _ _ _) (by have := bL.size; omega) (fun k hk => by simp at hk; omega)

end Go.Proofs.Ytnjbihfceckpfaa
