/-
 Chapter 10, the program's side: tablesWith.
-/
import Derived.Test.YtnjbihfceckpfaaG42FindSt
namespace Go.Proofs.Ytnjbihfceckpfaa
open Go.RowKit
set_option linter.unusedVariables false
set_option linter.unusedSimpArgs false
set_option maxHeartbeats 4000000
set_option maxRecDepth 20000

/-- What tablesWith has in memory. -/
structure US (v : Value) (T : List (List Int)) (w : World) (X : List (List Int)) (wr : World) : Prop where
 p : wr.heap[w.heap.size]? = some (.cells #[v] 30 (0, 0))
 t : TabR wr (w.heap.size + 1) 88 T
 z : TabR wr (w.heap.size + 1 + 1) 88 (List.replicate 4 zero7)
 e : TabR wr (w.heap.size + 1 + 1 + 1) 88 X
 bl : Below w.heap.size w wr

theorem US.below {v : Value} {T : List (List Int)} {w : World} {ES : List (List Int)} {wr wr' : World} (h : US v T w ES wr) (hb : Below wr.heap.size wr wr') : US v T w ES wr' :=
 ⟨(hb.block _ (Array.getElem?_eq_some_iff.1 h.p).1).trans h.p, h.t.below hb, h.z.below hb, h.e.below hb, h.bl.trans (hb.mono h.bl.size)⟩

theorem US.turned {v : Value} {T : List (List Int)} {w : World} {ES ES' : List (List Int)} {wr wr' : World} (h : US v T w ES wr) (hT : TabR wr' (w.heap.size + 1 + 1 + 1) 88 ES') (hg : wr.grownBy wr' (some (w.heap.size + 1 + 1 + 1))) : US v T w ES' wr' :=
 ⟨(hg.block _ (Array.getElem?_eq_some_iff.1 h.p).1 (fun e => by have := Option.some.inj e; omega)).trans h.p, h.t.grown hg (fun e => by have := Option.some.inj e; omega), h.z.grown hg (fun e => by have := Option.some.inj e; omega), hT, h.bl.grown hg h.bl.size (fun k hk => by cases hk; omega)⟩

theorem US.grown {v : Value} {T : List (List Int)} {w : World} {ES : List (List Int)} {wr wr' : World} {B : Nat} (h : US v T w ES wr) (hg : wr.grownBy wr' (some B)) (hB : w.heap.size + 1 + 1 + 1 < B) : US v T w ES wr' :=
 ⟨(hg.block _ (Array.getElem?_eq_some_iff.1 h.p).1 (fun e => by have := Option.some.inj e; omega)).trans h.p, h.t.grown hg (fun e => by have := Option.some.inj e; omega), h.z.grown hg (fun e => by have := Option.some.inj e; omega), h.e.grown hg (fun e => by have := Option.some.inj e; omega), h.bl.grown hg h.bl.size (fun k hk => by cases hk; omega)⟩

theorem rep_getD {n j : Nat} (hj : j < n) : (List.replicate n zero7).getD j [] = zero7 := by simp [List.getD, hj]

theorem readsP_at' {w : World} {ao : Option Addr} {n cap : Nat} {ps : List (List Stm)} (h : ReadsP w (.slice ao n cap) ps) {y : Nat} (hy : y < ps.length) : ∃ g off u, ao = some ⟨g, off, none⟩ ∧ w.cell? ⟨g, off + y, none⟩ = some u ∧ Reads3 w u ps[y] := by
 obtain ⟨ao', cap', e, hc⟩ := h
 obtain ⟨rfl, -, -⟩ : ao = ao' ∧ n = ps.length ∧ cap = cap' := by simpa using e
 obtain ⟨g, off, u, h1, h2, h3⟩ := hc y ps[y] (by simp [hy])
 exact ⟨g, off, u, h1, h2, h3⟩

--HELD defs
/-- What the region has, operation by operation. -/
def UAFct (X1 : List (List Int)) (xi rk : List Int) (i k B A n0 : Nat) (s0 s1 s2 s3 s4 s5 s6 s9 s12 s13 s14 s15 s16 s17 s18 s19 s20 s21 s22 s23 s24 s25 s26 s27 s28 s29 s30 s31 s32 s33 s34 s35 s45 s46 s47 : Value) (wr : World) (l : Nat → Bool) (x36 x37 x38 x39 x40 x41 x42 x43 x44 : Value) : Prop :=
 (l 0 = true → x36 = .int .i64 (i : Int)) ∧ (l 1 = true → x37 = .int .i64 (i : Int)) ∧ (l 2 = true → x38 = .pointer (some ⟨A, i * 7, none⟩)) ∧ (l 3 = true → x39 = relV xi) ∧ (l 4 = true → x40 = .int .i64 (k : Int)) ∧ (l 5 = true → x41 = .pointer (some ⟨B, k * 7, none⟩)) ∧ (l 6 = true → x42 = relV rk) ∧ (l 7 = true → x43 = relV (joi xi rk)) ∧ (l 8 = true → x44 = .pointer (some ⟨A, i * 7, none⟩))

set_option maxRecDepth 20000 in
/-- The invariant of that region. -/
def UAInv (X1 : List (List Int)) (xi rk : List Int) (i k B A n0 : Nat) (s0 s1 s2 s3 s4 s5 s6 s9 s12 s13 s14 s15 s16 s17 s18 s19 s20 s21 s22 s23 s24 s25 s26 s27 s28 s29 s30 s31 s32 s33 s34 s35 s45 s46 s47 : Value) (W0 : World) (l : Nat → Bool) (a : Act) (wr : World) : Prop :=
 ∃  x36 x37 x38 x39 x40 x41 x42 x43 x44 : Value,
  a = { tmps := List.toArray (s0 :: s1 :: s2 :: s3 :: s4 :: s5 :: s6 :: .pointer (some ⟨A, 0, none⟩) :: .int .i64 (i : Int) :: s9 :: .pointer (some ⟨B, 0, none⟩) :: .int .i64 (k : Int) :: s12 :: s13 :: s14 :: s15 :: s16 :: s17 :: s18 :: s19 :: s20 :: s21 :: s22 :: s23 :: s24 :: s25 :: s26 :: s27 :: s28 :: s29 :: s30 :: s31 :: s32 :: s33 :: s34 :: s35 :: x36 :: x37 :: x38 :: x39 :: x40 :: x41 :: x42 :: x43 :: x44 :: s45 :: s46 :: s47 :: []), defers := [] } ∧ (l 9 = true → ∀ j, j < 9 → l j = true) ∧
  (l 9 = false → Below W0.heap.size W0 wr ∧ UAFct X1 xi rk i k B A n0 s0 s1 s2 s3 s4 s5 s6 s9 s12 s13 s14 s15 s16 s17 s18 s19 s20 s21 s22 s23 s24 s25 s26 s27 s28 s29 s30 s31 s32 s33 s34 s35 s45 s46 s47 wr l x36 x37 x38 x39 x40 x41 x42 x43 x44) ∧ (l 9 = true → TabR wr A 88 (X1.set i (joi xi rk)) ∧ Below n0 W0 wr ∧ ∀ k, k < W0.heap.size → k ≠ A → wr.heap[k]? = W0.heap[k]?)

--DLEH defs
theorem tablesWith (ps : List (List Stm)) (c : Int) (T : List (List Int)) (v : Value) (w : World) (hc : c = 1 ∨ c = 2) (hp : CanP ps) (h4 : ps.length ≤ 4) (hR : Rows7 4 T) (hT : GoodN ps.length T) (hv : ReadsP w v ps) :
 Calls Try.prog 82 #[.agg #[v], .int .i64 c, tabR T] w fun e w' => ∃ R, e = .returned (tabR R) ∧ Rows7 4 R ∧ IsRound c ps T R ∧ (∀ i, ps.length ≤ i → i < 4 → R.getD i [] = zero7) ∧ Below w.heap.size w w' := by
 have hz : ∀ w, (zeroValue 88).run Try.prog w = .ok (.agg (ints (List.replicate 4 zero7).flatten).toArray) w := isTab4.zero
 obtain ⟨zs, hzs⟩ : ∃ zs, ints (List.replicate 4 zero7).flatten = zs := ⟨_, rfl⟩
 rw [hzs] at hz
 obtain ⟨ts, hts⟩ : ∃ ts, ints T.flatten = ts := ⟨_, rfl⟩
 have hz12 : ∀ w, (zeroValue 66).run Try.prog w = .ok (.agg (ints (List.replicate 12 zero7).flatten).toArray) w := isTab12.zero
 obtain ⟨qs, hqs⟩ : ∃ zs, ints (List.replicate 12 zero7).flatten = zs := ⟨_, rfl⟩
 rw [hqs] at hz12
 have HQS : Hid _ := hqs
 have hv3 := hv
 obtain ⟨ao, cap, rfl, hcell⟩ := hv
 unfold tabR
 rw [hts]
 go_enter Try.func82, Try.ntmps82
 go_wp2_with fail
 obtain ⟨W, hW⟩ : ∃ W, (((w.alloc (.cells #[.slice ao ps.length cap] 30)).alloc (.cells ts.toArray 88)).alloc (.cells zs.toArray 88)).alloc (.cells zs.toArray 88) = W := ⟨_, rfl⟩
 have S0 : US (.slice ao ps.length cap) T w (List.replicate 4 zero7) W := by
  have a1 : (w.alloc (.cells #[.slice ao ps.length cap] 30)).heap.size = w.heap.size + 1 := by simp
  have a2 : ((w.alloc (.cells #[.slice ao ps.length cap] 30)).alloc (.cells ts.toArray 88)).heap.size = w.heap.size + 1 + 1 := by simp
  have a3 : (((w.alloc (.cells #[.slice ao ps.length cap] 30)).alloc (.cells ts.toArray 88)).alloc (.cells zs.toArray 88)).heap.size = w.heap.size + 1 + 1 + 1 := by simp
  refine ⟨?_, ?_, ?_, ?_, by rw [← hW]; go_grown⟩
  · rw [← hW, old_block (by omega), old_block (by omega), old_block (by omega)]; exact heap_alloc_new w _
  · unfold TabR
    rw [← hW, old_block (by omega), old_block (by omega), hts]
    have := heap_alloc_new (w.alloc (.cells #[.slice ao ps.length cap] 30)) (.cells ts.toArray 88)
    rwa [a1] at this
  · unfold TabR
    rw [← hW, old_block (by omega), hzs]
    have := heap_alloc_new ((w.alloc (.cells #[.slice ao ps.length cap] 30)).alloc (.cells ts.toArray 88)) (.cells zs.toArray 88)
    rwa [a2] at this
  · unfold TabR
    rw [← hW, hzs]
    have := heap_alloc_new (((w.alloc (.cells #[.slice ao ps.length cap] 30)).alloc (.cells ts.toArray 88)).alloc (.cells zs.toArray 88)) (.cells zs.toArray 88)
    rwa [a3] at this
 rw [hW]
 clear hW hzs hts hz hqs
 go_loopw [16] (fun iv wr => ∃ (i : Nat) (X : List (List Int)), i ≤ ps.length ∧ iv = .int .i64 i ∧ US (.slice ao ps.length cap) T w X wr ∧ Rows7 4 X ∧ (∀ j (hj : j < ps.length), j < i → ∃ R, IsInner (effN c T ps[j]) ps[j] R ∧ X.getD j [] = backs ps[j] R) ∧ (∀ j, i ≤ j → j < 4 → X.getD j [] = zero7)) (fun iv _ => ps.length - (intOf iv).toNat)
 case atStart => exact ⟨0, _, Nat.zero_le _, rfl, S0, Rows7.zero 4, fun j _ h => absurd h (by omega), fun j _ hj => rep_getD hj⟩
 case round =>
  obtain ⟨i, X, hi, rfl, S, hX, hdone, hzero⟩ := hrel
  clear S0
  have HS : Hid _ := S
  have HX : Hid (Rows7 4 X) := hX
  have HD : Hid _ := hdone
  have HZ : Hid _ := hzero
  by_cases hlt : i < ps.length
  · have hlt' : (i : Int) < (ps.length : Int) := by omega
    have hi4 : i < 4 := by omega
    have hi4' : (i : Int) < 4 := by omega
    obtain ⟨gp, op, up, rfl, cp, hup⟩ := readsP_at' hv3 hlt
    have cp := (S.bl.cell (World.block_lt_of_cell? w _ cp)).trans cp
    have hSb := S.bl
    obtain ⟨uo, uc, rfl, hucell⟩ := id hup
    have hpk := (hp i hlt).1
    obtain ⟨hpos, h12, _⟩ := procOk_parts hpk
    have hrel' := fun W (hW : Below wr.heap.size wr W) => relationsWith ps[i] c T ps.length (.slice uo ps[i].length uc) W hc h4 hpk (hp i hlt).2 hR hT (reads3_below hup (hSb.trans (hW.mono hSb.size)))
    clear S hX hdone hzero
    go_wp2_with (first
     | ((with_reducible refine wpList_loadTabL (x := .tmp 5) isTab4 (w.heap.size + 1) T ?hx hR ?hT ?_); (case hx => rfl); (case hT => exact (HS.out.below (by go_grown)).t)))
    go_at_call 117
    refine (hrel' _ (by go_grown)).mono ?_
    rintro e w2 ⟨R, rfl, hRR, hRI, b2⟩
    clear hrel'
    have B2 : Below wr.heap.size wr w2 := Below.trans (by go_grown) (b2.mono (by simp))
    have S2 := HS.out.below B2
    have HRR : Hid (Rows7 12 R) := hRR
    have HRI : Hid _ := hRI
    have P2 : w2.heap[wr.heap.size]? = some (.cells #[.slice uo ps[i].length uc] 81 (0, 0)) := (b2.block _ (by simp)).trans (heap_alloc_new wr _)
    have z2 : wr.heap.size < w2.heap.size := (Array.getElem?_eq_some_iff.1 P2).1
    obtain ⟨w3, hw3⟩ : ∃ z, w2.alloc (.cells qs.toArray 66) = z := ⟨_, rfl⟩
    have T3 : TabR w3 w2.heap.size 66 (List.replicate 12 zero7) := by rw [← hw3, ← HQS.out]; exact tabR_new w2 _ _
    have B3 : Below w2.heap.size w2 w3 := by rw [← hw3]; go_grown
    have P3 : Hid (w3.heap[wr.heap.size]? = some (.cells #[.slice uo ps[i].length uc] 81 (0, 0))) := (B3.block _ z2).trans P2
    have HS3 : Hid _ := S2.below B3
    have HT3 : Hid (TabR w3 w2.heap.size 66 (List.replicate 12 zero7)) := T3
    have HW3 : Hid _ := hw3
    have s2 := S2.e.lt
    have HBB : Hid _ := B2
    clear S2 T3 hRR hRI hw3 b2 P2 B2 B3
    go_wp2_with (first
     | (rw [HW3.out]; (with_reducible refine wpList_storeTabL (x := .tmp 10) (y := .tmp 24) isTab12 w2.heap.size (List.replicate 12 zero7) R ?hx ?hy (Rows7.zero 12) HRR.out HT3.out ?_); (case hx => rfl); (case hy => rfl); intro w4 T4 g4; have S4 : Hid _ := US.grown HS3.out g4 (by omega); have HT4 : Hid (TabR w4 w2.heap.size 66 R) := T4; have P4 : w4.heap[wr.heap.size]? = some (.cells #[.slice uo ps[i].length uc] 81 (0, 0)) := (g4.block _ (Array.getElem?_eq_some_iff.1 P3.out).1 (fun e => by have := Option.some.inj e; omega)).trans P3.out; clear T4 g4; refine stop_of ?_))
    unfold Stop
    obtain ⟨c4, f4⟩ := one_cell P4
    clear HT3 HW3 HS3 P3 P4
    obtain ⟨wo, hwo⟩ : ∃ z, z = wr := ⟨_, rfl⟩
    subst hwo
    go_wp2_with fail
    clear c4 f4
    go_loopw [28] (fun kv wr => ∃ (k : Nat) (X1 : List (List Int)), k ≤ ps[i].length ∧ kv = .int .i64 k ∧ US (.slice (some ⟨gp, op, none⟩) ps.length cap) T w X1 wr ∧ Rows7 4 X1 ∧ TabR wr w2.heap.size 66 R ∧ X1.getD i [] = backsK ps[i] R k ∧ (∀ j, j ≠ i → X1.getD j [] = X.getD j [])) (fun kv _ => ps[i].length - (intOf kv).toNat)
    case atStart => exact ⟨0, X, Nat.zero_le _, rfl, S4.out, HX.out, HT4.out, HZ.out i (Nat.le_refl _) hi4, fun j _ => rfl⟩
    case round =>
     obtain ⟨k, X1, hk, rfl, S, hX1, BT, hXi, hXo⟩ := hrel
     clear S4 HT4
     have BB := S.bl
     by_cases hkl : k < ps[i].length
     · have hkl' : (k : Int) < (ps[i].length : Int) := by omega
       have hk12 : k < 12 := by omega
       have hk12' : (k : Int) < 12 := by omega
       obtain ⟨gs, off, rfl, k0, k1, k2⟩ := hucell k ps[i][k] (by simp [hkl])
       have k0 := (BB.cell (World.block_lt_of_cell? w _ k0)).trans k0
       have k1 := (BB.cell (World.block_lt_of_cell? w _ k1)).trans k1
       have k2 := (BB.cell (World.block_lt_of_cell? w _ k2)).trans k2
       have hbk : backsK ps[i] R (k + 1) = if ps[i][k].k = 9 then joi (backsK ps[i] R k) (R.getD k []) else backsK ps[i] R k := by
        rw [backsK]; simp [List.getD, hkl]
       by_cases h9 : ps[i][k].k = 9
       · rw [if_pos h9] at hbk
         rw [h9] at k0
         obtain ⟨xi, hxi0⟩ : ∃ r, X1.getD i [] = r := ⟨_, rfl⟩
         obtain ⟨rk, hrk0⟩ : ∃ r, R.getD k [] = r := ⟨_, rfl⟩
         have hxi : Smalls xi := by rw [← hxi0, hXi]; exact backsK_smalls HRI.out.good k hk
         have hrk : Smalls rk := by rw [← hrk0]; exact HRI.out.good k hkl
         have hjS := joi_smalls hxi hrk
         have Hxi : Hid (X1.getD i [] = xi) := hxi0
         have Hrk : Hid (R.getD k [] = rk) := hrk0
         have Hbk : Hid (backsK ps[i] R (k + 1) = joi xi rk) := by
          show backsK ps[i] R (k + 1) = joi xi rk
          rw [hbk, ← hXi, hxi0, hrk0]
         obtain ⟨wr0, hwr0⟩ : ∃ z, z = wr := ⟨_, rfl⟩
         subst hwr0
         obtain ⟨wr1, hwr1⟩ : ∃ z, wr0.alloc (.cells #[.int .i64 9, .int .i64 ps[i][k].x, .int .i64 ps[i][k].y] 92) = z := ⟨_, rfl⟩
         have B1 : Below wr0.heap.size wr0 wr1 := by rw [← hwr1]; go_grown
         have HS1 : Hid _ := S.below B1
         have HX1 : Hid (Rows7 4 X1) := hX1
         have HB1 : Hid (TabR wr1 w2.heap.size 66 R) := BT.below B1
         have HXO : Hid _ := hXo
         have HW1 : Hid _ := hwr1
         have zz := (S.below B1).e.lt
         have hZ3 : w.heap.size ≤ wr1.drew.heap.size := by show _ ≤ wr1.heap.size; omega
         clear S hX1 BT BB hXi hXo h9 hxi0 hrk0 hbk hwr1 B1
         go_wp2_with fail
         rw [HW1.out]
         clear HW1 k0 k1 k2
         refine wp_region_inv (by kernel_rfl) (by kernel_rfl) (UAInv X1 xi rk i k w2.heap.size (w.heap.size + 1 + 1 + 1) w.heap.size (.agg #[.slice (some ⟨gp, op, none⟩) ps.length cap]) (.int .i64 c) (.agg ts.toArray) (.pointer (some ⟨w.heap.size, 0, none⟩)) undef (.pointer (some ⟨w.heap.size + 1, 0, none⟩)) (.pointer (some ⟨w.heap.size + 1 + 1, 0, none⟩)) (.pointer (some ⟨wo.heap.size, 0, none⟩)) (.pointer (some ⟨wr0.heap.size, 0, none⟩)) (.pointer (some ⟨w.heap.size, 0, none⟩)) (.slice (some ⟨gp, op, none⟩) ps.length cap) (.int .i64 (ps.length : Int)) (.int .i64 (i : Int)) (.bool true) (.int .i64 (i : Int)) (.pointer (some ⟨gp, op + i, none⟩)) (.agg #[.slice (some ⟨gs, off, none⟩) ps[i].length uc]) (.agg #[.slice (some ⟨gs, off, none⟩) ps[i].length uc]) (.int .i64 c) (tabR T) (tabR R) (.pointer (some ⟨wo.heap.size, 0, none⟩)) (.slice (some ⟨gs, off, none⟩) ps[i].length uc) (.int .i64 (ps[i].length : Int)) (.int .i64 (k : Int)) (.bool true) (.int .i64 (k : Int)) (.pointer (some ⟨gs, off + k * 3, none⟩)) (.agg #[.int .i64 9, .int .i64 ps[i][k].x, .int .i64 ps[i][k].y]) (.pointer (some ⟨wr0.heap.size, 0, none⟩)) (.int .i64 9) (.bool true) u45 u46 undef wr1.drew) ?h0 ?hs ?he
         case h0 => exact ⟨_, _, _, _, _, _, _, _, _, rfl, by simp, fun _ => ⟨Below.refl _ _, by simp, by simp, by simp, by simp, by simp, by simp, by simp, by simp, by simp⟩, by simp⟩
         case hs =>
          intro l i o a wr ho hI hli haf
          obtain ⟨x36, x37, x38, x39, x40, x41, x42, x43, x44, rfl, hall, hF, hlast⟩ := hI
          have hi : i < 10 := (Array.getElem?_eq_some_iff.1 ho).1
          have h14 : l 9 = false := by
           cases h : l 9
           · rfl
           · by_cases e : i = 9
             · subst e; simp [h] at hli
             · have := hall h i (by omega); simp [this] at hli
          obtain ⟨hJ, pf⟩ := hF h14
          have H14 : Hid _ := h14
          clear hF hlast hall h14
          have hcases : i = 0 ∨ i = 1 ∨ i = 2 ∨ i = 3 ∨ i = 4 ∨ i = 5 ∨ i = 6 ∨ i = 7 ∨ i = 8 ∨ i = 9 := by omega
          rcases hcases with rfl | rfl | rfl | rfl | rfl | rfl | rfl | rfl | rfl | rfl
          · simp only [List.getElem?_toArray, List.getElem?_cons_zero, Option.some.injEq] at ho
            subst ho
            have HPF : Hid _ := pf
            clear pf
            go_wp2_with (fail)
            obtain ⟨p0, p1, p2, p3, p4, p5, p6, p7, p8⟩ := HPF.out
            exact ⟨_, _, _, _, _, _, _, _, _, rfl, fun h => absurd h (by simp [H14.out]), fun _ => ⟨hJ, fun _ => rfl, p1, p2, p3, p4, p5, p6, p7, p8⟩, fun h => absurd h (by simp [H14.out])⟩
          · simp only [List.getElem?_toArray, List.getElem?_cons_zero, List.getElem?_cons_succ, Option.some.injEq] at ho
            subst ho
            have HPF : Hid _ := pf
            clear pf
            go_wp2_with (fail)
            obtain ⟨p0, p1, p2, p3, p4, p5, p6, p7, p8⟩ := HPF.out
            exact ⟨_, _, _, _, _, _, _, _, _, rfl, fun h => absurd h (by simp [H14.out]), fun _ => ⟨hJ, p0, fun _ => rfl, p2, p3, p4, p5, p6, p7, p8⟩, fun h => absurd h (by simp [H14.out])⟩
          · simp only [List.getElem?_toArray, List.getElem?_cons_zero, List.getElem?_cons_succ, Option.some.injEq] at ho
            subst ho
            simp [Region.binds] at haf
            obtain rfl : x37 = _ := pf.2.1 (haf)
            have HPF : Hid _ := pf
            clear pf
            go_wp2_with (fail)
            obtain ⟨p0, p1, p2, p3, p4, p5, p6, p7, p8⟩ := HPF.out
            exact ⟨_, _, _, _, _, _, _, _, _, rfl, fun h => absurd h (by simp [H14.out]), fun _ => ⟨hJ, p0, fun _ => rfl, fun _ => rfl, p3, p4, p5, p6, p7, p8⟩, fun h => absurd h (by simp [H14.out])⟩
          · simp only [List.getElem?_toArray, List.getElem?_cons_zero, List.getElem?_cons_succ, Option.some.injEq] at ho
            subst ho
            simp [Region.binds] at haf
            obtain rfl : x38 = _ := pf.2.2.1 (haf)
            have HPF : Hid _ := pf
            clear pf
            have hT9 := ((TabR.below (w := wr1.drew) HS1.out.e hJ).row HX1.out hi4)
            go_wp2_with (refine wpList_loadRel rfl (.tmp 38) rfl (w.heap.size + 1 + 1 + 1) (i * 7) xi rfl hxi.1 (Hxi.out ▸ hT9) ?_)
            obtain ⟨p0, p1, p2, p3, p4, p5, p6, p7, p8⟩ := HPF.out
            exact ⟨_, _, _, _, _, _, _, _, _, rfl, fun h => absurd h (by simp [H14.out]), fun _ => ⟨hJ, p0, p1, fun _ => rfl, fun _ => rfl, p4, p5, p6, p7, p8⟩, fun h => absurd h (by simp [H14.out])⟩
          · simp only [List.getElem?_toArray, List.getElem?_cons_zero, List.getElem?_cons_succ, Option.some.injEq] at ho
            subst ho
            have HPF : Hid _ := pf
            clear pf
            go_wp2_with (fail)
            obtain ⟨p0, p1, p2, p3, p4, p5, p6, p7, p8⟩ := HPF.out
            exact ⟨_, _, _, _, _, _, _, _, _, rfl, fun h => absurd h (by simp [H14.out]), fun _ => ⟨hJ, p0, p1, p2, p3, fun _ => rfl, p5, p6, p7, p8⟩, fun h => absurd h (by simp [H14.out])⟩
          · simp only [List.getElem?_toArray, List.getElem?_cons_zero, List.getElem?_cons_succ, Option.some.injEq] at ho
            subst ho
            simp [Region.binds] at haf
            obtain rfl : x40 = _ := pf.2.2.2.2.1 (haf)
            have HPF : Hid _ := pf
            clear pf
            go_wp2_with (fail)
            obtain ⟨p0, p1, p2, p3, p4, p5, p6, p7, p8⟩ := HPF.out
            exact ⟨_, _, _, _, _, _, _, _, _, rfl, fun h => absurd h (by simp [H14.out]), fun _ => ⟨hJ, p0, p1, p2, p3, fun _ => rfl, fun _ => rfl, p6, p7, p8⟩, fun h => absurd h (by simp [H14.out])⟩
          · simp only [List.getElem?_toArray, List.getElem?_cons_zero, List.getElem?_cons_succ, Option.some.injEq] at ho
            subst ho
            simp [Region.binds] at haf
            obtain rfl : x41 = _ := pf.2.2.2.2.2.1 (haf)
            have HPF : Hid _ := pf
            clear pf
            have hT9 := ((TabR.below (w := wr1.drew) HB1.out hJ).row HRR.out hk12)
            go_wp2_with (refine wpList_loadRel rfl (.tmp 41) rfl w2.heap.size (k * 7) rk rfl hrk.1 (Hrk.out ▸ hT9) ?_)
            obtain ⟨p0, p1, p2, p3, p4, p5, p6, p7, p8⟩ := HPF.out
            exact ⟨_, _, _, _, _, _, _, _, _, rfl, fun h => absurd h (by simp [H14.out]), fun _ => ⟨hJ, p0, p1, p2, p3, p4, fun _ => rfl, fun _ => rfl, p7, p8⟩, fun h => absurd h (by simp [H14.out])⟩
          · simp only [List.getElem?_toArray, List.getElem?_cons_zero, List.getElem?_cons_succ, Option.some.injEq] at ho
            subst ho
            simp [Region.binds] at haf
            obtain rfl : x39 = _ := pf.2.2.2.1 (haf.1)
            obtain rfl : x42 = _ := pf.2.2.2.2.2.2.1 (haf.2)
            have HPF : Hid _ := pf
            clear pf
            go_wp2_with (go_at_call 118; refine (relOr xi rk _ hxi hrk).mono ?_; rintro e w9 ⟨rfl, b9⟩)
            obtain ⟨p0, p1, p2, p3, p4, p5, p6, p7, p8⟩ := HPF.out
            exact ⟨_, _, _, _, _, _, _, _, _, rfl, fun h => absurd h (by simp [H14.out]), fun _ => ⟨hJ.trans (b9.mono hJ.size), p0, p1, p2, fun _ => rfl, p4, p5, fun _ => rfl, fun _ => rfl, p8⟩, fun h => absurd h (by simp [H14.out])⟩
          · simp only [List.getElem?_toArray, List.getElem?_cons_zero, List.getElem?_cons_succ, Option.some.injEq] at ho
            subst ho
            simp [Region.binds] at haf
            obtain rfl : x36 = _ := pf.1 (haf.1)
            have HPF : Hid _ := pf
            clear pf
            go_wp2_with (fail)
            obtain ⟨p0, p1, p2, p3, p4, p5, p6, p7, p8⟩ := HPF.out
            exact ⟨_, _, _, _, _, _, _, _, _, rfl, fun h => absurd h (by simp [H14.out]), fun _ => ⟨hJ, fun _ => rfl, p1, p2, p3, p4, p5, p6, p7, fun _ => rfl⟩, fun h => absurd h (by simp [H14.out])⟩
          · simp only [List.getElem?_toArray, List.getElem?_cons_zero, List.getElem?_cons_succ, Option.some.injEq] at ho
            subst ho
            simp [Region.binds] at haf
            obtain rfl : x44 = _ := pf.2.2.2.2.2.2.2.2 (haf.1)
            obtain rfl : x43 = _ := pf.2.2.2.2.2.2.2.1 (haf.2.1)
            have HPF : Hid _ := pf
            clear pf
            go_wp2_with (refine wpList_storeRel rfl rfl (.tmp 44) (.tmp 43) rfl (w.heap.size + 1 + 1 + 1) (i * 7) (joi xi rk) rfl rfl hjS.1 ((TabR.below (w := wr1.drew) HS1.out.e hJ).thereRow HX1.out hi4) ?_)
            refine ⟨_, _, _, _, _, _, _, _, _, rfl, fun _ j hj => ?_, fun h => absurd h (by simp), fun _ => ⟨(TabR.below (w := wr1.drew) HS1.out.e hJ).store HX1.out hi4 hjS.1, (Below.mono hJ hZ3).grown (grown_setCells7 _ _ _ _) (by have := hJ.size; omega) (fun k hk => by cases hk; omega), fun k hk hk2 => (grown_setCells7 _ _ _ _).block k (by have := hJ.size; omega) (fun e => by cases e; exact hk2 rfl) |>.trans (hJ.block k hk)⟩⟩
            have hcj : j = 0 ∨ j = 1 ∨ j = 2 ∨ j = 3 ∨ j = 4 ∨ j = 5 ∨ j = 6 ∨ j = 7 ∨ j = 8 := by omega
            rcases hcj with rfl | rfl | rfl | rfl | rfl | rfl | rfl | rfl | rfl <;> simp_all
         case he =>
          intro l a wr hI hall9
          obtain ⟨x36, x37, x38, x39, x40, x41, x42, x43, x44, rfl, hall, hF, hlast⟩ := hI
          have hend := hlast (hall9 9 (by simp))
          clear hall hF hlast hall9
          obtain ⟨T5, b5, k5⟩ := hend
          have b5' : Below w.heap.size wr1 wr := ⟨b5.os, b5.tape, b5.output, b5.size, b5.block⟩
          have k5' : ∀ k, k < wr1.heap.size → k ≠ w.heap.size + 1 + 1 + 1 → wr.heap[k]? = wr1.heap[k]? := k5
          have g5 : wr1.grownBy wr (some (w.heap.size + 1 + 1 + 1)) := ⟨b5'.os, b5'.tape, b5'.output, b5'.size, fun k hk hk2 => k5' k hk (fun e => hk2 (by rw [e]))⟩
          have HS5 : Hid _ := US.turned HS1.out T5 g5
          have HB5 : Hid (TabR wr w2.heap.size 66 R) := HB1.out.kept (k5' _ HB1.out.lt (by omega))
          clear T5 b5 k5 b5' k5' g5
          go_wp2
          go_roundw
          case rel =>
           have hil : i < X1.length := by rw [HX1.out.1]; exact hi4
           refine ⟨k + 1, _, by omega, by go_num, HS5.out, HX1.out.set hjS.1, HB5.out, by rw [getD_set hil, if_pos rfl, Hbk.out], fun j hj => ?_⟩
           rw [getD_set hil, if_neg hj]
           exact HXO.out j hj
          case measure => simp [intOf]; omega
       · rw [if_neg h9] at hbk
         have Hbk : Hid _ := hbk
         have HS1 : Hid _ := S
         have HX1 : Hid (Rows7 4 X1) := hX1
         have HB1 : Hid (TabR wr w2.heap.size 66 R) := BT
         have HXI : Hid _ := hXi
         have HXO : Hid _ := hXo
         generalize ps[i][k].k = kk at *
         clear S hX1 BT BB hXi hXo hbk
         obtain ⟨wr0, hwr0⟩ : ∃ z, z = wr := ⟨_, rfl⟩
         subst hwr0
         obtain ⟨wr1, hwr1⟩ : ∃ z, wr0.alloc (.cells #[.int .i64 kk, .int .i64 ps[i][k].x, .int .i64 ps[i][k].y] 92) = z := ⟨_, rfl⟩
         have B1 : Below wr0.heap.size wr0 wr1 := by rw [← hwr1]; go_grown
         have HS2 : Hid _ := HS1.out.below B1
         have HB2 : Hid (TabR wr1 w2.heap.size 66 R) := TabR.below HB1.out B1
         have HW1 : Hid _ := hwr1
         clear hwr1 B1
         go_wp2_with fail
         rw [HW1.out]
         clear HW1 k0 k1 k2
         go_roundw
         case rel => exact ⟨k + 1, X1, by omega, by go_num, HS2.out, HX1.out, HB2.out, by rw [Hbk.out]; exact HXI.out, HXO.out⟩
         case measure => simp [intOf]; omega
     · have hkk : k = ps[i].length := by omega
       subst hkk
       have HS1 : Hid _ := S
       have HX1 : Hid (Rows7 4 X1) := hX1
       have HXI : Hid _ := hXi
       have HXO : Hid _ := hXo
       clear S hX1 BT BB hXi hXo
       go_wp2
       go_roundw
       case rel =>
        refine ⟨i + 1, X1, by omega, by go_num, HS1.out, HX1.out, fun j hj hji => ?_, fun j hj hj4 => ?_⟩
        · by_cases e : j = i
          · subst e; exact ⟨R, HRI.out, HXI.out⟩
          · obtain ⟨R', h1, h2⟩ := HD.out j hj (by omega)
            exact ⟨R', h1, by rw [HXO.out j e]; exact h2⟩
        · rw [HXO.out j (by omega)]
          exact HZ.out j (by omega) hj4
       case measure => simp [intOf]; omega
  · have hii : i = ps.length := by omega
    subst hii
    clear S hX hdone hzero
    go_wp2_with (first
     | ((with_reducible refine wpList_loadTabL (x := .tmp 7) isTab4 (w.heap.size + 1 + 1 + 1) X ?hx HX.out HS.out.e ?_); (case hx => rfl))
     | ((with_reducible refine wpList_storeTabL (x := .tmp 6) (y := .tmp 47) isTab4 (w.heap.size + 1 + 1) (List.replicate 4 zero7) X ?hx ?hy (Rows7.zero 4) HX.out HS.out.z ?_); (case hx => rfl); (case hy => rfl); intro w5 T5 g5; have HT5 : Hid (TabR w5 (w.heap.size + 1 + 1) 88 X) := T5; have G5 : Hid _ := g5; clear T5 g5; refine stop_of ?_))
    unfold Stop
    go_wp2
    refine bodyPost_tabR isTab4 rfl (w.heap.size + 1 + 1) X rfl HX.out HT5.out rfl ⟨X, rfl, HX.out, fun j hj => HD.out j hj hj, HZ.out, ?_⟩
    exact HS.out.bl.grown G5.out HS.out.bl.size (fun k hk => by cases hk; omega)

end Go.Proofs.Ytnjbihfceckpfaa
