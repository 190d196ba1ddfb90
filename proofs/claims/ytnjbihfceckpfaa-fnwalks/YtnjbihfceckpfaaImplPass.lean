/-
 Chapter 10, the program's side: one pass over a procedure's statements (relationsWith$1).
-/
import Derived.Test.YtnjbihfceckpfaaImplEff
import Derived.Test.YtnjbihfceckpfaaG13Nexts
import Derived.Test.YtnjbihfceckpfaaG20Lists
namespace Go.Proofs.Ytnjbihfceckpfaa
open Go.RowKit
set_option linter.unusedVariables false
set_option linter.unusedSimpArgs false
set_option maxHeartbeats 4000000
set_option maxRecDepth 20000

/-- One pass: R0 at its begin, R now; the statements below m are done. -/
structure PassI (E : Nat → List Int) (ss : List Stm) (R0 : List (List Int)) (m : Nat) (R : List (List Int)) : Prop where
 rows : Rows7 12 R
 good : GoodN 12 R
 sub : SubN 12 R0 R
 und : ∀ C, GoodN ss.length C → Clo E ss C → SubN ss.length R0 C → SubN ss.length R C
 unit : SubR unitL (R.getD 0 [])
 done : ∀ (i : Nat) (hi : i < ss.length), i < m → ∀ x ∈ nextsS ss[i] i, SubR (comp (R0.getD i []) (E i)) (R.getD x.toNat [])

/-- What the pass has in memory. -/
structure PS (w : World) (R0 R : List (List Int)) (wr : World) : Prop where
 a : TabR wr w.heap.size 66 R
 z : TabR wr (w.heap.size + 1) 66 (List.replicate 12 zero7)
 bl : Below w.heap.size w wr

theorem PS.below {w : World} {R0 R : List (List Int)} {wr wr' : World} (h : PS w R0 R wr) (hb : Below wr.heap.size wr wr') : PS w R0 R wr' :=
 ⟨h.a.below hb, h.z.below hb, h.bl.trans (hb.mono h.bl.size)⟩

theorem PassI.begin {E : Nat → List Int} {ss : List Stm} {R : List (List Int)} {r0 : List Int} (hR : Rows7 12 R) (hg : GoodN 12 R) (hre : R.getD 0 [] = r0) (hpos : 1 ≤ ss.length) : PassI E ss R 0 (R.set 0 (joi r0 unitL)) := by
 have h0 : Smalls r0 := by rw [← hre]; exact hg 0 (by omega)
 have hl : 0 < R.length := by rw [hR.1]; omega
 have hj := joi_smalls h0 unit_smalls
 refine ⟨hR.set hj.1, hg.set hl hj, SubN.set hl (by rw [hre]; exact joi_l h0 unit_smalls), fun C hC hc hs => hs.put hl (joi_least h0 unit_smalls ?_ hc.1), ?_, fun i _ h => absurd h (by omega)⟩
 · rw [← hre]; exact hs 0 (by omega)
 · rw [getD_set hl, if_pos rfl]; exact joi_r h0 unit_smalls

theorem PassI.put {E : Nat → List Int} {ss : List Stm} {R0 R : List (List Int)} {m : Nat} (h : PassI E ss R0 m R) {x : Nat} (hx : x < ss.length) (h12 : ss.length ≤ 12) {r : List Int} (hr : Smalls r)
 (hg : ∀ C, GoodN ss.length C → Clo E ss C → SubN ss.length R0 C → SubR r (C.getD x [])) : PassI E ss R0 m (R.set x (joi (R.getD x []) r)) := by
 have hl := h.rows.1
 have hxl : x < R.length := by omega
 have gx := h.good x (by omega)
 have hj := joi_smalls gx hr
 have hs : SubN 12 R (R.set x (joi (R.getD x []) r)) := SubN.set hxl (joi_l gx hr)
 refine ⟨h.rows.set hj.1, h.good.set hxl hj, h.sub.trans hs, fun C hC hc h0 => (h.und C hC hc h0).put hxl (joi_least gx hr (h.und C hC hc h0 x hx) (hg C hC hc h0)), h.unit.trans (hs 0 (by omega)), fun i hi hm y hy => ?_⟩
 have h1 := h.done i hi hm y hy
 by_cases hyl : y.toNat < 12
 · exact h1.trans (hs _ hyl)
 · rw [getD_set hxl, if_neg (by omega)]; exact h1

theorem PassI.goes {E : Nat → List Int} {ss : List Stm} {R0 R : List (List Int)} {m : Nat} (h : PassI E ss R0 m R) (h12 : ss.length ≤ 12) {i : Nat} (hi : i < ss.length) (hE : Smalls (E i)) : ∀ x ∈ nextsS ss[i] i, ∀ C, GoodN ss.length C → Clo E ss C → SubN ss.length R0 C → SubR (comp (R.getD i []) (E i)) (C.getD x.toNat []) := fun x hx C hC hc h0 =>
 (comp_mono (h.good i (by omega)) hE (hC i hi) hE (h.und C hC hc h0 i hi) (SubR.refl _)).trans (hc.2 i hi x hx)

theorem PassI.next {E : Nat → List Int} {ss : List Stm} {R0 R R1 : List (List Int)} {m : Nat} (h : PassI E ss R0 m R) (h12 : ss.length ≤ 12) (hm : m < ss.length) (g0 : GoodN 12 R0) (hE : Smalls (E m)) (g1 : GoodN 12 R1) (h1 : SubN 12 R0 R1)
 (hd : ∀ x ∈ nextsS ss[m] m, SubR (comp (R1.getD m []) (E m)) (R.getD x.toNat [])) : PassI E ss R0 (m + 1) R :=
 ⟨h.rows, h.good, h.sub, h.und, h.unit, fun i hi hi' x hx => by
  by_cases e : i = m
  · subst e
    exact (comp_mono (g0 i (by omega)) hE (g1 i (by omega)) hE (h1 i (by omega)) (SubR.refl _)).trans (hd x hx)
  · exact h.done i hi (by omega) x hx⟩

--HELD defs1
/-- What the region has, operation by operation. -/
def PAFct (ar : Value) (R : List (List Int)) (r0 : List Int) (P Q A : Nat) (wr : World) (l : Nat → Bool) (x9 x10 x11 x12 x13 x14 x15 : Value) : Prop :=
 (l 0 = true → x9 = .pointer (some ⟨A, 0, none⟩)) ∧ (l 1 = true → x10 = relV r0) ∧ (l 2 = true → SliceR wr x11 (unitL)) ∧ (l 3 = true → PtrR wr x12 (unitL)) ∧ (l 4 = true → x13 = relV (unitL)) ∧ (l 5 = true → x14 = relV (joi r0 unitL)) ∧ (l 6 = true → x15 = .pointer (some ⟨A, 0, none⟩))

set_option maxRecDepth 20000 in
/-- The invariant of that region. -/
def PAInv (ar : Value) (R : List (List Int)) (r0 : List Int) (P Q A : Nat) (W0 : World) (l : Nat → Bool) (a : Act) (wr : World) : Prop :=
 ∃ y5 y6 y7 y8 y16 y17 y18 y19 y20 y21 y22 y23 y24 y25 y26 y27 y28 y29 y30 y31 y32 y33 y34 y35 y36 y37 y38 y39 y40 y41 y42 y43 y44 y45 y46 x9 x10 x11 x12 x13 x14 x15 : Value,
  a = { tmps := List.toArray (ar :: .pointer (some ⟨P, 0, none⟩) :: .pointer (some ⟨Q, 0, none⟩) :: .pointer (some ⟨A, 0, none⟩) :: .pointer (some ⟨A + 1, 0, none⟩) :: y5 :: y6 :: y7 :: y8 :: x9 :: x10 :: x11 :: x12 :: x13 :: x14 :: x15 :: y16 :: y17 :: y18 :: y19 :: y20 :: y21 :: y22 :: y23 :: y24 :: y25 :: y26 :: y27 :: y28 :: y29 :: y30 :: y31 :: y32 :: y33 :: y34 :: y35 :: y36 :: y37 :: y38 :: y39 :: y40 :: y41 :: y42 :: y43 :: y44 :: y45 :: y46 :: []), defers := [] } ∧ (l 7 = true → ∀ j, j < 7 → l j = true) ∧
  (l 7 = false → Below W0.heap.size W0 wr ∧ PAFct ar R r0 P Q A wr l x9 x10 x11 x12 x13 x14 x15) ∧ (l 7 = true → TabR wr A 66 (R.set 0 (joi r0 unitL)) ∧ Below A W0 wr ∧ ∀ k, k < W0.heap.size → k ≠ A → wr.heap[k]? = W0.heap[k]?)

--DLEH defs1
--HELD defs2
/-- What the region has, operation by operation. -/
def PBFct (ri ei : List Int) (i P Q A : Nat) (s0 s4 s7 s8 s9 s10 s11 s12 s13 s14 s15 s16 s17 s18 s19 s20 s21 s29 s30 s31 s32 s33 s34 s35 s36 s37 s38 s39 s40 s41 s42 s43 s44 s45 s46 : Value) (wr : World) (l : Nat → Bool) (x22 x23 x24 x25 x26 x27 x28 x6 : Value) : Prop :=
 (l 0 = true → x22 = .int .i64 (i : Int)) ∧ (l 1 = true → x23 = .pointer (some ⟨A, i * 7, none⟩)) ∧ (l 2 = true → x24 = relV ri) ∧ (l 3 = true → x25 = .int .i64 (i : Int)) ∧ (l 4 = true → x26 = .pointer (some ⟨Q, i * 7, none⟩)) ∧ (l 5 = true → x27 = relV ei) ∧ (l 6 = true → x28 = relV (comp ri ei)) ∧ (l 7 = true → BoxR wr (A + 1 + 1) x6)

set_option maxRecDepth 20000 in
/-- The invariant of that region. -/
def PBInv (ri ei : List Int) (i P Q A : Nat) (s0 s4 s7 s8 s9 s10 s11 s12 s13 s14 s15 s16 s17 s18 s19 s20 s21 s29 s30 s31 s32 s33 s34 s35 s36 s37 s38 s39 s40 s41 s42 s43 s44 s45 s46 : Value) (W0 : World) (l : Nat → Bool) (a : Act) (wr : World) : Prop :=
 ∃  x22 x23 x24 x25 x26 x27 x28 x6 : Value,
  a = { tmps := List.toArray (s0 :: .pointer (some ⟨P, 0, none⟩) :: .pointer (some ⟨Q, 0, none⟩) :: .pointer (some ⟨A, 0, none⟩) :: s4 :: .int .i64 (i : Int) :: x6 :: s7 :: s8 :: s9 :: s10 :: s11 :: s12 :: s13 :: s14 :: s15 :: s16 :: s17 :: s18 :: s19 :: s20 :: s21 :: x22 :: x23 :: x24 :: x25 :: x26 :: x27 :: x28 :: s29 :: s30 :: s31 :: s32 :: s33 :: s34 :: s35 :: s36 :: s37 :: s38 :: s39 :: s40 :: s41 :: s42 :: s43 :: s44 :: s45 :: s46 :: []), defers := [] } ∧ (l 8 = true → ∀ j, j < 8 → l j = true) ∧
  (l 8 = false → Below W0.heap.size W0 wr ∧ PBFct ri ei i P Q A s0 s4 s7 s8 s9 s10 s11 s12 s13 s14 s15 s16 s17 s18 s19 s20 s21 s29 s30 s31 s32 s33 s34 s35 s36 s37 s38 s39 s40 s41 s42 s43 s44 s45 s46 wr l x22 x23 x24 x25 x26 x27 x28 x6) ∧ (l 8 = true → ∃ B, x6 = .pointer (some ⟨B, 0, none⟩) ∧ A + 1 + 1 ≤ B ∧ RelAt wr B (comp ri ei) ∧ Below A W0 wr ∧ ∀ k, k < A + 1 + 1 → wr.heap[k]? = W0.heap[k]?)

--DLEH defs2
--HELD defs3
/-- What the region has, operation by operation. -/
def PCFct (R1 : List (List Int)) (rx r : List Int) (x B A : Nat) (s0 s1 s2 s4 s5 s7 s9 s10 s11 s12 s13 s14 s15 s16 s17 s18 s19 s20 s21 s22 s23 s24 s25 s26 s27 s28 s29 s30 s31 s32 s33 s34 s35 s36 s44 s45 s46 : Value) (wr : World) (l : Nat → Bool) (x37 x38 x39 x40 x41 x42 x43 : Value) : Prop :=
 (l 0 = true → x37 = .int .i64 (x : Int)) ∧ (l 1 = true → x38 = .int .i64 (x : Int)) ∧ (l 2 = true → x39 = .pointer (some ⟨A, x * 7, none⟩)) ∧ (l 3 = true → x40 = relV rx) ∧ (l 4 = true → x41 = relV r) ∧ (l 5 = true → x42 = relV (joi rx r)) ∧ (l 6 = true → x43 = .pointer (some ⟨A, x * 7, none⟩))

set_option maxRecDepth 20000 in
/-- The invariant of that region. -/
def PCInv (R1 : List (List Int)) (rx r : List Int) (x B A : Nat) (s0 s1 s2 s4 s5 s7 s9 s10 s11 s12 s13 s14 s15 s16 s17 s18 s19 s20 s21 s22 s23 s24 s25 s26 s27 s28 s29 s30 s31 s32 s33 s34 s35 s36 s44 s45 s46 : Value) (W0 : World) (l : Nat → Bool) (a : Act) (wr : World) : Prop :=
 ∃  x37 x38 x39 x40 x41 x42 x43 : Value,
  a = { tmps := List.toArray (s0 :: s1 :: s2 :: .pointer (some ⟨A, 0, none⟩) :: s4 :: s5 :: .pointer (some ⟨B, 0, none⟩) :: s7 :: .int .i64 (x : Int) :: s9 :: s10 :: s11 :: s12 :: s13 :: s14 :: s15 :: s16 :: s17 :: s18 :: s19 :: s20 :: s21 :: s22 :: s23 :: s24 :: s25 :: s26 :: s27 :: s28 :: s29 :: s30 :: s31 :: s32 :: s33 :: s34 :: s35 :: s36 :: x37 :: x38 :: x39 :: x40 :: x41 :: x42 :: x43 :: s44 :: s45 :: s46 :: []), defers := [] } ∧ (l 7 = true → ∀ j, j < 7 → l j = true) ∧
  (l 7 = false → Below W0.heap.size W0 wr ∧ PCFct R1 rx r x B A s0 s1 s2 s4 s5 s7 s9 s10 s11 s12 s13 s14 s15 s16 s17 s18 s19 s20 s21 s22 s23 s24 s25 s26 s27 s28 s29 s30 s31 s32 s33 s34 s35 s36 s44 s45 s46 wr l x37 x38 x39 x40 x41 x42 x43) ∧ (l 7 = true → TabR wr A 66 (R1.set x (joi rx r)) ∧ Below A W0 wr ∧ ∀ k, k < W0.heap.size → k ≠ A → wr.heap[k]? = W0.heap[k]?)

--DLEH defs3
theorem pass1 (ss : List Stm) (E : Nat → List Int) (ES R : List (List Int)) (v : Value) (P Q : Nat) (w : World) (hp : procOk ss = true) (hE : ∀ i, i < ss.length → Smalls (E i) ∧ ES.getD i [] = E i) (hES : Rows7 12 ES) (hR : Rows7 12 R) (hg : GoodN 12 R)
 (hv : Reads3 w v ss) (hP : w.heap[P]? = some (.cells #[v] 81 (0, 0))) (hQ : TabR w Q 66 ES) :
 Calls Try.prog 141 #[tabR R, .pointer (some ⟨P, 0, none⟩), .pointer (some ⟨Q, 0, none⟩)] w fun e w' => ∃ R', e = .returned (tabR R') ∧ PassI E ss R ss.length R' ∧ Below w.heap.size w w' := by
 obtain ⟨rs, hrs⟩ : ∃ rs, ints R.flatten = rs := ⟨_, rfl⟩
 have hz : ∀ w, (zeroValue 66).run Try.prog w = .ok (.agg (ints (List.replicate 12 zero7).flatten).toArray) w := isTab12.zero
 obtain ⟨zs, hzs⟩ : ∃ zs, ints (List.replicate 12 zero7).flatten = zs := ⟨_, rfl⟩
 rw [hzs] at hz
 obtain ⟨hpos, h12, _⟩ := procOk_parts hp
 obtain ⟨r0, hre⟩ : ∃ r, R.getD 0 [] = r := ⟨_, rfl⟩
 have hr0 : Smalls r0 := by rw [← hre]; exact hg 0 (by omega)
 have h1 := joi_smalls hr0 unit_smalls
 unfold tabR
 rw [hrs]
 go_enter Try.func141, Try.ntmps141
 go_wp2_with fail
 subst hrs hzs
 obtain ⟨W, hW⟩ : ∃ W, (w.alloc (.cells (ints R.flatten).toArray 66)).alloc (.cells (ints (List.replicate 12 zero7).flatten).toArray 66) = W := ⟨_, rfl⟩
 have sW : W.heap.size = w.heap.size + 1 + 1 := by rw [← hW]; simp
 have bW : Below w.heap.size w W := by rw [← hW]; go_grown
 have hTA : TabR W.drew w.heap.size 66 R := by
  show W.heap[w.heap.size]? = _
  rw [← hW, old_block (by simp)]; exact heap_alloc_new w _
 have hTZ : TabR W.drew (w.heap.size + 1) 66 (List.replicate 12 zero7) := by
  show W.heap[w.heap.size + 1]? = _
  rw [← hW]
  have := heap_alloc_new (w.alloc (.cells (ints R.flatten).toArray 66)) (.cells (ints (List.replicate 12 zero7).flatten).toArray 66)
  simpa using this
 have hZ : w.heap.size ≤ W.drew.heap.size := by show _ ≤ W.heap.size; omega
 rw [hW]
 clear hW
 refine wp_region_inv (by kernel_rfl) (by kernel_rfl) (PAInv (.agg (ints R.flatten).toArray) R r0 P Q w.heap.size W.drew) ?h0 ?hs ?he
 case h0 => exact ⟨_, _, _, _, _, _, _, _, _, _, _, _, _, _, _, _, _, _, _, _, _, _, _, _, _, _, _, _, _, _, _, _, _, _, _, _, _, _, _, _, _, _, rfl, by simp, fun _ => ⟨Below.refl _ _, by simp, by simp, by simp, by simp, by simp, by simp, by simp⟩, by simp⟩
 case hs =>
  intro l i o a wr ho hI hli haf
  obtain ⟨y5, y6, y7, y8, y16, y17, y18, y19, y20, y21, y22, y23, y24, y25, y26, y27, y28, y29, y30, y31, y32, y33, y34, y35, y36, y37, y38, y39, y40, y41, y42, y43, y44, y45, y46, x9, x10, x11, x12, x13, x14, x15, rfl, hall, hF, hlast⟩ := hI
  have hi : i < 8 := (Array.getElem?_eq_some_iff.1 ho).1
  have h14 : l 7 = false := by
   cases h : l 7
   · rfl
   · by_cases e : i = 7
     · subst e; simp [h] at hli
     · have := hall h i (by omega); simp [this] at hli
  obtain ⟨hJ, pf⟩ := hF h14
  have H14 : Hid _ := h14
  clear hF hlast hall h14
  have hcases : i = 0 ∨ i = 1 ∨ i = 2 ∨ i = 3 ∨ i = 4 ∨ i = 5 ∨ i = 6 ∨ i = 7 := by omega
  rcases hcases with rfl | rfl | rfl | rfl | rfl | rfl | rfl | rfl
  · simp only [List.getElem?_toArray, List.getElem?_cons_zero, Option.some.injEq] at ho
    subst ho
    have HPF : Hid _ := pf
    clear pf
    go_wp2_with (fail)
    obtain ⟨p0, p1, p2, p3, p4, p5, p6⟩ := HPF.out
    exact ⟨_, _, _, _, _, _, _, _, _, _, _, _, _, _, _, _, _, _, _, _, _, _, _, _, _, _, _, _, _, _, _, _, _, _, _, _, _, _, _, _, _, _, rfl, fun h => absurd h (by simp [H14.out]), fun _ => ⟨hJ, fun _ => rfl, p1, p2, p3, p4, p5, p6⟩, fun h => absurd h (by simp [H14.out])⟩
  · simp only [List.getElem?_toArray, List.getElem?_cons_zero, List.getElem?_cons_succ, Option.some.injEq] at ho
    subst ho
    simp [Region.binds] at haf
    obtain rfl : x9 = _ := pf.1 (haf)
    have HPF : Hid _ := pf
    clear pf
    have hT9 := (hTA.below hJ).row hR (j := 0) (by omega)
    go_wp2_with (refine wpList_loadRel rfl (.tmp 9) rfl w.heap.size 0 r0 rfl hr0.1 (by rw [← hre]; simpa using hT9) ?_)
    obtain ⟨p0, p1, p2, p3, p4, p5, p6⟩ := HPF.out
    exact ⟨_, _, _, _, _, _, _, _, _, _, _, _, _, _, _, _, _, _, _, _, _, _, _, _, _, _, _, _, _, _, _, _, _, _, _, _, _, _, _, _, _, _, rfl, fun h => absurd h (by simp [H14.out]), fun _ => ⟨hJ, fun _ => rfl, fun _ => rfl, p2, p3, p4, p5, p6⟩, fun h => absurd h (by simp [H14.out])⟩
  · simp only [List.getElem?_toArray, List.getElem?_cons_zero, List.getElem?_cons_succ, Option.some.injEq] at ho
    subst ho
    have HPF : Hid _ := pf
    clear pf
    go_wp2_with (go_at_call 142; refine (implUnit _).mono ?_; rintro e w9 ⟨a9, rfl, o9, b9⟩)
    rw [unit_smalls.1] at o9
    obtain ⟨g9, cp9, rfl, hr9, hg9, _⟩ := own_range o9
    obtain ⟨p0, p1, p2, p3, p4, p5, p6⟩ := HPF.out
    exact ⟨_, _, _, _, _, _, _, _, _, _, _, _, _, _, _, _, _, _, _, _, _, _, _, _, _, _, _, _, _, _, _, _, _, _, _, _, _, _, _, _, _, _, rfl, fun h => absurd h (by simp [H14.out]), fun _ => ⟨hJ.trans (b9.mono hJ.size), p0, p1, fun _ => ⟨g9, cp9, rfl, hr9, hg9⟩, fun h => (p3 h).below b9, p4, p5, p6⟩, fun h => absurd h (by simp [H14.out])⟩
  · simp only [List.getElem?_toArray, List.getElem?_cons_zero, List.getElem?_cons_succ, Option.some.injEq] at ho
    subst ho
    simp [Region.binds] at haf
    obtain ⟨g1, cp1, rfl, hr1, hg1⟩ := pf.2.2.1 (haf)
    have HPF : Hid _ := pf
    clear pf
    go_wp2_with (refine wpList_arrayAt rfl (.tmp 11) rfl g1 0 cp1 rfl ?_)
    obtain ⟨p0, p1, p2, p3, p4, p5, p6⟩ := HPF.out
    exact ⟨_, _, _, _, _, _, _, _, _, _, _, _, _, _, _, _, _, _, _, _, _, _, _, _, _, _, _, _, _, _, _, _, _, _, _, _, _, _, _, _, _, _, rfl, fun h => absurd h (by simp [H14.out]), fun _ => ⟨hJ, p0, p1, p2, fun _ => ⟨g1, rfl, hr1, hg1⟩, p4, p5, p6⟩, fun h => absurd h (by simp [H14.out])⟩
  · simp only [List.getElem?_toArray, List.getElem?_cons_zero, List.getElem?_cons_succ, Option.some.injEq] at ho
    subst ho
    simp [Region.binds] at haf
    obtain ⟨g2, rfl, hr2, hg2⟩ := pf.2.2.2.1 (haf)
    have HPF : Hid _ := pf
    clear pf
    go_wp2_with (refine wpList_loadRel rfl (.tmp 12) rfl g2 0 (unitL) rfl unit_smalls.1 hr2 ?_)
    obtain ⟨p0, p1, p2, p3, p4, p5, p6⟩ := HPF.out
    exact ⟨_, _, _, _, _, _, _, _, _, _, _, _, _, _, _, _, _, _, _, _, _, _, _, _, _, _, _, _, _, _, _, _, _, _, _, _, _, _, _, _, _, _, rfl, fun h => absurd h (by simp [H14.out]), fun _ => ⟨hJ, p0, p1, p2, p3, fun _ => rfl, p5, p6⟩, fun h => absurd h (by simp [H14.out])⟩
  · simp only [List.getElem?_toArray, List.getElem?_cons_zero, List.getElem?_cons_succ, Option.some.injEq] at ho
    subst ho
    simp [Region.binds] at haf
    obtain rfl : x10 = _ := pf.2.1 (haf.1)
    obtain rfl : x13 = _ := pf.2.2.2.2.1 (haf.2.1)
    have HPF : Hid _ := pf
    clear pf
    go_wp2_with (go_at_call 118; refine (relOr r0 unitL _ hr0 unit_smalls).mono ?_; rintro e w9 ⟨rfl, b9⟩)
    obtain ⟨p0, p1, p2, p3, p4, p5, p6⟩ := HPF.out
    exact ⟨_, _, _, _, _, _, _, _, _, _, _, _, _, _, _, _, _, _, _, _, _, _, _, _, _, _, _, _, _, _, _, _, _, _, _, _, _, _, _, _, _, _, rfl, fun h => absurd h (by simp [H14.out]), fun _ => ⟨hJ.trans (b9.mono hJ.size), p0, fun _ => rfl, fun h => (p2 h).below b9, fun h => (p3 h).below b9, fun _ => rfl, fun _ => rfl, p6⟩, fun h => absurd h (by simp [H14.out])⟩
  · simp only [List.getElem?_toArray, List.getElem?_cons_zero, List.getElem?_cons_succ, Option.some.injEq] at ho
    subst ho
    have HPF : Hid _ := pf
    clear pf
    go_wp2_with (fail)
    obtain ⟨p0, p1, p2, p3, p4, p5, p6⟩ := HPF.out
    exact ⟨_, _, _, _, _, _, _, _, _, _, _, _, _, _, _, _, _, _, _, _, _, _, _, _, _, _, _, _, _, _, _, _, _, _, _, _, _, _, _, _, _, _, rfl, fun h => absurd h (by simp [H14.out]), fun _ => ⟨hJ, p0, p1, p2, p3, p4, p5, fun _ => rfl⟩, fun h => absurd h (by simp [H14.out])⟩
  · simp only [List.getElem?_toArray, List.getElem?_cons_zero, List.getElem?_cons_succ, Option.some.injEq] at ho
    subst ho
    simp [Region.binds] at haf
    obtain rfl : x15 = _ := pf.2.2.2.2.2.2 (haf.1)
    obtain rfl : x14 = _ := pf.2.2.2.2.2.1 (haf.2.1)
    have HPF : Hid _ := pf
    clear pf
    go_wp2_with (refine wpList_storeRel rfl rfl (.tmp 15) (.tmp 14) rfl w.heap.size 0 (joi r0 unitL) rfl rfl h1.1 (by have := (hTA.below hJ).thereRow hR (j := 0) (by omega); simpa using this) ?_)
    refine ⟨_, _, _, _, _, _, _, _, _, _, _, _, _, _, _, _, _, _, _, _, _, _, _, _, _, _, _, _, _, _, _, _, _, _, _, _, _, _, _, _, _, _, rfl, fun _ j hj => ?_, fun h => absurd h (by simp), fun _ => ⟨by have := (hTA.below hJ).store hR (j := 0) (by omega) h1.1; simpa using this, (Below.mono hJ hZ).grown (grown_setCells7 _ _ _ _) (by have := hJ.size; omega) (fun k hk => by cases hk; exact Nat.le_refl _), fun k hk hk2 => (grown_setCells7 _ _ _ _).block k (by have := hJ.size; omega) (fun e => by cases e; exact hk2 rfl) |>.trans (hJ.block k hk)⟩⟩
    have hcj : j = 0 ∨ j = 1 ∨ j = 2 ∨ j = 3 ∨ j = 4 ∨ j = 5 ∨ j = 6 := by omega
    rcases hcj with rfl | rfl | rfl | rfl | rfl | rfl | rfl <;> simp_all
 case he =>
  intro l a wr hI hall9
  obtain ⟨y5, y6, y7, y8, y16, y17, y18, y19, y20, y21, y22, y23, y24, y25, y26, y27, y28, y29, y30, y31, y32, y33, y34, y35, y36, y37, y38, y39, y40, y41, y42, y43, y44, y45, y46, x9, x10, x11, x12, x13, x14, x15, rfl, hall, hF, hlast⟩ := hI
  have hend := hlast (hall9 7 (by simp))
  clear hall hF hlast hall9
  obtain ⟨T1, b1, k1⟩ := hend
  have S1 : PS w R (R.set 0 (joi r0 unitL)) wr := ⟨T1, (k1 _ (by show _ < W.heap.size; omega) (by omega)).trans hTZ, bW.trans ⟨b1.os, b1.tape, b1.output, b1.size, b1.block⟩⟩
  have I1 : PassI E ss R 0 (R.set 0 (joi r0 unitL)) := PassI.begin hR hg hre hpos
  have HS1 : Hid _ := S1
  have HI1 : Hid _ := I1
  clear T1 b1 k1 hTA hTZ S1 I1 hZ bW sW
  obtain ⟨w3, hw3⟩ : ∃ z, z = wr := ⟨_, rfl⟩
  subst hw3
  obtain ⟨cP, fP⟩ := one_cell ((HS1.out.bl.block P (Array.getElem?_eq_some_iff.1 hP).1).trans hP)
  have hv3 := hv
  obtain ⟨ao, cap, rfl, hcell⟩ := hv
  have hlt12 : (ss.length : Int) ≤ 12 := by omega
  have HQ0 : Hid (TabR w Q 66 ES) := hQ
  have HP0 : Hid (w.heap[P]? = some (.cells #[.slice ao ss.length cap] 81 (0, 0))) := hP
  clear hQ hP h1
  go_wp2_with fail
  clear cP fP
  go_loopw [19] (fun iv wr => ∃ (i : Nat) (R1 : List (List Int)), i ≤ ss.length ∧ iv = .int .i64 i ∧ PS w R R1 wr ∧ PassI E ss R i R1) (fun iv _ => ss.length - (intOf iv).toNat)
  case atStart => exact ⟨0, _, Nat.zero_le _, rfl, HS1.out, HI1.out⟩
  case round =>
   obtain ⟨i, R1, hi, rfl, S, I⟩ := hrel
   clear HS1 HI1
   have HS : Hid _ := S
   have HI : Hid _ := I
   by_cases hlt : i < ss.length
   · have hlt' : (i : Int) < (ss.length : Int) := by omega
     have hi12 : i < 12 := by omega
     have hi12' : (i : Int) < 12 := by omega
     obtain ⟨ri, hri0⟩ : ∃ r, R1.getD i [] = r := ⟨_, rfl⟩
     have hri : Smalls ri := by rw [← hri0]; exact I.good i hi12
     obtain ⟨hEi, hEe⟩ := hE i hlt
     obtain ⟨ei, hei0⟩ : ∃ r, E i = r := ⟨_, rfl⟩
     have hei : Smalls ei := by rw [← hei0]; exact hEi
     have Hri : Hid (R1.getD i [] = ri) := hri0
     have Hei : Hid (ES.getD i [] = ei) := by rw [hEe]; exact hei0
     have hrei := comp_smalls hri hei
     have HQ : Hid (TabR wr Q 66 ES) := TabR.below HQ0.out S.bl
     have zA := S.z.lt
     have zA0 := S.a.lt
     have sW : w.heap.size + 1 + 1 ≤ wr.heap.size := by omega
     obtain ⟨wr0, hwr0⟩ : ∃ z, z = wr := ⟨_, rfl⟩
     subst hwr0
     have hZ2 : w.heap.size ≤ wr0.drew.heap.size := by show _ ≤ wr0.heap.size; omega
     have sW : w.heap.size + 1 + 1 ≤ wr0.drew.heap.size := by show _ ≤ wr0.heap.size; omega
     have HG : Hid _ := I.goes h12 hlt hEi
     have HN : Hid (∀ R2, PassI E ss R i R2 → (∀ x ∈ nextsS ss[i] i, SubR (comp ri ei) (R2.getD x.toNat [])) → PassI E ss R (i + 1) R2) := fun R2 h hd => by
      refine h.next h12 hlt hg hEi HI.out.good HI.out.sub (fun x hx => ?_)
      rw [hri0, hei0]
      exact hd x hx
     rw [hri0, hei0] at HG
     clear S I hri0 hei0 hEi hEe
     go_wp2_with fail
     refine wp_region_inv (by kernel_rfl) (by kernel_rfl) (PBInv ri ei i P Q w.heap.size (.agg (ints R.flatten).toArray) (.pointer (some ⟨w.heap.size + 1, 0, none⟩)) y7 u8 x9 x10 x11 x12 x13 x14 x15 (.pointer (some ⟨P, 0, none⟩)) (.slice ao ss.length cap) (.int .i64 (ss.length : Int)) (.int .i64 (i : Int)) (.bool true) (.int .i64 (i : Int)) u29 u30 u31 u32 u33 u34 u35 u36 u37 u38 u39 u40 u41 u42 u43 u44 u45 y46 wr0.drew) ?h0 ?hs ?he
     case h0 => exact ⟨_, _, _, _, _, _, _, _, rfl, by simp, fun _ => ⟨Below.refl _ _, by simp, by simp, by simp, by simp, by simp, by simp, by simp, by simp⟩, by simp⟩
     case hs =>
      intro l i o a wr ho hI hli haf
      obtain ⟨x22, x23, x24, x25, x26, x27, x28, x6, rfl, hall, hF, hlast⟩ := hI
      have hi : i < 9 := (Array.getElem?_eq_some_iff.1 ho).1
      have h14 : l 8 = false := by
       cases h : l 8
       · rfl
       · by_cases e : i = 8
         · subst e; simp [h] at hli
         · have := hall h i (by omega); simp [this] at hli
      obtain ⟨hJ, pf⟩ := hF h14
      have H14 : Hid _ := h14
      clear hF hlast hall h14
      have hcases : i = 0 ∨ i = 1 ∨ i = 2 ∨ i = 3 ∨ i = 4 ∨ i = 5 ∨ i = 6 ∨ i = 7 ∨ i = 8 := by omega
      rcases hcases with rfl | rfl | rfl | rfl | rfl | rfl | rfl | rfl | rfl
      · simp only [List.getElem?_toArray, List.getElem?_cons_zero, Option.some.injEq] at ho
        subst ho
        have HPF : Hid _ := pf
        clear pf
        go_wp2_with (fail)
        obtain ⟨p0, p1, p2, p3, p4, p5, p6, p7⟩ := HPF.out
        exact ⟨_, _, _, _, _, _, _, _, rfl, fun h => absurd h (by simp [H14.out]), fun _ => ⟨hJ, fun _ => rfl, p1, p2, p3, p4, p5, p6, p7⟩, fun h => absurd h (by simp [H14.out])⟩
      · simp only [List.getElem?_toArray, List.getElem?_cons_zero, List.getElem?_cons_succ, Option.some.injEq] at ho
        subst ho
        simp [Region.binds] at haf
        obtain rfl : x22 = _ := pf.1 (haf)
        have HPF : Hid _ := pf
        clear pf
        go_wp2_with (fail)
        obtain ⟨p0, p1, p2, p3, p4, p5, p6, p7⟩ := HPF.out
        exact ⟨_, _, _, _, _, _, _, _, rfl, fun h => absurd h (by simp [H14.out]), fun _ => ⟨hJ, fun _ => rfl, fun _ => rfl, p2, p3, p4, p5, p6, p7⟩, fun h => absurd h (by simp [H14.out])⟩
      · simp only [List.getElem?_toArray, List.getElem?_cons_zero, List.getElem?_cons_succ, Option.some.injEq] at ho
        subst ho
        simp [Region.binds] at haf
        obtain rfl : x23 = _ := pf.2.1 (haf)
        have HPF : Hid _ := pf
        clear pf
        have hT9 := ((TabR.below (w := wr0.drew) HS.out.a hJ).row HI.out.rows hi12)
        go_wp2_with (refine wpList_loadRel rfl (.tmp 23) rfl w.heap.size (i * 7) ri rfl hri.1 (Hri.out ▸ hT9) ?_)
        obtain ⟨p0, p1, p2, p3, p4, p5, p6, p7⟩ := HPF.out
        exact ⟨_, _, _, _, _, _, _, _, rfl, fun h => absurd h (by simp [H14.out]), fun _ => ⟨hJ, p0, fun _ => rfl, fun _ => rfl, p3, p4, p5, p6, p7⟩, fun h => absurd h (by simp [H14.out])⟩
      · simp only [List.getElem?_toArray, List.getElem?_cons_zero, List.getElem?_cons_succ, Option.some.injEq] at ho
        subst ho
        have HPF : Hid _ := pf
        clear pf
        go_wp2_with (fail)
        obtain ⟨p0, p1, p2, p3, p4, p5, p6, p7⟩ := HPF.out
        exact ⟨_, _, _, _, _, _, _, _, rfl, fun h => absurd h (by simp [H14.out]), fun _ => ⟨hJ, p0, p1, p2, fun _ => rfl, p4, p5, p6, p7⟩, fun h => absurd h (by simp [H14.out])⟩
      · simp only [List.getElem?_toArray, List.getElem?_cons_zero, List.getElem?_cons_succ, Option.some.injEq] at ho
        subst ho
        simp [Region.binds] at haf
        obtain rfl : x25 = _ := pf.2.2.2.1 (haf)
        have HPF : Hid _ := pf
        clear pf
        go_wp2_with (fail)
        obtain ⟨p0, p1, p2, p3, p4, p5, p6, p7⟩ := HPF.out
        exact ⟨_, _, _, _, _, _, _, _, rfl, fun h => absurd h (by simp [H14.out]), fun _ => ⟨hJ, p0, p1, p2, fun _ => rfl, fun _ => rfl, p5, p6, p7⟩, fun h => absurd h (by simp [H14.out])⟩
      · simp only [List.getElem?_toArray, List.getElem?_cons_zero, List.getElem?_cons_succ, Option.some.injEq] at ho
        subst ho
        simp [Region.binds] at haf
        obtain rfl : x26 = _ := pf.2.2.2.2.1 (haf)
        have HPF : Hid _ := pf
        clear pf
        have hT9 := ((TabR.below (w := wr0.drew) HQ.out hJ).row hES hi12)
        go_wp2_with (refine wpList_loadRel rfl (.tmp 26) rfl Q (i * 7) ei rfl hei.1 (Hei.out ▸ hT9) ?_)
        obtain ⟨p0, p1, p2, p3, p4, p5, p6, p7⟩ := HPF.out
        exact ⟨_, _, _, _, _, _, _, _, rfl, fun h => absurd h (by simp [H14.out]), fun _ => ⟨hJ, p0, p1, p2, p3, fun _ => rfl, fun _ => rfl, p6, p7⟩, fun h => absurd h (by simp [H14.out])⟩
      · simp only [List.getElem?_toArray, List.getElem?_cons_zero, List.getElem?_cons_succ, Option.some.injEq] at ho
        subst ho
        simp [Region.binds] at haf
        obtain rfl : x24 = _ := pf.2.2.1 (haf.1)
        obtain rfl : x27 = _ := pf.2.2.2.2.2.1 (haf.2)
        have HPF : Hid _ := pf
        clear pf
        go_wp2_with (go_at_call 143; refine (relThen ri ei _ hri hei).mono ?_; rintro e w9 ⟨rfl, b9⟩)
        obtain ⟨p0, p1, p2, p3, p4, p5, p6, p7⟩ := HPF.out
        exact ⟨_, _, _, _, _, _, _, _, rfl, fun h => absurd h (by simp [H14.out]), fun _ => ⟨hJ.trans (b9.mono hJ.size), p0, p1, fun _ => rfl, p3, p4, fun _ => rfl, fun _ => rfl, fun h => (p7 h).below b9⟩, fun h => absurd h (by simp [H14.out])⟩
      · simp only [List.getElem?_toArray, List.getElem?_cons_zero, List.getElem?_cons_succ, Option.some.injEq] at ho
        subst ho
        have HPF : Hid _ := pf
        clear pf
        go_wp2_with (fail)
        have b9 : Below wr.heap.size wr (wr.alloc (.cells #[.int .i64 0, .int .i64 0, .int .i64 0, .int .i64 0, .int .i64 0, .int .i64 0, .int .i64 0] 64)) := by go_grown
        obtain ⟨p0, p1, p2, p3, p4, p5, p6, p7⟩ := HPF.out
        exact ⟨_, _, _, _, _, _, _, _, rfl, fun h => absurd h (by simp [H14.out]), fun _ => ⟨hJ.trans (b9.mono hJ.size), p0, p1, p2, p3, p4, p5, p6, fun _ => ⟨wr.heap.size, rfl, Nat.le_trans sW hJ.size, by rw [zeros7]; exact heap_alloc_new wr _⟩⟩, fun h => absurd h (by simp [H14.out])⟩
      · simp only [List.getElem?_toArray, List.getElem?_cons_zero, List.getElem?_cons_succ, Option.some.injEq] at ho
        subst ho
        simp [Region.binds] at haf
        obtain ⟨B3, rfl, hB3, hr3⟩ := pf.2.2.2.2.2.2.2 (haf.1)
        obtain rfl : x28 = _ := pf.2.2.2.2.2.2.1 (haf.2.1)
        have HPF : Hid _ := pf
        clear pf
        go_wp2_with (refine wpList_storeRel rfl rfl (.tmp 6) (.tmp 28) rfl B3 0 (comp ri ei) rfl rfl hrei.1 (by simpa using hr3.there) ?_)
        refine ⟨_, _, _, _, _, _, _, _, rfl, fun _ j hj => ?_, fun h => absurd h (by simp), fun _ => ⟨B3, rfl, hB3, hr3.store (by rw [hrei.1]; rfl), (Below.mono hJ hZ2).grown (grown_setCells7 _ _ _ _) (by have := hJ.size; omega) (fun k hk => by cases hk; omega), fun k hk => (grown_setCells7 _ _ _ _).block k (by have := hJ.size; omega) (fun e => by cases e; omega) |>.trans (hJ.block k (by omega))⟩⟩
        have hcj : j = 0 ∨ j = 1 ∨ j = 2 ∨ j = 3 ∨ j = 4 ∨ j = 5 ∨ j = 6 ∨ j = 7 := by omega
        rcases hcj with rfl | rfl | rfl | rfl | rfl | rfl | rfl | rfl <;> simp_all
     case he =>
      intro l a wr hI hall9
      obtain ⟨x22, x23, x24, x25, x26, x27, x28, x6, rfl, hall, hF, hlast⟩ := hI
      have hend := hlast (hall9 8 (by simp))
      clear hall hF hlast hall9
      obtain ⟨B, rfl, hB, hBt, b2, k2⟩ := hend
      have S2 : PS w R R1 wr := ⟨HS.out.a.kept (k2 _ (by omega)), HS.out.z.kept (k2 _ (by omega)), HS.out.bl.trans ⟨b2.os, b2.tape, b2.output, b2.size, b2.block⟩⟩
      have HB0 : Hid (RelAt wr B (comp ri ei)) := hBt
      have HS2 : Hid _ := S2
      obtain ⟨cP, fP⟩ := one_cell ((S2.bl.block P (Array.getElem?_eq_some_iff.1 HP0.out).1).trans HP0.out)
      have hnx := nextsOf ss i (.slice ao ss.length cap) wr hlt h12 (reads3_below hv3 S2.bl)
      have hAl := nextsS_length ss[i] i
      have hAx := nextsS_in hp hlt
      have zr : w.heap.size + 1 + 1 ≤ wr.heap.size := Nat.le_trans (by omega) (Nat.succ_le_of_lt (RelAt.lt hBt))
      clear hBt b2 k2 S2 hri hei
      obtain ⟨r, hr0'⟩ : ∃ r, comp ri ei = r := ⟨_, rfl⟩
      rw [hr0'] at HB0 HG HN hrei
      obtain ⟨A, hA⟩ : ∃ A, nextsS ss[i] i = A := ⟨_, rfl⟩
      rw [hA] at hnx hAl hAx HG HN
      have hrS := hrei
      clear hr0' hA
      go_wp2_with fail
      go_at_call 124
      refine hnx.mono ?_
      rintro e w4 ⟨nv, rfl, on, b4⟩
      clear hnx
      have S4 : Hid _ := HS2.out.below b4
      have B4 : Hid (RelAt w4 B r) := (b4.block B HB0.out.lt).trans HB0.out
      have zAB : w.heap.size + 1 + 1 ≤ B := hB
      obtain ⟨no, nc, hnv, _⟩ := reads_own on
      rw [ints_length] at hnv
      subst hnv
      have O4 : Hid (w4.ownsRow (w.heap.size + 1 + 1) 2 1 (.slice no A.length nc) A.length (ints A)) := own_mono on zr
      clear on b4 cP fP HS2 HB0
      go_wp2_with fail
      go_loopw [33] (fun kv wr => ∃ (k : Nat) (R2 : List (List Int)), k ≤ A.length ∧ kv = .int .i64 k ∧ PS w R R2 wr ∧ PassI E ss R i R2 ∧ RelAt wr B r ∧ wr.ownsRow (w.heap.size + 1 + 1) 2 1 (.slice no A.length nc) A.length (ints A) ∧ (∀ q, q < k → SubR r (R2.getD (A.getD q 0).toNat []))) (fun kv _ => A.length - (intOf kv).toNat)
      case atStart => exact ⟨0, R1, Nat.zero_le _, rfl, S4.out, HI.out, B4.out, O4.out, fun q h => absurd h (by omega)⟩
      case round =>
       obtain ⟨k, R2, hk, rfl, S, I, Bt, O, hd⟩ := hrel
       clear S4 B4 O4
       by_cases hkl : k < A.length
       · have hkl' : (k : Int) < (A.length : Int) := by omega
         obtain ⟨x, hx, hxl⟩ := hAx A[k] (List.getElem_mem hkl)
         obtain ⟨gn, off, hno, cn⟩ : ∃ g off, no = some ⟨g, off, none⟩ ∧ wr.cell? ⟨g, off + k, none⟩ = some (.int .i64 (x : Int)) := by
          obtain ⟨ao', cap', e', hc'⟩ := reads_own O
          rw [ints_length] at e'
          obtain ⟨rfl, -, rfl⟩ : no = ao' ∧ A.length = A.length ∧ nc = cap' := by simpa using e'
          exact hc' k _ (by simp [ints, hkl, hx])
         subst hno
         have hAk : Hid (A.getD k 0 = (x : Int)) := by
          show A.getD k 0 = (x : Int)
          simp [List.getD, hkl, hx]
         have HX : Hid (A[k] = (x : Int)) := hx
         have hx12 : x < 12 := by omega
         have hx12' : (x : Int) < 12 := by omega
         have hx0 : (0 : Int) ≤ (x : Int) := by omega
         obtain ⟨rx, hrx0⟩ : ∃ r, R2.getD x [] = r := ⟨_, rfl⟩
         have hrx : Smalls rx := by rw [← hrx0]; exact I.good x hx12
         have Hrx : Hid (R2.getD x [] = rx) := hrx0
         have hjS := joi_smalls hrx hrS
         have HS1 : Hid _ := S
         have HI1 : Hid _ := I
         have HB1 : Hid (RelAt wr B r) := Bt
         have HO1 : Hid (wr.ownsRow (w.heap.size + 1 + 1) 2 1 (.slice (some ⟨gn, off, none⟩) A.length nc) A.length (ints A)) := O
         have HD1 : Hid _ := hd
         have zz := S.z.lt
         obtain ⟨wr1, hwr1⟩ : ∃ z, z = wr := ⟨_, rfl⟩
         subst hwr1
         have hZ3 : w.heap.size ≤ wr1.drew.heap.size := by show _ ≤ wr1.heap.size; omega
         clear S I Bt O hd hx hrx0
         go_wp2_with fail
         clear cn
         refine wp_region_inv (by kernel_rfl) (by kernel_rfl) (PCInv R2 rx r x B w.heap.size (.agg (ints R.flatten).toArray) (.pointer (some ⟨P, 0, none⟩)) (.pointer (some ⟨Q, 0, none⟩)) (.pointer (some ⟨w.heap.size + 1, 0, none⟩)) (.int .i64 (i : Int)) y7 x9 x10 x11 x12 x13 x14 x15 (.pointer (some ⟨P, 0, none⟩)) (.slice ao ss.length cap) (.int .i64 (ss.length : Int)) (.int .i64 (i : Int)) (.bool true) (.int .i64 (i : Int)) x22 x23 x24 x25 x26 x27 x28 (.agg #[.slice ao ss.length cap]) (.int .i64 (i : Int)) (.slice (some ⟨gn, off, none⟩) A.length nc) (.int .i64 (A.length : Int)) (.int .i64 (k : Int)) (.bool true) (.pointer (some ⟨gn, off + k, none⟩)) (.int .i64 (x : Int)) u44 u45 y46 wr1.drew) ?h0 ?hs ?he
         case h0 => exact ⟨_, _, _, _, _, _, _, rfl, by simp, fun _ => ⟨Below.refl _ _, by simp, by simp, by simp, by simp, by simp, by simp, by simp⟩, by simp⟩
         case hs =>
          intro l i o a wr ho hI hli haf
          obtain ⟨x37, x38, x39, x40, x41, x42, x43, rfl, hall, hF, hlast⟩ := hI
          have hi : i < 8 := (Array.getElem?_eq_some_iff.1 ho).1
          have h14 : l 7 = false := by
           cases h : l 7
           · rfl
           · by_cases e : i = 7
             · subst e; simp [h] at hli
             · have := hall h i (by omega); simp [this] at hli
          obtain ⟨hJ, pf⟩ := hF h14
          have H14 : Hid _ := h14
          clear hF hlast hall h14
          have hcases : i = 0 ∨ i = 1 ∨ i = 2 ∨ i = 3 ∨ i = 4 ∨ i = 5 ∨ i = 6 ∨ i = 7 := by omega
          rcases hcases with rfl | rfl | rfl | rfl | rfl | rfl | rfl | rfl
          · simp only [List.getElem?_toArray, List.getElem?_cons_zero, Option.some.injEq] at ho
            subst ho
            have HPF : Hid _ := pf
            clear pf
            go_wp2_with (fail)
            obtain ⟨p0, p1, p2, p3, p4, p5, p6⟩ := HPF.out
            exact ⟨_, _, _, _, _, _, _, rfl, fun h => absurd h (by simp [H14.out]), fun _ => ⟨hJ, fun _ => rfl, p1, p2, p3, p4, p5, p6⟩, fun h => absurd h (by simp [H14.out])⟩
          · simp only [List.getElem?_toArray, List.getElem?_cons_zero, List.getElem?_cons_succ, Option.some.injEq] at ho
            subst ho
            have HPF : Hid _ := pf
            clear pf
            go_wp2_with (fail)
            obtain ⟨p0, p1, p2, p3, p4, p5, p6⟩ := HPF.out
            exact ⟨_, _, _, _, _, _, _, rfl, fun h => absurd h (by simp [H14.out]), fun _ => ⟨hJ, p0, fun _ => rfl, p2, p3, p4, p5, p6⟩, fun h => absurd h (by simp [H14.out])⟩
          · simp only [List.getElem?_toArray, List.getElem?_cons_zero, List.getElem?_cons_succ, Option.some.injEq] at ho
            subst ho
            simp [Region.binds] at haf
            obtain rfl : x38 = _ := pf.2.1 (haf)
            have HPF : Hid _ := pf
            clear pf
            go_wp2_with (fail)
            obtain ⟨p0, p1, p2, p3, p4, p5, p6⟩ := HPF.out
            exact ⟨_, _, _, _, _, _, _, rfl, fun h => absurd h (by simp [H14.out]), fun _ => ⟨hJ, p0, fun _ => rfl, fun _ => rfl, p3, p4, p5, p6⟩, fun h => absurd h (by simp [H14.out])⟩
          · simp only [List.getElem?_toArray, List.getElem?_cons_zero, List.getElem?_cons_succ, Option.some.injEq] at ho
            subst ho
            simp [Region.binds] at haf
            obtain rfl : x39 = _ := pf.2.2.1 (haf)
            have HPF : Hid _ := pf
            clear pf
            have hT9 := ((TabR.below (w := wr1.drew) HS1.out.a hJ).row HI1.out.rows hx12)
            go_wp2_with (refine wpList_loadRel rfl (.tmp 39) rfl w.heap.size (x * 7) rx rfl hrx.1 (Hrx.out ▸ hT9) ?_)
            obtain ⟨p0, p1, p2, p3, p4, p5, p6⟩ := HPF.out
            exact ⟨_, _, _, _, _, _, _, rfl, fun h => absurd h (by simp [H14.out]), fun _ => ⟨hJ, p0, p1, fun _ => rfl, fun _ => rfl, p4, p5, p6⟩, fun h => absurd h (by simp [H14.out])⟩
          · simp only [List.getElem?_toArray, List.getElem?_cons_zero, List.getElem?_cons_succ, Option.some.injEq] at ho
            subst ho
            have HPF : Hid _ := pf
            clear pf
            have hB9 : RelAt wr B r := (hJ.block B HB1.out.lt).trans HB1.out
            go_wp2_with (refine wpList_loadRel rfl (.tmp 6) rfl B 0 r rfl hrS.1 hB9.range ?_)
            obtain ⟨p0, p1, p2, p3, p4, p5, p6⟩ := HPF.out
            exact ⟨_, _, _, _, _, _, _, rfl, fun h => absurd h (by simp [H14.out]), fun _ => ⟨hJ, p0, p1, p2, p3, fun _ => rfl, p5, p6⟩, fun h => absurd h (by simp [H14.out])⟩
          · simp only [List.getElem?_toArray, List.getElem?_cons_zero, List.getElem?_cons_succ, Option.some.injEq] at ho
            subst ho
            simp [Region.binds] at haf
            obtain rfl : x40 = _ := pf.2.2.2.1 (haf.1)
            obtain rfl : x41 = _ := pf.2.2.2.2.1 (haf.2)
            have HPF : Hid _ := pf
            clear pf
            go_wp2_with (go_at_call 118; refine (relOr rx r _ hrx hrS).mono ?_; rintro e w9 ⟨rfl, b9⟩)
            obtain ⟨p0, p1, p2, p3, p4, p5, p6⟩ := HPF.out
            exact ⟨_, _, _, _, _, _, _, rfl, fun h => absurd h (by simp [H14.out]), fun _ => ⟨hJ.trans (b9.mono hJ.size), p0, p1, p2, fun _ => rfl, fun _ => rfl, fun _ => rfl, p6⟩, fun h => absurd h (by simp [H14.out])⟩
          · simp only [List.getElem?_toArray, List.getElem?_cons_zero, List.getElem?_cons_succ, Option.some.injEq] at ho
            subst ho
            simp [Region.binds] at haf
            obtain rfl : x37 = _ := pf.1 (haf.1)
            have HPF : Hid _ := pf
            clear pf
            go_wp2_with (fail)
            obtain ⟨p0, p1, p2, p3, p4, p5, p6⟩ := HPF.out
            exact ⟨_, _, _, _, _, _, _, rfl, fun h => absurd h (by simp [H14.out]), fun _ => ⟨hJ, fun _ => rfl, p1, p2, p3, p4, p5, fun _ => rfl⟩, fun h => absurd h (by simp [H14.out])⟩
          · simp only [List.getElem?_toArray, List.getElem?_cons_zero, List.getElem?_cons_succ, Option.some.injEq] at ho
            subst ho
            simp [Region.binds] at haf
            obtain rfl : x43 = _ := pf.2.2.2.2.2.2 (haf.1)
            obtain rfl : x42 = _ := pf.2.2.2.2.2.1 (haf.2.1)
            have HPF : Hid _ := pf
            clear pf
            go_wp2_with (refine wpList_storeRel rfl rfl (.tmp 43) (.tmp 42) rfl w.heap.size (x * 7) (joi rx r) rfl rfl hjS.1 ((TabR.below (w := wr1.drew) HS1.out.a hJ).thereRow HI1.out.rows hx12) ?_)
            refine ⟨_, _, _, _, _, _, _, rfl, fun _ j hj => ?_, fun h => absurd h (by simp), fun _ => ⟨(TabR.below (w := wr1.drew) HS1.out.a hJ).store HI1.out.rows hx12 hjS.1, (Below.mono hJ hZ3).grown (grown_setCells7 _ _ _ _) (by have := hJ.size; omega) (fun k hk => by cases hk; exact Nat.le_refl _), fun k hk hk2 => (grown_setCells7 _ _ _ _).block k (by have := hJ.size; omega) (fun e => by cases e; exact hk2 rfl) |>.trans (hJ.block k hk)⟩⟩
            have hcj : j = 0 ∨ j = 1 ∨ j = 2 ∨ j = 3 ∨ j = 4 ∨ j = 5 ∨ j = 6 := by omega
            rcases hcj with rfl | rfl | rfl | rfl | rfl | rfl | rfl <;> simp_all
         case he =>
          intro l a wr hI hall9
          obtain ⟨x37, x38, x39, x40, x41, x42, x43, rfl, hall, hF, hlast⟩ := hI
          have hend := hlast (hall9 7 (by simp))
          clear hall hF hlast hall9
          obtain ⟨T5, b5, k5⟩ := hend
          have b5' : Below w.heap.size wr1 wr := ⟨b5.os, b5.tape, b5.output, b5.size, b5.block⟩
          have k5' : ∀ k, k < wr1.heap.size → k ≠ w.heap.size → wr.heap[k]? = wr1.heap[k]? := k5
          have S5 : PS w R (R2.set x (joi rx r)) wr := ⟨T5, HS1.out.z.kept (k5' _ zz (by omega)), HS1.out.bl.trans b5'⟩
          have I5 : PassI E ss R i (R2.set x (joi rx r)) := by
           have := HI1.out.put hxl h12 hrS (fun C hC hc h0 => by
            have h9 := HG.out A[k] (List.getElem_mem hkl) C hC hc h0
            rw [HX.out] at h9
            simpa using h9)
           rw [Hrx.out] at this
           exact this
          have HS5 : Hid _ := S5
          have HI5 : Hid _ := I5
          have HB5 : Hid (RelAt wr B r) := (k5' B HB1.out.lt (by omega)).trans HB1.out
          have HO5 : Hid (wr.ownsRow (w.heap.size + 1 + 1) 2 1 (.slice (some ⟨gn, off, none⟩) A.length nc) A.length (ints A)) := own_same HO1.out (fun k hk => k5' k (HO1.out.lt k hk).2 (by have := (HO1.out.lt k hk).1; omega))
          clear T5 b5 k5 b5' k5' S5 I5
          go_wp2
          go_roundw
          case rel =>
           have hxR : x < R2.length := by rw [HI1.out.rows.1]; exact hx12
           refine ⟨k + 1, _, by omega, by go_num, HS5.out, HI5.out, HB5.out, HO5.out, fun q hq => ?_⟩
           have hself : SubR r ((R2.set x (joi rx r)).getD x []) := by rw [getD_set hxR, if_pos rfl]; exact joi_r hrx hrS
           by_cases e : q = k
           · subst e; rw [hAk.out]; exact hself
           · have h1 := HD1.out q (by omega)
             have hgrow : SubN 12 R2 (R2.set x (joi rx r)) := SubN.set hxR (by rw [Hrx.out]; exact joi_l hrx hrS)
             have hqA : q < A.length := by omega
             obtain ⟨z, hz, hzl⟩ := hAx A[q] (List.getElem_mem hqA)
             have hz' : A.getD q 0 = (z : Int) := by simp [List.getD, hqA, hz]
             rw [hz'] at h1 ⊢
             exact h1.trans (hgrow z (by omega))
          case measure => simp [intOf]; omega
       · have hkk : k = A.length := by omega
         subst hkk
         have hnext : Hid (PassI E ss R (i + 1) R2) := by
          refine HN.out R2 I (fun x hx => ?_)
          obtain ⟨q, hq, rfl⟩ := List.getElem_of_mem hx
          have := hd q hq
          have e : A.getD q 0 = A[q] := by simp [List.getD, hq]
          rwa [e] at this
         have HS1 : Hid _ := S
         clear S I Bt O hd
         go_wp2
         go_roundw
         case rel => exact ⟨i + 1, R2, by omega, by go_num, HS1.out, hnext.out⟩
         case measure => simp [intOf]; omega
   · have hii : i = ss.length := by omega
     subst hii
     clear S I
     go_wp2_with (first
      | refine wpList_loadTabR isTab12 rfl (.tmp 3) rfl w.heap.size R1 rfl HI.out.rows HS.out.a ?_
      | (refine wpList_storeTabR isTab12 rfl rfl (.tmp 4) (.tmp 46) rfl (w.heap.size + 1) (List.replicate 12 zero7) R1 rfl rfl (Rows7.zero 12) HI.out.rows HS.out.z ?_; intro w5 T5 g5))
     refine bodyPost_tabR isTab12 rfl (w.heap.size + 1) R1 rfl HI.out.rows T5 rfl ⟨R1, rfl, HI.out, ?_⟩
     exact HS.out.bl.grown g5 HS.out.bl.size (fun k hk => by cases hk; omega)

end Go.Proofs.Ytnjbihfceckpfaa
