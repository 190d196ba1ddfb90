/-
 Chapter 7, the program's side: a statement's relation, by the client's function fields.
-/
import Derived.Test.YtnjbihfceckpfaaG08FlowTop
namespace Go.Proofs.Ytnjbihfceckpfaa
open Go.RowKit
set_option linter.unusedVariables false
set_option maxHeartbeats 2000000
set_option maxRecDepth 4000

/-- The world in the region: only the answer's block R turns. -/
def RJ (w2 : World) (R : Nat) (zs : List Int) (b : Bool) (wr : World) : Prop :=
 w2.grownBy wr (some R) ∧ (∃ L : List Int, L.length = 7 ∧ RelAt wr R L) ∧ (b = true → RelAt wr R zs)

theorem RJ.below {w2 : World} {R : Nat} {zs : List Int} {b : Bool} {wr w' : World} (h : RJ w2 R zs b wr) (hb : Below wr.heap.size wr w') : RJ w2 R zs b w' := by
 obtain ⟨h1, ⟨L, hL, h2⟩, h3⟩ := h
 exact ⟨grown_trans h1 (grown_of_below hb _), ⟨L, hL, (hb.block _ h2.lt).trans h2⟩, fun e => (hb.block _ h2.lt).trans (h3 e)⟩

theorem RJ.there {w2 : World} {R : Nat} {zs : List Int} {b : Bool} {wr : World} (h : RJ w2 R zs b wr) : wr.there R 0 7 := by
 obtain ⟨h1, ⟨L, hL, h2⟩, h3⟩ := h
 have := h2.there
 rwa [hL] at this

theorem RJ.store {w2 : World} {R : Nat} {zs : List Int} {b : Bool} {wr : World} (h : RJ w2 R zs b wr) (hz : zs.length = 7) : RJ w2 R zs true (wr.setCells R 0 (ints zs)) := by
 obtain ⟨h1, ⟨L, hL, h2⟩, h3⟩ := h
 have h4 : RelAt (wr.setCells R 0 (ints zs)) R zs := h2.store (by omega)
 exact ⟨grown_trans h1 (grown_setCells7 _ _ _ _), ⟨zs, hz, h4⟩, fun _ => h4⟩

theorem RJ.drew {w2 : World} {R : Nat} {zs : List Int} (h : RelAt w2 R (List.replicate 7 0)) : RJ w2 R zs false w2.drew :=
 ⟨⟨rfl, rfl, rfl, Nat.le_refl _, fun _ _ _ => rfl⟩, ⟨_, by simp, h⟩, fun e => absurd e (by simp)⟩

theorem grown_range {w2 W : World} {R U : Nat} {vs : List Value} {t : TypeId} (h : w2.heap[U]? = some (.cells vs.toArray t (0, 0))) (hn : U ≠ R) (hg : w2.grownBy W (some R)) : W.rangeAt U 0 vs ∧ ∀ j, W.frozen? ⟨U, j, none⟩ = false := by
 have hl : U < w2.heap.size := (Array.getElem?_eq_some_iff.1 h).1
 have h1 := (hg.block U hl (by simp; omega)).trans h
 refine ⟨fun j v hv => ?_, fun j => frozen_of_row W U j _ _ h1⟩
 rw [Nat.zero_add, cell_of_row W U j _ _ (0, 0) h1]
 simpa using hv

theorem three_blocks {w w1 : World} {o1 o2 o3 : Obj} (b1 : Below (((w.alloc o1).alloc o2).alloc o3).heap.size (((w.alloc o1).alloc o2).alloc o3) w1) :
 w1.heap[w.heap.size]? = some o1 ∧ w1.heap[w.heap.size + 1]? = some o2 ∧ w1.heap[w.heap.size + 1 + 1]? = some o3 ∧ Below w.heap.size w w1 ∧ w.heap.size + 1 + 1 < w1.heap.size := by
 have z1 : (w.alloc o1).heap.size = w.heap.size + 1 := by simp
 have z2 : ((w.alloc o1).alloc o2).heap.size = w.heap.size + 1 + 1 := by simp
 have z3 : (((w.alloc o1).alloc o2).alloc o3).heap.size = w.heap.size + 1 + 1 + 1 := by simp
 have h1 := heap_alloc_new w o1
 have h2 := heap_alloc_new (w.alloc o1) o2
 have h3 := heap_alloc_new ((w.alloc o1).alloc o2) o3
 rw [z1] at h2
 rw [z2] at h3
 have a0 : Below w.heap.size w (((w.alloc o1).alloc o2).alloc o3) := (((Below.refl _ _).alloc (Nat.le_refl _) o1).alloc (by omega) o2).alloc (by omega) o3
 refine ⟨(b1.block _ (by omega)).trans ((old_block (by omega)).trans ((old_block (by omega)).trans h1)), (b1.block _ (by omega)).trans ((old_block (by omega)).trans h2), (b1.block _ (by omega)).trans h3, a0.trans (b1.mono (by omega)), ?_⟩
 have := b1.size
 omega

theorem factN_small (x : Nat) (hx : x < 6) : Small (factN x) := by
 have hc : x = 0 ∨ x = 1 ∨ x = 2 ∨ x = 3 ∨ x = 4 ∨ x = 5 := by omega
 rcases hc with rfl | rfl | rfl | rfl | rfl | rfl <;> exact ⟨by decide, by decide⟩

/-- What the region has, operation by operation. -/
def Rl2Fct (F S R U : Nat) (x : Nat) (y : Int) (us zs : List Int) (mk : Int) (l : Nat → Bool) (x13 x14 x15 x16 x17 x18 x19 x20 : Value) : Prop :=
 (l 0 = true → x13 = relV us) ∧ (l 1 = true → x14 = .pointer (some ⟨S, 1, none⟩)) ∧ (l 2 = true → x15 = .int .i64 (x : Int)) ∧ (l 3 = true → x16 = .pointer (some ⟨F, 0, none⟩)) ∧ (l 4 = true → x17 = .func (.func 105) #[] #[]) ∧ (l 5 = true → x18 = .agg #[.int .i64 2, .int .i64 (x : Int), .int .i64 y]) ∧ (l 6 = true → x19 = .int .i64 mk) ∧ (l 7 = true → x20 = relV zs)

/-- The invariant of that region. -/
def Rl2Inv (F S R U : Nat) (x : Nat) (y : Int) (us zs : List Int) (mk : Int) (w2 : World) (l : Nat → Bool) (a : Act) (wr : World) : Prop :=
 ∃ y0 y1 y6 y7 y8 y9 y10 y11 y12 y21 y22 y23 y24 y25 y26 y27 y28 y29 y30 y31 y32 y33 y34 y35 y36 y37 y38 y39 y40 y41 y42 y43 y44 y45 y46 y47 y48 y49 y50 y51 x13 x14 x15 x16 x17 x18 x19 x20 : Value,
  a = { tmps := List.toArray (y0 :: y1 :: .pointer (some ⟨F, 0, none⟩) :: .pointer (some ⟨S, 0, none⟩) :: .pointer (some ⟨R, 0, none⟩) :: .pointer (some ⟨U, 0, none⟩) :: y6 :: y7 :: y8 :: y9 :: y10 :: y11 :: y12 :: x13 :: x14 :: x15 :: x16 :: x17 :: x18 :: x19 :: x20 :: y21 :: y22 :: y23 :: y24 :: y25 :: y26 :: y27 :: y28 :: y29 :: y30 :: y31 :: y32 :: y33 :: y34 :: y35 :: y36 :: y37 :: y38 :: y39 :: y40 :: y41 :: y42 :: y43 :: y44 :: y45 :: y46 :: y47 :: y48 :: y49 :: y50 :: y51 :: []), defers := [] } ∧
  RJ w2 R zs (l 8) wr ∧ Rl2Fct F S R U x y us zs mk l x13 x14 x15 x16 x17 x18 x19 x20

theorem relationOf2 (x y : Nat) (hx : x < 6) (hy : y < 6) (m : Nat) (w : World) :
 Calls Try.prog 147 #[flowsV m, .agg #[.int .i64 2, .int .i64 (x : Int), .int .i64 (y : Int)]] w fun e w' => e = .returned (relV (mkL unitL (factN x) (factN y))) ∧ Below w.heap.size w w' := by
 have hun := fun W => implUnit W
 obtain ⟨mk, hmk⟩ : ∃ mk : Int, mk = factN y := ⟨_, rfl⟩
 have hsm : Small mk := by rw [hmk]; exact factN_small y hy
 have hfy : ∀ W, Calls Try.prog 105 #[.agg #[.int .i64 2, .int .i64 (x : Int), .int .i64 (y : Int)]] W fun e w' => e = .returned (.int .i64 mk) ∧ Below W.heap.size W w' := fun W => by rw [hmk]; exact factOfY 2 x y hy W
 rw [← hmk]
 clear hmk
 have hmb := fun W => madeBy unitL x mk W rfl hx hsm
 obtain ⟨us, hus⟩ : ∃ us, unitL = us := ⟨_, rfl⟩
 have hu7 : us.length = 7 := by rw [← hus]; rfl
 obtain ⟨zs, hzs⟩ : ∃ zs, mkL unitL (factN x) mk = zs := ⟨_, rfl⟩
 have hz7 : zs.length = 7 := by rw [← hzs]; exact mkL_length _ _ _
 rw [hzs] at hmb ⊢
 rw [hus] at hun hmb
 clear hzs hus hsm
 generalize (y : Int) = y at *
 unfold flowsV
 go_enter Try.func147, Try.ntmps147
 go_wp2_with fail
 go_at_call 142
 refine (hun _).mono ?_
 rintro e w1 ⟨a, rfl, oa, b1⟩
 clear hun
 obtain ⟨g, off, cap, rfl, hrg⟩ := reads_range (reads_own oa) hu7
 have HG : Hid (w1.rangeAt g off (ints us)) := hrg
 clear hrg oa
 have hst := fresh_there w1
 have HT : Hid _ := hst
 clear hst
 obtain ⟨bF, bS, bR, L1, hU1⟩ := three_blocks b1
 clear b1
 have hpre : ∀ (B : Nat) (o : Obj), B < w1.heap.size → w1.heap[B]? = some o → ((fresh7 w1).setCells w1.heap.size 0 (ints us)).heap[B]? = some o := fun B o hB h => by
  refine ((grown_setCells7 _ _ _ _).block _ (by simp; omega) (by simp; omega)).trans ?_
  rw [old_block hB]
  exact h
 have bU : RelAt ((fresh7 w1).setCells w1.heap.size 0 (ints us)) w1.heap.size us := fresh_rel w1 us hu7
 have L2 : Below w.heap.size w ((fresh7 w1).setCells w1.heap.size 0 (ints us)) := fresh_below L1 (by omega) _
 have bF := hpre _ _ (by omega) bF
 have bS := hpre _ _ (by omega) bS
 have bR : RelAt ((fresh7 w1).setCells w1.heap.size 0 (ints us)) (w.heap.size + 1 + 1) (List.replicate 7 0) := hpre _ _ (by omega) bR
 have hUR : w1.heap.size ≠ w.heap.size + 1 + 1 := by omega
 have k0 := (frozen_of_row _ _ 0 _ _ bS)
 have HBF : Hid _ := bF
 have HBR : Hid (RelAt ((fresh7 w1).setCells w1.heap.size 0 (ints us)) (w.heap.size + 1 + 1) (List.replicate 7 0)) := bR
 have HBU : Hid (RelAt ((fresh7 w1).setCells w1.heap.size 0 (ints us)) w1.heap.size us) := bU
 have hk0 : ((fresh7 w1).setCells w1.heap.size 0 (ints us)).cell? ⟨w.heap.size + 1, 0, none⟩ = some (.int .i64 2) := by rw [cell_of_row _ _ 0 _ _ (0, 0) bS]; rfl
 have HBS : Hid _ := bS
 clear hpre bF bS bR bU L1
 go_wp2_with (first
  | refine wpList_arrayAt rfl (.tmp 6) rfl g off cap rfl ?_
  | refine wpList_loadRel rfl (.tmp 7) rfl g off us rfl hu7 HG.out ?_
  | refine wpList_storeRel rfl rfl (.tmp 5) (.tmp 8) rfl w1.heap.size 0 us rfl rfl hu7 HT.out ?_)
 clear HG HT k0 hk0
 generalize hW2 : (fresh7 w1).setCells w1.heap.size 0 (ints us) = w2 at *
 clear hW2
 generalize w1.heap.size = U at *
 have HU : Hid (∀ W, w2.grownBy W (some (w.heap.size + 1 + 1)) → W.rangeAt U 0 (ints us)) := fun W hW => (grown_range HBU.out hUR hW).1
 have HS : Hid (∀ W, w2.grownBy W (some (w.heap.size + 1 + 1)) → W.cell? ⟨w.heap.size + 1, 0, none⟩ = some (.int .i64 2) ∧ W.cell? ⟨w.heap.size + 1, 1, none⟩ = some (.int .i64 (x : Int)) ∧ W.cell? ⟨w.heap.size + 1, 2, none⟩ = some (.int .i64 y)) := fun W hW => by
  have h := (grown_range (vs := [.int .i64 2, .int .i64 (x : Int), .int .i64 y]) HBS.out (by omega) hW).1
  exact ⟨h 0 _ rfl, h 1 _ rfl, h 2 _ rfl⟩
 have HF : Hid (∀ W, w2.grownBy W (some (w.heap.size + 1 + 1)) → W.cell? ⟨w.heap.size, 0, none⟩ = some (.func (.func 105) #[] #[])) := fun W hW => by
  have h := (grown_range (vs := [.func (.func 105) #[] #[], .func (.func 106) #[] #[], .func (.func 107) #[] #[], .func (.func m) #[] #[]]) HBF.out (by omega) hW).1
  exact h 0 _ rfl
 have HBR2 : Hid (RJ w2 (w.heap.size + 1 + 1) zs false w2.drew) := RJ.drew HBR.out
 clear HBF HBS HBU HBR
 refine wp_region_inv (by kernel_rfl) (by kernel_rfl) (Rl2Inv w.heap.size (w.heap.size + 1) (w.heap.size + 1 + 1) U x y us zs mk w2) ?h0 ?hs ?he
 case h0 => exact ⟨_, _, _, _, _, _, _, _, _, _, _, _, _, _, _, _, _, _, _, _, _, _, _, _, _, _, _, _, _, _, _, _, _, _, _, _, _, _, _, _, _, _, _, _, _, _, _, _, rfl, HBR2.out, by simp, by simp, by simp, by simp, by simp, by simp, by simp, by simp⟩
 case hs =>
  intro l i o a wr ho hI hli haf
  obtain ⟨y0, y1, y6, y7, y8, y9, y10, y11, y12, y21, y22, y23, y24, y25, y26, y27, y28, y29, y30, y31, y32, y33, y34, y35, y36, y37, y38, y39, y40, y41, y42, y43, y44, y45, y46, y47, y48, y49, y50, y51, x13, x14, x15, x16, x17, x18, x19, x20, rfl, hJ, pf⟩ := hI
  have hi : i < 9 := (Array.getElem?_eq_some_iff.1 ho).1
  have hcases : i = 0 ∨ i = 1 ∨ i = 2 ∨ i = 3 ∨ i = 4 ∨ i = 5 ∨ i = 6 ∨ i = 7 ∨ i = 8 := by omega
  rcases hcases with rfl | rfl | rfl | rfl | rfl | rfl | rfl | rfl | rfl
  · simp only [List.getElem?_toArray, List.getElem?_cons_zero, Option.some.injEq] at ho
    subst ho
    have HPF : Hid _ := pf
    clear pf
    go_wp2_with (refine wpList_loadRel rfl (.tmp 5) rfl U 0 us rfl hu7 (HU.out wr hJ.1) ?_)
    obtain ⟨p0, p1, p2, p3, p4, p5, p6, p7⟩ := HPF.out
    exact ⟨_, _, _, _, _, _, _, _, _, _, _, _, _, _, _, _, _, _, _, _, _, _, _, _, _, _, _, _, _, _, _, _, _, _, _, _, _, _, _, _, _, _, _, _, _, _, _, _, rfl, hJ, fun _ => rfl, p1, p2, p3, p4, p5, p6, p7⟩
  · simp only [List.getElem?_toArray, List.getElem?_cons_zero, List.getElem?_cons_succ, Option.some.injEq] at ho
    subst ho
    have HPF : Hid _ := pf
    clear pf
    go_wp2_with (fail)
    obtain ⟨p0, p1, p2, p3, p4, p5, p6, p7⟩ := HPF.out
    exact ⟨_, _, _, _, _, _, _, _, _, _, _, _, _, _, _, _, _, _, _, _, _, _, _, _, _, _, _, _, _, _, _, _, _, _, _, _, _, _, _, _, _, _, _, _, _, _, _, _, rfl, hJ, p0, fun _ => rfl, p2, p3, p4, p5, p6, p7⟩
  · simp only [List.getElem?_toArray, List.getElem?_cons_zero, List.getElem?_cons_succ, Option.some.injEq] at ho
    subst ho
    simp [Region.binds] at haf
    obtain rfl : x14 = _ := pf.2.1 (haf)
    have HPF : Hid _ := pf
    clear pf
    obtain ⟨s0, s1, s2⟩ := HS.out wr hJ.1
    go_wp2_with (fail)
    obtain ⟨p0, p1, p2, p3, p4, p5, p6, p7⟩ := HPF.out
    exact ⟨_, _, _, _, _, _, _, _, _, _, _, _, _, _, _, _, _, _, _, _, _, _, _, _, _, _, _, _, _, _, _, _, _, _, _, _, _, _, _, _, _, _, _, _, _, _, _, _, rfl, hJ, p0, fun _ => rfl, fun _ => rfl, p3, p4, p5, p6, p7⟩
  · simp only [List.getElem?_toArray, List.getElem?_cons_zero, List.getElem?_cons_succ, Option.some.injEq] at ho
    subst ho
    have HPF : Hid _ := pf
    clear pf
    go_wp2_with (fail)
    obtain ⟨p0, p1, p2, p3, p4, p5, p6, p7⟩ := HPF.out
    exact ⟨_, _, _, _, _, _, _, _, _, _, _, _, _, _, _, _, _, _, _, _, _, _, _, _, _, _, _, _, _, _, _, _, _, _, _, _, _, _, _, _, _, _, _, _, _, _, _, _, rfl, hJ, p0, p1, p2, fun _ => rfl, p4, p5, p6, p7⟩
  · simp only [List.getElem?_toArray, List.getElem?_cons_zero, List.getElem?_cons_succ, Option.some.injEq] at ho
    subst ho
    simp [Region.binds] at haf
    obtain rfl : x16 = _ := pf.2.2.2.1 (haf)
    have HPF : Hid _ := pf
    clear pf
    have f1 := HF.out wr hJ.1
    go_wp2_with (fail)
    obtain ⟨p0, p1, p2, p3, p4, p5, p6, p7⟩ := HPF.out
    exact ⟨_, _, _, _, _, _, _, _, _, _, _, _, _, _, _, _, _, _, _, _, _, _, _, _, _, _, _, _, _, _, _, _, _, _, _, _, _, _, _, _, _, _, _, _, _, _, _, _, rfl, hJ, p0, p1, p2, fun _ => rfl, fun _ => rfl, p5, p6, p7⟩
  · simp only [List.getElem?_toArray, List.getElem?_cons_zero, List.getElem?_cons_succ, Option.some.injEq] at ho
    subst ho
    have HPF : Hid _ := pf
    clear pf
    obtain ⟨s0, s1, s2⟩ := HS.out wr hJ.1
    go_wp2_with (fail)
    obtain ⟨p0, p1, p2, p3, p4, p5, p6, p7⟩ := HPF.out
    exact ⟨_, _, _, _, _, _, _, _, _, _, _, _, _, _, _, _, _, _, _, _, _, _, _, _, _, _, _, _, _, _, _, _, _, _, _, _, _, _, _, _, _, _, _, _, _, _, _, _, rfl, hJ, p0, p1, p2, p3, p4, fun _ => rfl, p6, p7⟩
  · simp only [List.getElem?_toArray, List.getElem?_cons_zero, List.getElem?_cons_succ, Option.some.injEq] at ho
    subst ho
    simp [Region.binds] at haf
    obtain rfl : x17 = _ := pf.2.2.2.2.1 (haf.1)
    obtain rfl : x18 = _ := pf.2.2.2.2.2.1 (haf.2)
    have HPF : Hid _ := pf
    clear pf
    go_wp2_with (go_at_call 105; refine (hfy _).mono ?_; rintro e w9 ⟨rfl, b9⟩)
    obtain ⟨p0, p1, p2, p3, p4, p5, p6, p7⟩ := HPF.out
    exact ⟨_, _, _, _, _, _, _, _, _, _, _, _, _, _, _, _, _, _, _, _, _, _, _, _, _, _, _, _, _, _, _, _, _, _, _, _, _, _, _, _, _, _, _, _, _, _, _, _, rfl, RJ.below hJ b9, p0, p1, p2, p3, fun _ => rfl, fun _ => rfl, fun _ => rfl, p7⟩
  · simp only [List.getElem?_toArray, List.getElem?_cons_zero, List.getElem?_cons_succ, Option.some.injEq] at ho
    subst ho
    simp [Region.binds] at haf
    obtain rfl : x13 = _ := pf.1 (haf.1)
    obtain rfl : x15 = _ := pf.2.2.1 (haf.2.1)
    obtain rfl : x19 = _ := pf.2.2.2.2.2.2.1 (haf.2.2)
    have HPF : Hid _ := pf
    clear pf
    go_wp2_with (go_at_call 150; refine (hmb _).mono ?_; rintro e w9 ⟨rfl, b9⟩)
    obtain ⟨p0, p1, p2, p3, p4, p5, p6, p7⟩ := HPF.out
    exact ⟨_, _, _, _, _, _, _, _, _, _, _, _, _, _, _, _, _, _, _, _, _, _, _, _, _, _, _, _, _, _, _, _, _, _, _, _, _, _, _, _, _, _, _, _, _, _, _, _, rfl, RJ.below hJ b9, fun _ => rfl, p1, fun _ => rfl, p3, p4, p5, fun _ => rfl, fun _ => rfl⟩
  · simp only [List.getElem?_toArray, List.getElem?_cons_zero, List.getElem?_cons_succ, Option.some.injEq] at ho
    subst ho
    simp [Region.binds] at haf
    obtain rfl : x20 = _ := pf.2.2.2.2.2.2.2 (haf.1)
    have HPF : Hid _ := pf
    clear pf
    go_wp2_with (refine wpList_storeRel rfl rfl (.tmp 4) (.tmp 20) rfl (w.heap.size + 1 + 1) 0 zs rfl rfl hz7 hJ.there ?_)
    obtain ⟨p0, p1, p2, p3, p4, p5, p6, p7⟩ := HPF.out
    exact ⟨_, _, _, _, _, _, _, _, _, _, _, _, _, _, _, _, _, _, _, _, _, _, _, _, _, _, _, _, _, _, _, _, _, _, _, _, _, _, _, _, _, _, _, _, _, _, _, _, rfl, RJ.store hJ hz7, p0, p1, p2, p3, p4, p5, p6, fun _ => rfl⟩
 case he =>
  intro l a wr hI hall
  obtain ⟨y0, y1, y6, y7, y8, y9, y10, y11, y12, y21, y22, y23, y24, y25, y26, y27, y28, y29, y30, y31, y32, y33, y34, y35, y36, y37, y38, y39, y40, y41, y42, y43, y44, y45, y46, y47, y48, y49, y50, y51, x13, x14, x15, x16, x17, x18, x19, x20, rfl, hJ, pf⟩ := hI
  have h8 := hJ.2.2 (hall 8 (by simp))
  have L3 := L2.grown hJ.1 (by have := L2.size; omega) (fun k hk => by simp at hk; omega)
  clear pf hall
  go_wp2
  refine bodyPost_cellR rfl (w.heap.size + 1 + 1) 0 (ints zs) _ rfl h8.range relUnd rfl (by rw [relInfo]; simp [ints, hz7]) rfl ⟨rfl, L3⟩

/-- What the region has, operation by operation. -/
def Rl3Fct (F S R U : Nat) (x : Nat) (y : Int) (us zs : List Int) (mk : Int) (l : Nat → Bool) (x23 x24 x25 x26 x27 x28 x29 x30 : Value) : Prop :=
 (l 0 = true → x23 = relV us) ∧ (l 1 = true → x24 = .pointer (some ⟨S, 1, none⟩)) ∧ (l 2 = true → x25 = .int .i64 (x : Int)) ∧ (l 3 = true → x26 = .pointer (some ⟨F, 1, none⟩)) ∧ (l 4 = true → x27 = .func (.func 106) #[] #[]) ∧ (l 5 = true → x28 = .agg #[.int .i64 3, .int .i64 (x : Int), .int .i64 y]) ∧ (l 6 = true → x29 = .int .i64 mk) ∧ (l 7 = true → x30 = relV zs)

/-- The invariant of that region. -/
def Rl3Inv (F S R U : Nat) (x : Nat) (y : Int) (us zs : List Int) (mk : Int) (w2 : World) (l : Nat → Bool) (a : Act) (wr : World) : Prop :=
 ∃ y0 y1 y6 y7 y8 y9 y10 y11 y12 y13 y14 y15 y16 y17 y18 y19 y20 y21 y22 y31 y32 y33 y34 y35 y36 y37 y38 y39 y40 y41 y42 y43 y44 y45 y46 y47 y48 y49 y50 y51 x23 x24 x25 x26 x27 x28 x29 x30 : Value,
  a = { tmps := List.toArray (y0 :: y1 :: .pointer (some ⟨F, 0, none⟩) :: .pointer (some ⟨S, 0, none⟩) :: .pointer (some ⟨R, 0, none⟩) :: .pointer (some ⟨U, 0, none⟩) :: y6 :: y7 :: y8 :: y9 :: y10 :: y11 :: y12 :: y13 :: y14 :: y15 :: y16 :: y17 :: y18 :: y19 :: y20 :: y21 :: y22 :: x23 :: x24 :: x25 :: x26 :: x27 :: x28 :: x29 :: x30 :: y31 :: y32 :: y33 :: y34 :: y35 :: y36 :: y37 :: y38 :: y39 :: y40 :: y41 :: y42 :: y43 :: y44 :: y45 :: y46 :: y47 :: y48 :: y49 :: y50 :: y51 :: []), defers := [] } ∧
  RJ w2 R zs (l 8) wr ∧ Rl3Fct F S R U x y us zs mk l x23 x24 x25 x26 x27 x28 x29 x30

theorem relationOf3 (x y : Nat) (hx : x < 6) (hy : y < 6) (m : Nat) (w : World) :
 Calls Try.prog 147 #[flowsV m, .agg #[.int .i64 3, .int .i64 (x : Int), .int .i64 (y : Int)]] w fun e w' => e = .returned (relV (mkL unitL (factN x) (lor (factN x) (factN y)))) ∧ Below w.heap.size w w' := by
 have hun := fun W => implUnit W
 obtain ⟨mk, hmk⟩ : ∃ mk : Int, mk = lor (factN x) (factN y) := ⟨_, rfl⟩
 have hsm : Small mk := by rw [hmk]; exact lor_small (factN_small x hx) (factN_small y hy)
 have hfy : ∀ W, Calls Try.prog 106 #[.agg #[.int .i64 3, .int .i64 (x : Int), .int .i64 (y : Int)]] W fun e w' => e = .returned (.int .i64 mk) ∧ Below W.heap.size W w' := fun W => by rw [hmk]; exact factsOfXAndY 3 x y hx hy W
 rw [← hmk]
 clear hmk
 have hmb := fun W => madeBy unitL x mk W rfl hx hsm
 obtain ⟨us, hus⟩ : ∃ us, unitL = us := ⟨_, rfl⟩
 have hu7 : us.length = 7 := by rw [← hus]; rfl
 obtain ⟨zs, hzs⟩ : ∃ zs, mkL unitL (factN x) mk = zs := ⟨_, rfl⟩
 have hz7 : zs.length = 7 := by rw [← hzs]; exact mkL_length _ _ _
 rw [hzs] at hmb ⊢
 rw [hus] at hun hmb
 clear hzs hus hsm
 generalize (y : Int) = y at *
 unfold flowsV
 go_enter Try.func147, Try.ntmps147
 go_wp2_with fail
 go_at_call 142
 refine (hun _).mono ?_
 rintro e w1 ⟨a, rfl, oa, b1⟩
 clear hun
 obtain ⟨g, off, cap, rfl, hrg⟩ := reads_range (reads_own oa) hu7
 have HG : Hid (w1.rangeAt g off (ints us)) := hrg
 clear hrg oa
 have hst := fresh_there w1
 have HT : Hid _ := hst
 clear hst
 obtain ⟨bF, bS, bR, L1, hU1⟩ := three_blocks b1
 clear b1
 have hpre : ∀ (B : Nat) (o : Obj), B < w1.heap.size → w1.heap[B]? = some o → ((fresh7 w1).setCells w1.heap.size 0 (ints us)).heap[B]? = some o := fun B o hB h => by
  refine ((grown_setCells7 _ _ _ _).block _ (by simp; omega) (by simp; omega)).trans ?_
  rw [old_block hB]
  exact h
 have bU : RelAt ((fresh7 w1).setCells w1.heap.size 0 (ints us)) w1.heap.size us := fresh_rel w1 us hu7
 have L2 : Below w.heap.size w ((fresh7 w1).setCells w1.heap.size 0 (ints us)) := fresh_below L1 (by omega) _
 have bF := hpre _ _ (by omega) bF
 have bS := hpre _ _ (by omega) bS
 have bR : RelAt ((fresh7 w1).setCells w1.heap.size 0 (ints us)) (w.heap.size + 1 + 1) (List.replicate 7 0) := hpre _ _ (by omega) bR
 have hUR : w1.heap.size ≠ w.heap.size + 1 + 1 := by omega
 have k0 := (frozen_of_row _ _ 0 _ _ bS)
 have HBF : Hid _ := bF
 have HBR : Hid (RelAt ((fresh7 w1).setCells w1.heap.size 0 (ints us)) (w.heap.size + 1 + 1) (List.replicate 7 0)) := bR
 have HBU : Hid (RelAt ((fresh7 w1).setCells w1.heap.size 0 (ints us)) w1.heap.size us) := bU
 have hk0 : ((fresh7 w1).setCells w1.heap.size 0 (ints us)).cell? ⟨w.heap.size + 1, 0, none⟩ = some (.int .i64 3) := by rw [cell_of_row _ _ 0 _ _ (0, 0) bS]; rfl
 have HBS : Hid _ := bS
 clear hpre bF bS bR bU L1
 go_wp2_with (first
  | refine wpList_arrayAt rfl (.tmp 6) rfl g off cap rfl ?_
  | refine wpList_loadRel rfl (.tmp 7) rfl g off us rfl hu7 HG.out ?_
  | refine wpList_storeRel rfl rfl (.tmp 5) (.tmp 8) rfl w1.heap.size 0 us rfl rfl hu7 HT.out ?_)
 clear HG HT k0 hk0
 generalize hW2 : (fresh7 w1).setCells w1.heap.size 0 (ints us) = w2 at *
 clear hW2
 generalize w1.heap.size = U at *
 have HU : Hid (∀ W, w2.grownBy W (some (w.heap.size + 1 + 1)) → W.rangeAt U 0 (ints us)) := fun W hW => (grown_range HBU.out hUR hW).1
 have HS : Hid (∀ W, w2.grownBy W (some (w.heap.size + 1 + 1)) → W.cell? ⟨w.heap.size + 1, 0, none⟩ = some (.int .i64 3) ∧ W.cell? ⟨w.heap.size + 1, 1, none⟩ = some (.int .i64 (x : Int)) ∧ W.cell? ⟨w.heap.size + 1, 2, none⟩ = some (.int .i64 y)) := fun W hW => by
  have h := (grown_range (vs := [.int .i64 3, .int .i64 (x : Int), .int .i64 y]) HBS.out (by omega) hW).1
  exact ⟨h 0 _ rfl, h 1 _ rfl, h 2 _ rfl⟩
 have HF : Hid (∀ W, w2.grownBy W (some (w.heap.size + 1 + 1)) → W.cell? ⟨w.heap.size, 1, none⟩ = some (.func (.func 106) #[] #[])) := fun W hW => by
  have h := (grown_range (vs := [.func (.func 105) #[] #[], .func (.func 106) #[] #[], .func (.func 107) #[] #[], .func (.func m) #[] #[]]) HBF.out (by omega) hW).1
  exact h 1 _ rfl
 have HBR2 : Hid (RJ w2 (w.heap.size + 1 + 1) zs false w2.drew) := RJ.drew HBR.out
 clear HBF HBS HBU HBR
 refine wp_region_inv (by kernel_rfl) (by kernel_rfl) (Rl3Inv w.heap.size (w.heap.size + 1) (w.heap.size + 1 + 1) U x y us zs mk w2) ?h0 ?hs ?he
 case h0 => exact ⟨_, _, _, _, _, _, _, _, _, _, _, _, _, _, _, _, _, _, _, _, _, _, _, _, _, _, _, _, _, _, _, _, _, _, _, _, _, _, _, _, _, _, _, _, _, _, _, _, rfl, HBR2.out, by simp, by simp, by simp, by simp, by simp, by simp, by simp, by simp⟩
 case hs =>
  intro l i o a wr ho hI hli haf
  obtain ⟨y0, y1, y6, y7, y8, y9, y10, y11, y12, y13, y14, y15, y16, y17, y18, y19, y20, y21, y22, y31, y32, y33, y34, y35, y36, y37, y38, y39, y40, y41, y42, y43, y44, y45, y46, y47, y48, y49, y50, y51, x23, x24, x25, x26, x27, x28, x29, x30, rfl, hJ, pf⟩ := hI
  have hi : i < 9 := (Array.getElem?_eq_some_iff.1 ho).1
  have hcases : i = 0 ∨ i = 1 ∨ i = 2 ∨ i = 3 ∨ i = 4 ∨ i = 5 ∨ i = 6 ∨ i = 7 ∨ i = 8 := by omega
  rcases hcases with rfl | rfl | rfl | rfl | rfl | rfl | rfl | rfl | rfl
  · simp only [List.getElem?_toArray, List.getElem?_cons_zero, Option.some.injEq] at ho
    subst ho
    have HPF : Hid _ := pf
    clear pf
    go_wp2_with (refine wpList_loadRel rfl (.tmp 5) rfl U 0 us rfl hu7 (HU.out wr hJ.1) ?_)
    obtain ⟨p0, p1, p2, p3, p4, p5, p6, p7⟩ := HPF.out
    exact ⟨_, _, _, _, _, _, _, _, _, _, _, _, _, _, _, _, _, _, _, _, _, _, _, _, _, _, _, _, _, _, _, _, _, _, _, _, _, _, _, _, _, _, _, _, _, _, _, _, rfl, hJ, fun _ => rfl, p1, p2, p3, p4, p5, p6, p7⟩
  · simp only [List.getElem?_toArray, List.getElem?_cons_zero, List.getElem?_cons_succ, Option.some.injEq] at ho
    subst ho
    have HPF : Hid _ := pf
    clear pf
    go_wp2_with (fail)
    obtain ⟨p0, p1, p2, p3, p4, p5, p6, p7⟩ := HPF.out
    exact ⟨_, _, _, _, _, _, _, _, _, _, _, _, _, _, _, _, _, _, _, _, _, _, _, _, _, _, _, _, _, _, _, _, _, _, _, _, _, _, _, _, _, _, _, _, _, _, _, _, rfl, hJ, p0, fun _ => rfl, p2, p3, p4, p5, p6, p7⟩
  · simp only [List.getElem?_toArray, List.getElem?_cons_zero, List.getElem?_cons_succ, Option.some.injEq] at ho
    subst ho
    simp [Region.binds] at haf
    obtain rfl : x24 = _ := pf.2.1 (haf)
    have HPF : Hid _ := pf
    clear pf
    obtain ⟨s0, s1, s2⟩ := HS.out wr hJ.1
    go_wp2_with (fail)
    obtain ⟨p0, p1, p2, p3, p4, p5, p6, p7⟩ := HPF.out
    exact ⟨_, _, _, _, _, _, _, _, _, _, _, _, _, _, _, _, _, _, _, _, _, _, _, _, _, _, _, _, _, _, _, _, _, _, _, _, _, _, _, _, _, _, _, _, _, _, _, _, rfl, hJ, p0, fun _ => rfl, fun _ => rfl, p3, p4, p5, p6, p7⟩
  · simp only [List.getElem?_toArray, List.getElem?_cons_zero, List.getElem?_cons_succ, Option.some.injEq] at ho
    subst ho
    have HPF : Hid _ := pf
    clear pf
    go_wp2_with (fail)
    obtain ⟨p0, p1, p2, p3, p4, p5, p6, p7⟩ := HPF.out
    exact ⟨_, _, _, _, _, _, _, _, _, _, _, _, _, _, _, _, _, _, _, _, _, _, _, _, _, _, _, _, _, _, _, _, _, _, _, _, _, _, _, _, _, _, _, _, _, _, _, _, rfl, hJ, p0, p1, p2, fun _ => rfl, p4, p5, p6, p7⟩
  · simp only [List.getElem?_toArray, List.getElem?_cons_zero, List.getElem?_cons_succ, Option.some.injEq] at ho
    subst ho
    simp [Region.binds] at haf
    obtain rfl : x26 = _ := pf.2.2.2.1 (haf)
    have HPF : Hid _ := pf
    clear pf
    have f1 := HF.out wr hJ.1
    go_wp2_with (fail)
    obtain ⟨p0, p1, p2, p3, p4, p5, p6, p7⟩ := HPF.out
    exact ⟨_, _, _, _, _, _, _, _, _, _, _, _, _, _, _, _, _, _, _, _, _, _, _, _, _, _, _, _, _, _, _, _, _, _, _, _, _, _, _, _, _, _, _, _, _, _, _, _, rfl, hJ, p0, p1, p2, fun _ => rfl, fun _ => rfl, p5, p6, p7⟩
  · simp only [List.getElem?_toArray, List.getElem?_cons_zero, List.getElem?_cons_succ, Option.some.injEq] at ho
    subst ho
    have HPF : Hid _ := pf
    clear pf
    obtain ⟨s0, s1, s2⟩ := HS.out wr hJ.1
    go_wp2_with (fail)
    obtain ⟨p0, p1, p2, p3, p4, p5, p6, p7⟩ := HPF.out
    exact ⟨_, _, _, _, _, _, _, _, _, _, _, _, _, _, _, _, _, _, _, _, _, _, _, _, _, _, _, _, _, _, _, _, _, _, _, _, _, _, _, _, _, _, _, _, _, _, _, _, rfl, hJ, p0, p1, p2, p3, p4, fun _ => rfl, p6, p7⟩
  · simp only [List.getElem?_toArray, List.getElem?_cons_zero, List.getElem?_cons_succ, Option.some.injEq] at ho
    subst ho
    simp [Region.binds] at haf
    obtain rfl : x27 = _ := pf.2.2.2.2.1 (haf.1)
    obtain rfl : x28 = _ := pf.2.2.2.2.2.1 (haf.2)
    have HPF : Hid _ := pf
    clear pf
    go_wp2_with (go_at_call 106; refine (hfy _).mono ?_; rintro e w9 ⟨rfl, b9⟩)
    obtain ⟨p0, p1, p2, p3, p4, p5, p6, p7⟩ := HPF.out
    exact ⟨_, _, _, _, _, _, _, _, _, _, _, _, _, _, _, _, _, _, _, _, _, _, _, _, _, _, _, _, _, _, _, _, _, _, _, _, _, _, _, _, _, _, _, _, _, _, _, _, rfl, RJ.below hJ b9, p0, p1, p2, p3, fun _ => rfl, fun _ => rfl, fun _ => rfl, p7⟩
  · simp only [List.getElem?_toArray, List.getElem?_cons_zero, List.getElem?_cons_succ, Option.some.injEq] at ho
    subst ho
    simp [Region.binds] at haf
    obtain rfl : x23 = _ := pf.1 (haf.1)
    obtain rfl : x25 = _ := pf.2.2.1 (haf.2.1)
    obtain rfl : x29 = _ := pf.2.2.2.2.2.2.1 (haf.2.2)
    have HPF : Hid _ := pf
    clear pf
    go_wp2_with (go_at_call 150; refine (hmb _).mono ?_; rintro e w9 ⟨rfl, b9⟩)
    obtain ⟨p0, p1, p2, p3, p4, p5, p6, p7⟩ := HPF.out
    exact ⟨_, _, _, _, _, _, _, _, _, _, _, _, _, _, _, _, _, _, _, _, _, _, _, _, _, _, _, _, _, _, _, _, _, _, _, _, _, _, _, _, _, _, _, _, _, _, _, _, rfl, RJ.below hJ b9, fun _ => rfl, p1, fun _ => rfl, p3, p4, p5, fun _ => rfl, fun _ => rfl⟩
  · simp only [List.getElem?_toArray, List.getElem?_cons_zero, List.getElem?_cons_succ, Option.some.injEq] at ho
    subst ho
    simp [Region.binds] at haf
    obtain rfl : x30 = _ := pf.2.2.2.2.2.2.2 (haf.1)
    have HPF : Hid _ := pf
    clear pf
    go_wp2_with (refine wpList_storeRel rfl rfl (.tmp 4) (.tmp 30) rfl (w.heap.size + 1 + 1) 0 zs rfl rfl hz7 hJ.there ?_)
    obtain ⟨p0, p1, p2, p3, p4, p5, p6, p7⟩ := HPF.out
    exact ⟨_, _, _, _, _, _, _, _, _, _, _, _, _, _, _, _, _, _, _, _, _, _, _, _, _, _, _, _, _, _, _, _, _, _, _, _, _, _, _, _, _, _, _, _, _, _, _, _, rfl, RJ.store hJ hz7, p0, p1, p2, p3, p4, p5, p6, fun _ => rfl⟩
 case he =>
  intro l a wr hI hall
  obtain ⟨y0, y1, y6, y7, y8, y9, y10, y11, y12, y13, y14, y15, y16, y17, y18, y19, y20, y21, y22, y31, y32, y33, y34, y35, y36, y37, y38, y39, y40, y41, y42, y43, y44, y45, y46, y47, y48, y49, y50, y51, x23, x24, x25, x26, x27, x28, x29, x30, rfl, hJ, pf⟩ := hI
  have h8 := hJ.2.2 (hall 8 (by simp))
  have L3 := L2.grown hJ.1 (by have := L2.size; omega) (fun k hk => by simp at hk; omega)
  clear pf hall
  go_wp2
  refine bodyPost_cellR rfl (w.heap.size + 1 + 1) 0 (ints zs) _ rfl h8.range relUnd rfl (by rw [relInfo]; simp [ints, hz7]) rfl ⟨rfl, L3⟩

/-- What the region has, operation by operation. -/
def Rl4Fct (F S R U : Nat) (x : Nat) (y : Int) (us zs : List Int) (mk : Int) (l : Nat → Bool) (x33 x34 x35 x36 x37 x38 x39 x40 : Value) : Prop :=
 (l 0 = true → x33 = relV us) ∧ (l 1 = true → x34 = .pointer (some ⟨S, 1, none⟩)) ∧ (l 2 = true → x35 = .int .i64 (x : Int)) ∧ (l 3 = true → x36 = .pointer (some ⟨F, 2, none⟩)) ∧ (l 4 = true → x37 = .func (.func 107) #[] #[]) ∧ (l 5 = true → x38 = .agg #[.int .i64 4, .int .i64 (x : Int), .int .i64 y]) ∧ (l 6 = true → x39 = .int .i64 mk) ∧ (l 7 = true → x40 = relV zs)

/-- The invariant of that region. -/
def Rl4Inv (F S R U : Nat) (x : Nat) (y : Int) (us zs : List Int) (mk : Int) (w2 : World) (l : Nat → Bool) (a : Act) (wr : World) : Prop :=
 ∃ y0 y1 y6 y7 y8 y9 y10 y11 y12 y13 y14 y15 y16 y17 y18 y19 y20 y21 y22 y23 y24 y25 y26 y27 y28 y29 y30 y31 y32 y41 y42 y43 y44 y45 y46 y47 y48 y49 y50 y51 x33 x34 x35 x36 x37 x38 x39 x40 : Value,
  a = { tmps := List.toArray (y0 :: y1 :: .pointer (some ⟨F, 0, none⟩) :: .pointer (some ⟨S, 0, none⟩) :: .pointer (some ⟨R, 0, none⟩) :: .pointer (some ⟨U, 0, none⟩) :: y6 :: y7 :: y8 :: y9 :: y10 :: y11 :: y12 :: y13 :: y14 :: y15 :: y16 :: y17 :: y18 :: y19 :: y20 :: y21 :: y22 :: y23 :: y24 :: y25 :: y26 :: y27 :: y28 :: y29 :: y30 :: y31 :: y32 :: x33 :: x34 :: x35 :: x36 :: x37 :: x38 :: x39 :: x40 :: y41 :: y42 :: y43 :: y44 :: y45 :: y46 :: y47 :: y48 :: y49 :: y50 :: y51 :: []), defers := [] } ∧
  RJ w2 R zs (l 8) wr ∧ Rl4Fct F S R U x y us zs mk l x33 x34 x35 x36 x37 x38 x39 x40

theorem relationOf4 (x : Nat) (y : Int) (hx : x < 6) (m : Nat) (w : World) :
 Calls Try.prog 147 #[flowsV m, .agg #[.int .i64 4, .int .i64 (x : Int), .int .i64 y]] w fun e w' => e = .returned (relV (mkL unitL (factN x) (0))) ∧ Below w.heap.size w w' := by
 have hun := fun W => implUnit W
 obtain ⟨mk, hmk⟩ : ∃ mk : Int, mk = 0 := ⟨_, rfl⟩
 have hsm : Small mk := by rw [hmk]; exact ⟨by decide, by decide⟩
 have hfy : ∀ W, Calls Try.prog 107 #[.agg #[.int .i64 4, .int .i64 (x : Int), .int .i64 y]] W fun e w' => e = .returned (.int .i64 mk) ∧ Below W.heap.size W w' := fun W => by rw [hmk]; exact noFact 4 x y W
 rw [← hmk]
 clear hmk
 have hmb := fun W => madeBy unitL x mk W rfl hx hsm
 obtain ⟨us, hus⟩ : ∃ us, unitL = us := ⟨_, rfl⟩
 have hu7 : us.length = 7 := by rw [← hus]; rfl
 obtain ⟨zs, hzs⟩ : ∃ zs, mkL unitL (factN x) mk = zs := ⟨_, rfl⟩
 have hz7 : zs.length = 7 := by rw [← hzs]; exact mkL_length _ _ _
 rw [hzs] at hmb ⊢
 rw [hus] at hun hmb
 clear hzs hus hsm
 unfold flowsV
 go_enter Try.func147, Try.ntmps147
 go_wp2_with fail
 go_at_call 142
 refine (hun _).mono ?_
 rintro e w1 ⟨a, rfl, oa, b1⟩
 clear hun
 obtain ⟨g, off, cap, rfl, hrg⟩ := reads_range (reads_own oa) hu7
 have HG : Hid (w1.rangeAt g off (ints us)) := hrg
 clear hrg oa
 have hst := fresh_there w1
 have HT : Hid _ := hst
 clear hst
 obtain ⟨bF, bS, bR, L1, hU1⟩ := three_blocks b1
 clear b1
 have hpre : ∀ (B : Nat) (o : Obj), B < w1.heap.size → w1.heap[B]? = some o → ((fresh7 w1).setCells w1.heap.size 0 (ints us)).heap[B]? = some o := fun B o hB h => by
  refine ((grown_setCells7 _ _ _ _).block _ (by simp; omega) (by simp; omega)).trans ?_
  rw [old_block hB]
  exact h
 have bU : RelAt ((fresh7 w1).setCells w1.heap.size 0 (ints us)) w1.heap.size us := fresh_rel w1 us hu7
 have L2 : Below w.heap.size w ((fresh7 w1).setCells w1.heap.size 0 (ints us)) := fresh_below L1 (by omega) _
 have bF := hpre _ _ (by omega) bF
 have bS := hpre _ _ (by omega) bS
 have bR : RelAt ((fresh7 w1).setCells w1.heap.size 0 (ints us)) (w.heap.size + 1 + 1) (List.replicate 7 0) := hpre _ _ (by omega) bR
 have hUR : w1.heap.size ≠ w.heap.size + 1 + 1 := by omega
 have k0 := (frozen_of_row _ _ 0 _ _ bS)
 have HBF : Hid _ := bF
 have HBR : Hid (RelAt ((fresh7 w1).setCells w1.heap.size 0 (ints us)) (w.heap.size + 1 + 1) (List.replicate 7 0)) := bR
 have HBU : Hid (RelAt ((fresh7 w1).setCells w1.heap.size 0 (ints us)) w1.heap.size us) := bU
 have hk0 : ((fresh7 w1).setCells w1.heap.size 0 (ints us)).cell? ⟨w.heap.size + 1, 0, none⟩ = some (.int .i64 4) := by rw [cell_of_row _ _ 0 _ _ (0, 0) bS]; rfl
 have HBS : Hid _ := bS
 clear hpre bF bS bR bU L1
 go_wp2_with (first
  | refine wpList_arrayAt rfl (.tmp 6) rfl g off cap rfl ?_
  | refine wpList_loadRel rfl (.tmp 7) rfl g off us rfl hu7 HG.out ?_
  | refine wpList_storeRel rfl rfl (.tmp 5) (.tmp 8) rfl w1.heap.size 0 us rfl rfl hu7 HT.out ?_)
 clear HG HT k0 hk0
 generalize hW2 : (fresh7 w1).setCells w1.heap.size 0 (ints us) = w2 at *
 clear hW2
 generalize w1.heap.size = U at *
 have HU : Hid (∀ W, w2.grownBy W (some (w.heap.size + 1 + 1)) → W.rangeAt U 0 (ints us)) := fun W hW => (grown_range HBU.out hUR hW).1
 have HS : Hid (∀ W, w2.grownBy W (some (w.heap.size + 1 + 1)) → W.cell? ⟨w.heap.size + 1, 0, none⟩ = some (.int .i64 4) ∧ W.cell? ⟨w.heap.size + 1, 1, none⟩ = some (.int .i64 (x : Int)) ∧ W.cell? ⟨w.heap.size + 1, 2, none⟩ = some (.int .i64 y)) := fun W hW => by
  have h := (grown_range (vs := [.int .i64 4, .int .i64 (x : Int), .int .i64 y]) HBS.out (by omega) hW).1
  exact ⟨h 0 _ rfl, h 1 _ rfl, h 2 _ rfl⟩
 have HF : Hid (∀ W, w2.grownBy W (some (w.heap.size + 1 + 1)) → W.cell? ⟨w.heap.size, 2, none⟩ = some (.func (.func 107) #[] #[])) := fun W hW => by
  have h := (grown_range (vs := [.func (.func 105) #[] #[], .func (.func 106) #[] #[], .func (.func 107) #[] #[], .func (.func m) #[] #[]]) HBF.out (by omega) hW).1
  exact h 2 _ rfl
 have HBR2 : Hid (RJ w2 (w.heap.size + 1 + 1) zs false w2.drew) := RJ.drew HBR.out
 clear HBF HBS HBU HBR
 refine wp_region_inv (by kernel_rfl) (by kernel_rfl) (Rl4Inv w.heap.size (w.heap.size + 1) (w.heap.size + 1 + 1) U x y us zs mk w2) ?h0 ?hs ?he
 case h0 => exact ⟨_, _, _, _, _, _, _, _, _, _, _, _, _, _, _, _, _, _, _, _, _, _, _, _, _, _, _, _, _, _, _, _, _, _, _, _, _, _, _, _, _, _, _, _, _, _, _, _, rfl, HBR2.out, by simp, by simp, by simp, by simp, by simp, by simp, by simp, by simp⟩
 case hs =>
  intro l i o a wr ho hI hli haf
  obtain ⟨y0, y1, y6, y7, y8, y9, y10, y11, y12, y13, y14, y15, y16, y17, y18, y19, y20, y21, y22, y23, y24, y25, y26, y27, y28, y29, y30, y31, y32, y41, y42, y43, y44, y45, y46, y47, y48, y49, y50, y51, x33, x34, x35, x36, x37, x38, x39, x40, rfl, hJ, pf⟩ := hI
  have hi : i < 9 := (Array.getElem?_eq_some_iff.1 ho).1
  have hcases : i = 0 ∨ i = 1 ∨ i = 2 ∨ i = 3 ∨ i = 4 ∨ i = 5 ∨ i = 6 ∨ i = 7 ∨ i = 8 := by omega
  rcases hcases with rfl | rfl | rfl | rfl | rfl | rfl | rfl | rfl | rfl
  · simp only [List.getElem?_toArray, List.getElem?_cons_zero, Option.some.injEq] at ho
    subst ho
    have HPF : Hid _ := pf
    clear pf
    go_wp2_with (refine wpList_loadRel rfl (.tmp 5) rfl U 0 us rfl hu7 (HU.out wr hJ.1) ?_)
    obtain ⟨p0, p1, p2, p3, p4, p5, p6, p7⟩ := HPF.out
    exact ⟨_, _, _, _, _, _, _, _, _, _, _, _, _, _, _, _, _, _, _, _, _, _, _, _, _, _, _, _, _, _, _, _, _, _, _, _, _, _, _, _, _, _, _, _, _, _, _, _, rfl, hJ, fun _ => rfl, p1, p2, p3, p4, p5, p6, p7⟩
  · simp only [List.getElem?_toArray, List.getElem?_cons_zero, List.getElem?_cons_succ, Option.some.injEq] at ho
    subst ho
    have HPF : Hid _ := pf
    clear pf
    go_wp2_with (fail)
    obtain ⟨p0, p1, p2, p3, p4, p5, p6, p7⟩ := HPF.out
    exact ⟨_, _, _, _, _, _, _, _, _, _, _, _, _, _, _, _, _, _, _, _, _, _, _, _, _, _, _, _, _, _, _, _, _, _, _, _, _, _, _, _, _, _, _, _, _, _, _, _, rfl, hJ, p0, fun _ => rfl, p2, p3, p4, p5, p6, p7⟩
  · simp only [List.getElem?_toArray, List.getElem?_cons_zero, List.getElem?_cons_succ, Option.some.injEq] at ho
    subst ho
    simp [Region.binds] at haf
    obtain rfl : x34 = _ := pf.2.1 (haf)
    have HPF : Hid _ := pf
    clear pf
    obtain ⟨s0, s1, s2⟩ := HS.out wr hJ.1
    go_wp2_with (fail)
    obtain ⟨p0, p1, p2, p3, p4, p5, p6, p7⟩ := HPF.out
    exact ⟨_, _, _, _, _, _, _, _, _, _, _, _, _, _, _, _, _, _, _, _, _, _, _, _, _, _, _, _, _, _, _, _, _, _, _, _, _, _, _, _, _, _, _, _, _, _, _, _, rfl, hJ, p0, fun _ => rfl, fun _ => rfl, p3, p4, p5, p6, p7⟩
  · simp only [List.getElem?_toArray, List.getElem?_cons_zero, List.getElem?_cons_succ, Option.some.injEq] at ho
    subst ho
    have HPF : Hid _ := pf
    clear pf
    go_wp2_with (fail)
    obtain ⟨p0, p1, p2, p3, p4, p5, p6, p7⟩ := HPF.out
    exact ⟨_, _, _, _, _, _, _, _, _, _, _, _, _, _, _, _, _, _, _, _, _, _, _, _, _, _, _, _, _, _, _, _, _, _, _, _, _, _, _, _, _, _, _, _, _, _, _, _, rfl, hJ, p0, p1, p2, fun _ => rfl, p4, p5, p6, p7⟩
  · simp only [List.getElem?_toArray, List.getElem?_cons_zero, List.getElem?_cons_succ, Option.some.injEq] at ho
    subst ho
    simp [Region.binds] at haf
    obtain rfl : x36 = _ := pf.2.2.2.1 (haf)
    have HPF : Hid _ := pf
    clear pf
    have f1 := HF.out wr hJ.1
    go_wp2_with (fail)
    obtain ⟨p0, p1, p2, p3, p4, p5, p6, p7⟩ := HPF.out
    exact ⟨_, _, _, _, _, _, _, _, _, _, _, _, _, _, _, _, _, _, _, _, _, _, _, _, _, _, _, _, _, _, _, _, _, _, _, _, _, _, _, _, _, _, _, _, _, _, _, _, rfl, hJ, p0, p1, p2, fun _ => rfl, fun _ => rfl, p5, p6, p7⟩
  · simp only [List.getElem?_toArray, List.getElem?_cons_zero, List.getElem?_cons_succ, Option.some.injEq] at ho
    subst ho
    have HPF : Hid _ := pf
    clear pf
    obtain ⟨s0, s1, s2⟩ := HS.out wr hJ.1
    go_wp2_with (fail)
    obtain ⟨p0, p1, p2, p3, p4, p5, p6, p7⟩ := HPF.out
    exact ⟨_, _, _, _, _, _, _, _, _, _, _, _, _, _, _, _, _, _, _, _, _, _, _, _, _, _, _, _, _, _, _, _, _, _, _, _, _, _, _, _, _, _, _, _, _, _, _, _, rfl, hJ, p0, p1, p2, p3, p4, fun _ => rfl, p6, p7⟩
  · simp only [List.getElem?_toArray, List.getElem?_cons_zero, List.getElem?_cons_succ, Option.some.injEq] at ho
    subst ho
    simp [Region.binds] at haf
    obtain rfl : x37 = _ := pf.2.2.2.2.1 (haf.1)
    obtain rfl : x38 = _ := pf.2.2.2.2.2.1 (haf.2)
    have HPF : Hid _ := pf
    clear pf
    go_wp2_with (go_at_call 107; refine (hfy _).mono ?_; rintro e w9 ⟨rfl, b9⟩)
    obtain ⟨p0, p1, p2, p3, p4, p5, p6, p7⟩ := HPF.out
    exact ⟨_, _, _, _, _, _, _, _, _, _, _, _, _, _, _, _, _, _, _, _, _, _, _, _, _, _, _, _, _, _, _, _, _, _, _, _, _, _, _, _, _, _, _, _, _, _, _, _, rfl, RJ.below hJ b9, p0, p1, p2, p3, fun _ => rfl, fun _ => rfl, fun _ => rfl, p7⟩
  · simp only [List.getElem?_toArray, List.getElem?_cons_zero, List.getElem?_cons_succ, Option.some.injEq] at ho
    subst ho
    simp [Region.binds] at haf
    obtain rfl : x33 = _ := pf.1 (haf.1)
    obtain rfl : x35 = _ := pf.2.2.1 (haf.2.1)
    obtain rfl : x39 = _ := pf.2.2.2.2.2.2.1 (haf.2.2)
    have HPF : Hid _ := pf
    clear pf
    go_wp2_with (go_at_call 150; refine (hmb _).mono ?_; rintro e w9 ⟨rfl, b9⟩)
    obtain ⟨p0, p1, p2, p3, p4, p5, p6, p7⟩ := HPF.out
    exact ⟨_, _, _, _, _, _, _, _, _, _, _, _, _, _, _, _, _, _, _, _, _, _, _, _, _, _, _, _, _, _, _, _, _, _, _, _, _, _, _, _, _, _, _, _, _, _, _, _, rfl, RJ.below hJ b9, fun _ => rfl, p1, fun _ => rfl, p3, p4, p5, fun _ => rfl, fun _ => rfl⟩
  · simp only [List.getElem?_toArray, List.getElem?_cons_zero, List.getElem?_cons_succ, Option.some.injEq] at ho
    subst ho
    simp [Region.binds] at haf
    obtain rfl : x40 = _ := pf.2.2.2.2.2.2.2 (haf.1)
    have HPF : Hid _ := pf
    clear pf
    go_wp2_with (refine wpList_storeRel rfl rfl (.tmp 4) (.tmp 40) rfl (w.heap.size + 1 + 1) 0 zs rfl rfl hz7 hJ.there ?_)
    obtain ⟨p0, p1, p2, p3, p4, p5, p6, p7⟩ := HPF.out
    exact ⟨_, _, _, _, _, _, _, _, _, _, _, _, _, _, _, _, _, _, _, _, _, _, _, _, _, _, _, _, _, _, _, _, _, _, _, _, _, _, _, _, _, _, _, _, _, _, _, _, rfl, RJ.store hJ hz7, p0, p1, p2, p3, p4, p5, p6, fun _ => rfl⟩
 case he =>
  intro l a wr hI hall
  obtain ⟨y0, y1, y6, y7, y8, y9, y10, y11, y12, y13, y14, y15, y16, y17, y18, y19, y20, y21, y22, y23, y24, y25, y26, y27, y28, y29, y30, y31, y32, y41, y42, y43, y44, y45, y46, y47, y48, y49, y50, y51, x33, x34, x35, x36, x37, x38, x39, x40, rfl, hJ, pf⟩ := hI
  have h8 := hJ.2.2 (hall 8 (by simp))
  have L3 := L2.grown hJ.1 (by have := L2.size; omega) (fun k hk => by simp at hk; omega)
  clear pf hall
  go_wp2
  refine bodyPost_cellR rfl (w.heap.size + 1 + 1) 0 (ints zs) _ rfl h8.range relUnd rfl (by rw [relInfo]; simp [ints, hz7]) rfl ⟨rfl, L3⟩

/-- What the region has, operation by operation. -/
def Rl5aFct (F S R U : Nat) (x : Nat) (y : Int) (us zs : List Int) (mk : Int) (l : Nat → Bool) (x43 x44 x45 x46 x47 x48 x49 x50 : Value) : Prop :=
 (l 0 = true → x43 = relV us) ∧ (l 1 = true → x44 = .pointer (some ⟨S, 1, none⟩)) ∧ (l 2 = true → x45 = .int .i64 (x : Int)) ∧ (l 3 = true → x46 = .pointer (some ⟨F, 3, none⟩)) ∧ (l 4 = true → x47 = .func (.func 108) #[] #[]) ∧ (l 5 = true → x48 = .agg #[.int .i64 5, .int .i64 (x : Int), .int .i64 y]) ∧ (l 6 = true → x49 = .int .i64 mk) ∧ (l 7 = true → x50 = relV zs)

/-- The invariant of that region. -/
def Rl5aInv (F S R U : Nat) (x : Nat) (y : Int) (us zs : List Int) (mk : Int) (w2 : World) (l : Nat → Bool) (a : Act) (wr : World) : Prop :=
 ∃ y0 y1 y6 y7 y8 y9 y10 y11 y12 y13 y14 y15 y16 y17 y18 y19 y20 y21 y22 y23 y24 y25 y26 y27 y28 y29 y30 y31 y32 y33 y34 y35 y36 y37 y38 y39 y40 y41 y42 y51 x43 x44 x45 x46 x47 x48 x49 x50 : Value,
  a = { tmps := List.toArray (y0 :: y1 :: .pointer (some ⟨F, 0, none⟩) :: .pointer (some ⟨S, 0, none⟩) :: .pointer (some ⟨R, 0, none⟩) :: .pointer (some ⟨U, 0, none⟩) :: y6 :: y7 :: y8 :: y9 :: y10 :: y11 :: y12 :: y13 :: y14 :: y15 :: y16 :: y17 :: y18 :: y19 :: y20 :: y21 :: y22 :: y23 :: y24 :: y25 :: y26 :: y27 :: y28 :: y29 :: y30 :: y31 :: y32 :: y33 :: y34 :: y35 :: y36 :: y37 :: y38 :: y39 :: y40 :: y41 :: y42 :: x43 :: x44 :: x45 :: x46 :: x47 :: x48 :: x49 :: x50 :: y51 :: []), defers := [] } ∧
  RJ w2 R zs (l 8) wr ∧ Rl5aFct F S R U x y us zs mk l x43 x44 x45 x46 x47 x48 x49 x50

theorem relationOf5a (x : Nat) (y : Int) (hx : x < 6) (w : World) :
 Calls Try.prog 147 #[flowsV 108, .agg #[.int .i64 5, .int .i64 (x : Int), .int .i64 y]] w fun e w' => e = .returned (relV (mkL unitL (factN x) (1))) ∧ Below w.heap.size w w' := by
 have hun := fun W => implUnit W
 obtain ⟨mk, hmk⟩ : ∃ mk : Int, mk = 1 := ⟨_, rfl⟩
 have hsm : Small mk := by rw [hmk]; exact ⟨by decide, by decide⟩
 have hfy : ∀ W, Calls Try.prog 108 #[.agg #[.int .i64 5, .int .i64 (x : Int), .int .i64 y]] W fun e w' => e = .returned (.int .i64 mk) ∧ Below W.heap.size W w' := fun W => by rw [hmk]; exact factThatAlwaysHolds 5 x y W
 rw [← hmk]
 clear hmk
 have hmb := fun W => madeBy unitL x mk W rfl hx hsm
 obtain ⟨us, hus⟩ : ∃ us, unitL = us := ⟨_, rfl⟩
 have hu7 : us.length = 7 := by rw [← hus]; rfl
 obtain ⟨zs, hzs⟩ : ∃ zs, mkL unitL (factN x) mk = zs := ⟨_, rfl⟩
 have hz7 : zs.length = 7 := by rw [← hzs]; exact mkL_length _ _ _
 rw [hzs] at hmb ⊢
 rw [hus] at hun hmb
 clear hzs hus hsm
 unfold flowsV
 go_enter Try.func147, Try.ntmps147
 go_wp2_with fail
 go_at_call 142
 refine (hun _).mono ?_
 rintro e w1 ⟨a, rfl, oa, b1⟩
 clear hun
 obtain ⟨g, off, cap, rfl, hrg⟩ := reads_range (reads_own oa) hu7
 have HG : Hid (w1.rangeAt g off (ints us)) := hrg
 clear hrg oa
 have hst := fresh_there w1
 have HT : Hid _ := hst
 clear hst
 obtain ⟨bF, bS, bR, L1, hU1⟩ := three_blocks b1
 clear b1
 have hpre : ∀ (B : Nat) (o : Obj), B < w1.heap.size → w1.heap[B]? = some o → ((fresh7 w1).setCells w1.heap.size 0 (ints us)).heap[B]? = some o := fun B o hB h => by
  refine ((grown_setCells7 _ _ _ _).block _ (by simp; omega) (by simp; omega)).trans ?_
  rw [old_block hB]
  exact h
 have bU : RelAt ((fresh7 w1).setCells w1.heap.size 0 (ints us)) w1.heap.size us := fresh_rel w1 us hu7
 have L2 : Below w.heap.size w ((fresh7 w1).setCells w1.heap.size 0 (ints us)) := fresh_below L1 (by omega) _
 have bF := hpre _ _ (by omega) bF
 have bS := hpre _ _ (by omega) bS
 have bR : RelAt ((fresh7 w1).setCells w1.heap.size 0 (ints us)) (w.heap.size + 1 + 1) (List.replicate 7 0) := hpre _ _ (by omega) bR
 have hUR : w1.heap.size ≠ w.heap.size + 1 + 1 := by omega
 have k0 := (frozen_of_row _ _ 0 _ _ bS)
 have HBF : Hid _ := bF
 have HBR : Hid (RelAt ((fresh7 w1).setCells w1.heap.size 0 (ints us)) (w.heap.size + 1 + 1) (List.replicate 7 0)) := bR
 have HBU : Hid (RelAt ((fresh7 w1).setCells w1.heap.size 0 (ints us)) w1.heap.size us) := bU
 have hk0 : ((fresh7 w1).setCells w1.heap.size 0 (ints us)).cell? ⟨w.heap.size + 1, 0, none⟩ = some (.int .i64 5) := by rw [cell_of_row _ _ 0 _ _ (0, 0) bS]; rfl
 have HBS : Hid _ := bS
 clear hpre bF bS bR bU L1
 go_wp2_with (first
  | refine wpList_arrayAt rfl (.tmp 6) rfl g off cap rfl ?_
  | refine wpList_loadRel rfl (.tmp 7) rfl g off us rfl hu7 HG.out ?_
  | refine wpList_storeRel rfl rfl (.tmp 5) (.tmp 8) rfl w1.heap.size 0 us rfl rfl hu7 HT.out ?_)
 clear HG HT k0 hk0
 generalize hW2 : (fresh7 w1).setCells w1.heap.size 0 (ints us) = w2 at *
 clear hW2
 generalize w1.heap.size = U at *
 have HU : Hid (∀ W, w2.grownBy W (some (w.heap.size + 1 + 1)) → W.rangeAt U 0 (ints us)) := fun W hW => (grown_range HBU.out hUR hW).1
 have HS : Hid (∀ W, w2.grownBy W (some (w.heap.size + 1 + 1)) → W.cell? ⟨w.heap.size + 1, 0, none⟩ = some (.int .i64 5) ∧ W.cell? ⟨w.heap.size + 1, 1, none⟩ = some (.int .i64 (x : Int)) ∧ W.cell? ⟨w.heap.size + 1, 2, none⟩ = some (.int .i64 y)) := fun W hW => by
  have h := (grown_range (vs := [.int .i64 5, .int .i64 (x : Int), .int .i64 y]) HBS.out (by omega) hW).1
  exact ⟨h 0 _ rfl, h 1 _ rfl, h 2 _ rfl⟩
 have HF : Hid (∀ W, w2.grownBy W (some (w.heap.size + 1 + 1)) → W.cell? ⟨w.heap.size, 3, none⟩ = some (.func (.func 108) #[] #[])) := fun W hW => by
  have h := (grown_range (vs := [.func (.func 105) #[] #[], .func (.func 106) #[] #[], .func (.func 107) #[] #[], .func (.func 108) #[] #[]]) HBF.out (by omega) hW).1
  exact h 3 _ rfl
 have HBR2 : Hid (RJ w2 (w.heap.size + 1 + 1) zs false w2.drew) := RJ.drew HBR.out
 clear HBF HBS HBU HBR
 refine wp_region_inv (by kernel_rfl) (by kernel_rfl) (Rl5aInv w.heap.size (w.heap.size + 1) (w.heap.size + 1 + 1) U x y us zs mk w2) ?h0 ?hs ?he
 case h0 => exact ⟨_, _, _, _, _, _, _, _, _, _, _, _, _, _, _, _, _, _, _, _, _, _, _, _, _, _, _, _, _, _, _, _, _, _, _, _, _, _, _, _, _, _, _, _, _, _, _, _, rfl, HBR2.out, by simp, by simp, by simp, by simp, by simp, by simp, by simp, by simp⟩
 case hs =>
  intro l i o a wr ho hI hli haf
  obtain ⟨y0, y1, y6, y7, y8, y9, y10, y11, y12, y13, y14, y15, y16, y17, y18, y19, y20, y21, y22, y23, y24, y25, y26, y27, y28, y29, y30, y31, y32, y33, y34, y35, y36, y37, y38, y39, y40, y41, y42, y51, x43, x44, x45, x46, x47, x48, x49, x50, rfl, hJ, pf⟩ := hI
  have hi : i < 9 := (Array.getElem?_eq_some_iff.1 ho).1
  have hcases : i = 0 ∨ i = 1 ∨ i = 2 ∨ i = 3 ∨ i = 4 ∨ i = 5 ∨ i = 6 ∨ i = 7 ∨ i = 8 := by omega
  rcases hcases with rfl | rfl | rfl | rfl | rfl | rfl | rfl | rfl | rfl
  · simp only [List.getElem?_toArray, List.getElem?_cons_zero, Option.some.injEq] at ho
    subst ho
    have HPF : Hid _ := pf
    clear pf
    go_wp2_with (refine wpList_loadRel rfl (.tmp 5) rfl U 0 us rfl hu7 (HU.out wr hJ.1) ?_)
    obtain ⟨p0, p1, p2, p3, p4, p5, p6, p7⟩ := HPF.out
    exact ⟨_, _, _, _, _, _, _, _, _, _, _, _, _, _, _, _, _, _, _, _, _, _, _, _, _, _, _, _, _, _, _, _, _, _, _, _, _, _, _, _, _, _, _, _, _, _, _, _, rfl, hJ, fun _ => rfl, p1, p2, p3, p4, p5, p6, p7⟩
  · simp only [List.getElem?_toArray, List.getElem?_cons_zero, List.getElem?_cons_succ, Option.some.injEq] at ho
    subst ho
    have HPF : Hid _ := pf
    clear pf
    go_wp2_with (fail)
    obtain ⟨p0, p1, p2, p3, p4, p5, p6, p7⟩ := HPF.out
    exact ⟨_, _, _, _, _, _, _, _, _, _, _, _, _, _, _, _, _, _, _, _, _, _, _, _, _, _, _, _, _, _, _, _, _, _, _, _, _, _, _, _, _, _, _, _, _, _, _, _, rfl, hJ, p0, fun _ => rfl, p2, p3, p4, p5, p6, p7⟩
  · simp only [List.getElem?_toArray, List.getElem?_cons_zero, List.getElem?_cons_succ, Option.some.injEq] at ho
    subst ho
    simp [Region.binds] at haf
    obtain rfl : x44 = _ := pf.2.1 (haf)
    have HPF : Hid _ := pf
    clear pf
    obtain ⟨s0, s1, s2⟩ := HS.out wr hJ.1
    go_wp2_with (fail)
    obtain ⟨p0, p1, p2, p3, p4, p5, p6, p7⟩ := HPF.out
    exact ⟨_, _, _, _, _, _, _, _, _, _, _, _, _, _, _, _, _, _, _, _, _, _, _, _, _, _, _, _, _, _, _, _, _, _, _, _, _, _, _, _, _, _, _, _, _, _, _, _, rfl, hJ, p0, fun _ => rfl, fun _ => rfl, p3, p4, p5, p6, p7⟩
  · simp only [List.getElem?_toArray, List.getElem?_cons_zero, List.getElem?_cons_succ, Option.some.injEq] at ho
    subst ho
    have HPF : Hid _ := pf
    clear pf
    go_wp2_with (fail)
    obtain ⟨p0, p1, p2, p3, p4, p5, p6, p7⟩ := HPF.out
    exact ⟨_, _, _, _, _, _, _, _, _, _, _, _, _, _, _, _, _, _, _, _, _, _, _, _, _, _, _, _, _, _, _, _, _, _, _, _, _, _, _, _, _, _, _, _, _, _, _, _, rfl, hJ, p0, p1, p2, fun _ => rfl, p4, p5, p6, p7⟩
  · simp only [List.getElem?_toArray, List.getElem?_cons_zero, List.getElem?_cons_succ, Option.some.injEq] at ho
    subst ho
    simp [Region.binds] at haf
    obtain rfl : x46 = _ := pf.2.2.2.1 (haf)
    have HPF : Hid _ := pf
    clear pf
    have f1 := HF.out wr hJ.1
    go_wp2_with (fail)
    obtain ⟨p0, p1, p2, p3, p4, p5, p6, p7⟩ := HPF.out
    exact ⟨_, _, _, _, _, _, _, _, _, _, _, _, _, _, _, _, _, _, _, _, _, _, _, _, _, _, _, _, _, _, _, _, _, _, _, _, _, _, _, _, _, _, _, _, _, _, _, _, rfl, hJ, p0, p1, p2, fun _ => rfl, fun _ => rfl, p5, p6, p7⟩
  · simp only [List.getElem?_toArray, List.getElem?_cons_zero, List.getElem?_cons_succ, Option.some.injEq] at ho
    subst ho
    have HPF : Hid _ := pf
    clear pf
    obtain ⟨s0, s1, s2⟩ := HS.out wr hJ.1
    go_wp2_with (fail)
    obtain ⟨p0, p1, p2, p3, p4, p5, p6, p7⟩ := HPF.out
    exact ⟨_, _, _, _, _, _, _, _, _, _, _, _, _, _, _, _, _, _, _, _, _, _, _, _, _, _, _, _, _, _, _, _, _, _, _, _, _, _, _, _, _, _, _, _, _, _, _, _, rfl, hJ, p0, p1, p2, p3, p4, fun _ => rfl, p6, p7⟩
  · simp only [List.getElem?_toArray, List.getElem?_cons_zero, List.getElem?_cons_succ, Option.some.injEq] at ho
    subst ho
    simp [Region.binds] at haf
    obtain rfl : x47 = _ := pf.2.2.2.2.1 (haf.1)
    obtain rfl : x48 = _ := pf.2.2.2.2.2.1 (haf.2)
    have HPF : Hid _ := pf
    clear pf
    go_wp2_with (go_at_call 108; refine (hfy _).mono ?_; rintro e w9 ⟨rfl, b9⟩)
    obtain ⟨p0, p1, p2, p3, p4, p5, p6, p7⟩ := HPF.out
    exact ⟨_, _, _, _, _, _, _, _, _, _, _, _, _, _, _, _, _, _, _, _, _, _, _, _, _, _, _, _, _, _, _, _, _, _, _, _, _, _, _, _, _, _, _, _, _, _, _, _, rfl, RJ.below hJ b9, p0, p1, p2, p3, fun _ => rfl, fun _ => rfl, fun _ => rfl, p7⟩
  · simp only [List.getElem?_toArray, List.getElem?_cons_zero, List.getElem?_cons_succ, Option.some.injEq] at ho
    subst ho
    simp [Region.binds] at haf
    obtain rfl : x43 = _ := pf.1 (haf.1)
    obtain rfl : x45 = _ := pf.2.2.1 (haf.2.1)
    obtain rfl : x49 = _ := pf.2.2.2.2.2.2.1 (haf.2.2)
    have HPF : Hid _ := pf
    clear pf
    go_wp2_with (go_at_call 150; refine (hmb _).mono ?_; rintro e w9 ⟨rfl, b9⟩)
    obtain ⟨p0, p1, p2, p3, p4, p5, p6, p7⟩ := HPF.out
    exact ⟨_, _, _, _, _, _, _, _, _, _, _, _, _, _, _, _, _, _, _, _, _, _, _, _, _, _, _, _, _, _, _, _, _, _, _, _, _, _, _, _, _, _, _, _, _, _, _, _, rfl, RJ.below hJ b9, fun _ => rfl, p1, fun _ => rfl, p3, p4, p5, fun _ => rfl, fun _ => rfl⟩
  · simp only [List.getElem?_toArray, List.getElem?_cons_zero, List.getElem?_cons_succ, Option.some.injEq] at ho
    subst ho
    simp [Region.binds] at haf
    obtain rfl : x50 = _ := pf.2.2.2.2.2.2.2 (haf.1)
    have HPF : Hid _ := pf
    clear pf
    go_wp2_with (refine wpList_storeRel rfl rfl (.tmp 4) (.tmp 50) rfl (w.heap.size + 1 + 1) 0 zs rfl rfl hz7 hJ.there ?_)
    obtain ⟨p0, p1, p2, p3, p4, p5, p6, p7⟩ := HPF.out
    exact ⟨_, _, _, _, _, _, _, _, _, _, _, _, _, _, _, _, _, _, _, _, _, _, _, _, _, _, _, _, _, _, _, _, _, _, _, _, _, _, _, _, _, _, _, _, _, _, _, _, rfl, RJ.store hJ hz7, p0, p1, p2, p3, p4, p5, p6, fun _ => rfl⟩
 case he =>
  intro l a wr hI hall
  obtain ⟨y0, y1, y6, y7, y8, y9, y10, y11, y12, y13, y14, y15, y16, y17, y18, y19, y20, y21, y22, y23, y24, y25, y26, y27, y28, y29, y30, y31, y32, y33, y34, y35, y36, y37, y38, y39, y40, y41, y42, y51, x43, x44, x45, x46, x47, x48, x49, x50, rfl, hJ, pf⟩ := hI
  have h8 := hJ.2.2 (hall 8 (by simp))
  have L3 := L2.grown hJ.1 (by have := L2.size; omega) (fun k hk => by simp at hk; omega)
  clear pf hall
  go_wp2
  refine bodyPost_cellR rfl (w.heap.size + 1 + 1) 0 (ints zs) _ rfl h8.range relUnd rfl (by rw [relInfo]; simp [ints, hz7]) rfl ⟨rfl, L3⟩

/-- What the region has, operation by operation. -/
def Rl5bFct (F S R U : Nat) (x : Nat) (y : Int) (us zs : List Int) (mk : Int) (l : Nat → Bool) (x43 x44 x45 x46 x47 x48 x49 x50 : Value) : Prop :=
 (l 0 = true → x43 = relV us) ∧ (l 1 = true → x44 = .pointer (some ⟨S, 1, none⟩)) ∧ (l 2 = true → x45 = .int .i64 (x : Int)) ∧ (l 3 = true → x46 = .pointer (some ⟨F, 3, none⟩)) ∧ (l 4 = true → x47 = .func (.func 107) #[] #[]) ∧ (l 5 = true → x48 = .agg #[.int .i64 5, .int .i64 (x : Int), .int .i64 y]) ∧ (l 6 = true → x49 = .int .i64 mk) ∧ (l 7 = true → x50 = relV zs)

/-- The invariant of that region. -/
def Rl5bInv (F S R U : Nat) (x : Nat) (y : Int) (us zs : List Int) (mk : Int) (w2 : World) (l : Nat → Bool) (a : Act) (wr : World) : Prop :=
 ∃ y0 y1 y6 y7 y8 y9 y10 y11 y12 y13 y14 y15 y16 y17 y18 y19 y20 y21 y22 y23 y24 y25 y26 y27 y28 y29 y30 y31 y32 y33 y34 y35 y36 y37 y38 y39 y40 y41 y42 y51 x43 x44 x45 x46 x47 x48 x49 x50 : Value,
  a = { tmps := List.toArray (y0 :: y1 :: .pointer (some ⟨F, 0, none⟩) :: .pointer (some ⟨S, 0, none⟩) :: .pointer (some ⟨R, 0, none⟩) :: .pointer (some ⟨U, 0, none⟩) :: y6 :: y7 :: y8 :: y9 :: y10 :: y11 :: y12 :: y13 :: y14 :: y15 :: y16 :: y17 :: y18 :: y19 :: y20 :: y21 :: y22 :: y23 :: y24 :: y25 :: y26 :: y27 :: y28 :: y29 :: y30 :: y31 :: y32 :: y33 :: y34 :: y35 :: y36 :: y37 :: y38 :: y39 :: y40 :: y41 :: y42 :: x43 :: x44 :: x45 :: x46 :: x47 :: x48 :: x49 :: x50 :: y51 :: []), defers := [] } ∧
  RJ w2 R zs (l 8) wr ∧ Rl5bFct F S R U x y us zs mk l x43 x44 x45 x46 x47 x48 x49 x50

theorem relationOf5b (x : Nat) (y : Int) (hx : x < 6) (w : World) :
 Calls Try.prog 147 #[flowsV 107, .agg #[.int .i64 5, .int .i64 (x : Int), .int .i64 y]] w fun e w' => e = .returned (relV (mkL unitL (factN x) (0))) ∧ Below w.heap.size w w' := by
 have hun := fun W => implUnit W
 obtain ⟨mk, hmk⟩ : ∃ mk : Int, mk = 0 := ⟨_, rfl⟩
 have hsm : Small mk := by rw [hmk]; exact ⟨by decide, by decide⟩
 have hfy : ∀ W, Calls Try.prog 107 #[.agg #[.int .i64 5, .int .i64 (x : Int), .int .i64 y]] W fun e w' => e = .returned (.int .i64 mk) ∧ Below W.heap.size W w' := fun W => by rw [hmk]; exact noFact 5 x y W
 rw [← hmk]
 clear hmk
 have hmb := fun W => madeBy unitL x mk W rfl hx hsm
 obtain ⟨us, hus⟩ : ∃ us, unitL = us := ⟨_, rfl⟩
 have hu7 : us.length = 7 := by rw [← hus]; rfl
 obtain ⟨zs, hzs⟩ : ∃ zs, mkL unitL (factN x) mk = zs := ⟨_, rfl⟩
 have hz7 : zs.length = 7 := by rw [← hzs]; exact mkL_length _ _ _
 rw [hzs] at hmb ⊢
 rw [hus] at hun hmb
 clear hzs hus hsm
 unfold flowsV
 go_enter Try.func147, Try.ntmps147
 go_wp2_with fail
 go_at_call 142
 refine (hun _).mono ?_
 rintro e w1 ⟨a, rfl, oa, b1⟩
 clear hun
 obtain ⟨g, off, cap, rfl, hrg⟩ := reads_range (reads_own oa) hu7
 have HG : Hid (w1.rangeAt g off (ints us)) := hrg
 clear hrg oa
 have hst := fresh_there w1
 have HT : Hid _ := hst
 clear hst
 obtain ⟨bF, bS, bR, L1, hU1⟩ := three_blocks b1
 clear b1
 have hpre : ∀ (B : Nat) (o : Obj), B < w1.heap.size → w1.heap[B]? = some o → ((fresh7 w1).setCells w1.heap.size 0 (ints us)).heap[B]? = some o := fun B o hB h => by
  refine ((grown_setCells7 _ _ _ _).block _ (by simp; omega) (by simp; omega)).trans ?_
  rw [old_block hB]
  exact h
 have bU : RelAt ((fresh7 w1).setCells w1.heap.size 0 (ints us)) w1.heap.size us := fresh_rel w1 us hu7
 have L2 : Below w.heap.size w ((fresh7 w1).setCells w1.heap.size 0 (ints us)) := fresh_below L1 (by omega) _
 have bF := hpre _ _ (by omega) bF
 have bS := hpre _ _ (by omega) bS
 have bR : RelAt ((fresh7 w1).setCells w1.heap.size 0 (ints us)) (w.heap.size + 1 + 1) (List.replicate 7 0) := hpre _ _ (by omega) bR
 have hUR : w1.heap.size ≠ w.heap.size + 1 + 1 := by omega
 have k0 := (frozen_of_row _ _ 0 _ _ bS)
 have HBF : Hid _ := bF
 have HBR : Hid (RelAt ((fresh7 w1).setCells w1.heap.size 0 (ints us)) (w.heap.size + 1 + 1) (List.replicate 7 0)) := bR
 have HBU : Hid (RelAt ((fresh7 w1).setCells w1.heap.size 0 (ints us)) w1.heap.size us) := bU
 have hk0 : ((fresh7 w1).setCells w1.heap.size 0 (ints us)).cell? ⟨w.heap.size + 1, 0, none⟩ = some (.int .i64 5) := by rw [cell_of_row _ _ 0 _ _ (0, 0) bS]; rfl
 have HBS : Hid _ := bS
 clear hpre bF bS bR bU L1
 go_wp2_with (first
  | refine wpList_arrayAt rfl (.tmp 6) rfl g off cap rfl ?_
  | refine wpList_loadRel rfl (.tmp 7) rfl g off us rfl hu7 HG.out ?_
  | refine wpList_storeRel rfl rfl (.tmp 5) (.tmp 8) rfl w1.heap.size 0 us rfl rfl hu7 HT.out ?_)
 clear HG HT k0 hk0
 generalize hW2 : (fresh7 w1).setCells w1.heap.size 0 (ints us) = w2 at *
 clear hW2
 generalize w1.heap.size = U at *
 have HU : Hid (∀ W, w2.grownBy W (some (w.heap.size + 1 + 1)) → W.rangeAt U 0 (ints us)) := fun W hW => (grown_range HBU.out hUR hW).1
 have HS : Hid (∀ W, w2.grownBy W (some (w.heap.size + 1 + 1)) → W.cell? ⟨w.heap.size + 1, 0, none⟩ = some (.int .i64 5) ∧ W.cell? ⟨w.heap.size + 1, 1, none⟩ = some (.int .i64 (x : Int)) ∧ W.cell? ⟨w.heap.size + 1, 2, none⟩ = some (.int .i64 y)) := fun W hW => by
  have h := (grown_range (vs := [.int .i64 5, .int .i64 (x : Int), .int .i64 y]) HBS.out (by omega) hW).1
  exact ⟨h 0 _ rfl, h 1 _ rfl, h 2 _ rfl⟩
 have HF : Hid (∀ W, w2.grownBy W (some (w.heap.size + 1 + 1)) → W.cell? ⟨w.heap.size, 3, none⟩ = some (.func (.func 107) #[] #[])) := fun W hW => by
  have h := (grown_range (vs := [.func (.func 105) #[] #[], .func (.func 106) #[] #[], .func (.func 107) #[] #[], .func (.func 107) #[] #[]]) HBF.out (by omega) hW).1
  exact h 3 _ rfl
 have HBR2 : Hid (RJ w2 (w.heap.size + 1 + 1) zs false w2.drew) := RJ.drew HBR.out
 clear HBF HBS HBU HBR
 refine wp_region_inv (by kernel_rfl) (by kernel_rfl) (Rl5bInv w.heap.size (w.heap.size + 1) (w.heap.size + 1 + 1) U x y us zs mk w2) ?h0 ?hs ?he
 case h0 => exact ⟨_, _, _, _, _, _, _, _, _, _, _, _, _, _, _, _, _, _, _, _, _, _, _, _, _, _, _, _, _, _, _, _, _, _, _, _, _, _, _, _, _, _, _, _, _, _, _, _, rfl, HBR2.out, by simp, by simp, by simp, by simp, by simp, by simp, by simp, by simp⟩
 case hs =>
  intro l i o a wr ho hI hli haf
  obtain ⟨y0, y1, y6, y7, y8, y9, y10, y11, y12, y13, y14, y15, y16, y17, y18, y19, y20, y21, y22, y23, y24, y25, y26, y27, y28, y29, y30, y31, y32, y33, y34, y35, y36, y37, y38, y39, y40, y41, y42, y51, x43, x44, x45, x46, x47, x48, x49, x50, rfl, hJ, pf⟩ := hI
  have hi : i < 9 := (Array.getElem?_eq_some_iff.1 ho).1
  have hcases : i = 0 ∨ i = 1 ∨ i = 2 ∨ i = 3 ∨ i = 4 ∨ i = 5 ∨ i = 6 ∨ i = 7 ∨ i = 8 := by omega
  rcases hcases with rfl | rfl | rfl | rfl | rfl | rfl | rfl | rfl | rfl
  · simp only [List.getElem?_toArray, List.getElem?_cons_zero, Option.some.injEq] at ho
    subst ho
    have HPF : Hid _ := pf
    clear pf
    go_wp2_with (refine wpList_loadRel rfl (.tmp 5) rfl U 0 us rfl hu7 (HU.out wr hJ.1) ?_)
    obtain ⟨p0, p1, p2, p3, p4, p5, p6, p7⟩ := HPF.out
    exact ⟨_, _, _, _, _, _, _, _, _, _, _, _, _, _, _, _, _, _, _, _, _, _, _, _, _, _, _, _, _, _, _, _, _, _, _, _, _, _, _, _, _, _, _, _, _, _, _, _, rfl, hJ, fun _ => rfl, p1, p2, p3, p4, p5, p6, p7⟩
  · simp only [List.getElem?_toArray, List.getElem?_cons_zero, List.getElem?_cons_succ, Option.some.injEq] at ho
    subst ho
    have HPF : Hid _ := pf
    clear pf
    go_wp2_with (fail)
    obtain ⟨p0, p1, p2, p3, p4, p5, p6, p7⟩ := HPF.out
    exact ⟨_, _, _, _, _, _, _, _, _, _, _, _, _, _, _, _, _, _, _, _, _, _, _, _, _, _, _, _, _, _, _, _, _, _, _, _, _, _, _, _, _, _, _, _, _, _, _, _, rfl, hJ, p0, fun _ => rfl, p2, p3, p4, p5, p6, p7⟩
  · simp only [List.getElem?_toArray, List.getElem?_cons_zero, List.getElem?_cons_succ, Option.some.injEq] at ho
    subst ho
    simp [Region.binds] at haf
    obtain rfl : x44 = _ := pf.2.1 (haf)
    have HPF : Hid _ := pf
    clear pf
    obtain ⟨s0, s1, s2⟩ := HS.out wr hJ.1
    go_wp2_with (fail)
    obtain ⟨p0, p1, p2, p3, p4, p5, p6, p7⟩ := HPF.out
    exact ⟨_, _, _, _, _, _, _, _, _, _, _, _, _, _, _, _, _, _, _, _, _, _, _, _, _, _, _, _, _, _, _, _, _, _, _, _, _, _, _, _, _, _, _, _, _, _, _, _, rfl, hJ, p0, fun _ => rfl, fun _ => rfl, p3, p4, p5, p6, p7⟩
  · simp only [List.getElem?_toArray, List.getElem?_cons_zero, List.getElem?_cons_succ, Option.some.injEq] at ho
    subst ho
    have HPF : Hid _ := pf
    clear pf
    go_wp2_with (fail)
    obtain ⟨p0, p1, p2, p3, p4, p5, p6, p7⟩ := HPF.out
    exact ⟨_, _, _, _, _, _, _, _, _, _, _, _, _, _, _, _, _, _, _, _, _, _, _, _, _, _, _, _, _, _, _, _, _, _, _, _, _, _, _, _, _, _, _, _, _, _, _, _, rfl, hJ, p0, p1, p2, fun _ => rfl, p4, p5, p6, p7⟩
  · simp only [List.getElem?_toArray, List.getElem?_cons_zero, List.getElem?_cons_succ, Option.some.injEq] at ho
    subst ho
    simp [Region.binds] at haf
    obtain rfl : x46 = _ := pf.2.2.2.1 (haf)
    have HPF : Hid _ := pf
    clear pf
    have f1 := HF.out wr hJ.1
    go_wp2_with (fail)
    obtain ⟨p0, p1, p2, p3, p4, p5, p6, p7⟩ := HPF.out
    exact ⟨_, _, _, _, _, _, _, _, _, _, _, _, _, _, _, _, _, _, _, _, _, _, _, _, _, _, _, _, _, _, _, _, _, _, _, _, _, _, _, _, _, _, _, _, _, _, _, _, rfl, hJ, p0, p1, p2, fun _ => rfl, fun _ => rfl, p5, p6, p7⟩
  · simp only [List.getElem?_toArray, List.getElem?_cons_zero, List.getElem?_cons_succ, Option.some.injEq] at ho
    subst ho
    have HPF : Hid _ := pf
    clear pf
    obtain ⟨s0, s1, s2⟩ := HS.out wr hJ.1
    go_wp2_with (fail)
    obtain ⟨p0, p1, p2, p3, p4, p5, p6, p7⟩ := HPF.out
    exact ⟨_, _, _, _, _, _, _, _, _, _, _, _, _, _, _, _, _, _, _, _, _, _, _, _, _, _, _, _, _, _, _, _, _, _, _, _, _, _, _, _, _, _, _, _, _, _, _, _, rfl, hJ, p0, p1, p2, p3, p4, fun _ => rfl, p6, p7⟩
  · simp only [List.getElem?_toArray, List.getElem?_cons_zero, List.getElem?_cons_succ, Option.some.injEq] at ho
    subst ho
    simp [Region.binds] at haf
    obtain rfl : x47 = _ := pf.2.2.2.2.1 (haf.1)
    obtain rfl : x48 = _ := pf.2.2.2.2.2.1 (haf.2)
    have HPF : Hid _ := pf
    clear pf
    go_wp2_with (go_at_call 107; refine (hfy _).mono ?_; rintro e w9 ⟨rfl, b9⟩)
    obtain ⟨p0, p1, p2, p3, p4, p5, p6, p7⟩ := HPF.out
    exact ⟨_, _, _, _, _, _, _, _, _, _, _, _, _, _, _, _, _, _, _, _, _, _, _, _, _, _, _, _, _, _, _, _, _, _, _, _, _, _, _, _, _, _, _, _, _, _, _, _, rfl, RJ.below hJ b9, p0, p1, p2, p3, fun _ => rfl, fun _ => rfl, fun _ => rfl, p7⟩
  · simp only [List.getElem?_toArray, List.getElem?_cons_zero, List.getElem?_cons_succ, Option.some.injEq] at ho
    subst ho
    simp [Region.binds] at haf
    obtain rfl : x43 = _ := pf.1 (haf.1)
    obtain rfl : x45 = _ := pf.2.2.1 (haf.2.1)
    obtain rfl : x49 = _ := pf.2.2.2.2.2.2.1 (haf.2.2)
    have HPF : Hid _ := pf
    clear pf
    go_wp2_with (go_at_call 150; refine (hmb _).mono ?_; rintro e w9 ⟨rfl, b9⟩)
    obtain ⟨p0, p1, p2, p3, p4, p5, p6, p7⟩ := HPF.out
    exact ⟨_, _, _, _, _, _, _, _, _, _, _, _, _, _, _, _, _, _, _, _, _, _, _, _, _, _, _, _, _, _, _, _, _, _, _, _, _, _, _, _, _, _, _, _, _, _, _, _, rfl, RJ.below hJ b9, fun _ => rfl, p1, fun _ => rfl, p3, p4, p5, fun _ => rfl, fun _ => rfl⟩
  · simp only [List.getElem?_toArray, List.getElem?_cons_zero, List.getElem?_cons_succ, Option.some.injEq] at ho
    subst ho
    simp [Region.binds] at haf
    obtain rfl : x50 = _ := pf.2.2.2.2.2.2.2 (haf.1)
    have HPF : Hid _ := pf
    clear pf
    go_wp2_with (refine wpList_storeRel rfl rfl (.tmp 4) (.tmp 50) rfl (w.heap.size + 1 + 1) 0 zs rfl rfl hz7 hJ.there ?_)
    obtain ⟨p0, p1, p2, p3, p4, p5, p6, p7⟩ := HPF.out
    exact ⟨_, _, _, _, _, _, _, _, _, _, _, _, _, _, _, _, _, _, _, _, _, _, _, _, _, _, _, _, _, _, _, _, _, _, _, _, _, _, _, _, _, _, _, _, _, _, _, _, rfl, RJ.store hJ hz7, p0, p1, p2, p3, p4, p5, p6, fun _ => rfl⟩
 case he =>
  intro l a wr hI hall
  obtain ⟨y0, y1, y6, y7, y8, y9, y10, y11, y12, y13, y14, y15, y16, y17, y18, y19, y20, y21, y22, y23, y24, y25, y26, y27, y28, y29, y30, y31, y32, y33, y34, y35, y36, y37, y38, y39, y40, y41, y42, y51, x43, x44, x45, x46, x47, x48, x49, x50, rfl, hJ, pf⟩ := hI
  have h8 := hJ.2.2 (hall 8 (by simp))
  have L3 := L2.grown hJ.1 (by have := L2.size; omega) (fun k hk => by simp at hk; omega)
  clear pf hall
  go_wp2
  refine bodyPost_cellR rfl (w.heap.size + 1 + 1) 0 (ints zs) _ rfl h8.range relUnd rfl (by rw [relInfo]; simp [ints, hz7]) rfl ⟨rfl, L3⟩

end Go.Proofs.Ytnjbihfceckpfaa
