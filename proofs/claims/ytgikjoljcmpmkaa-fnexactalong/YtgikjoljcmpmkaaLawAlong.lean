/-
  The law FnExactAlong: at every argument Along answers as the specification, and writes into no argument.
-/
import Derived.Test.YtgikjoljcmpmkaaImplAlong
import Derived.Test.YtgikjoljcmpmkaaToInts
namespace Go.Proofs.Ytgikjoljcmpmkaa
open Go.ChangeShapes Go.WideShapes Go.ChangeAt Go.RowKit
set_option linter.unusedVariables false
set_option maxHeartbeats 2000000

theorem walkAlong (ss : List Stm) (c s : Int) (ys : List Int) (v z : Value) (w : World) (hl : ss.length ≤ maxLen) (hy : ys.length ≤ maxLen) (hv : Reads3 w v ss) (hz : Reads w z (ints ys)) :
    Calls Try.prog 3 #[.agg #[v], .int .i64 c, z, .int .i64 s] w fun e w' => e = .returned (.bool true) ∧ Below w.heap.size w w' := by
  have hsp := specAlong ss c s ys
  have him := implAlong ss c s ys
  revert hsp him
  generalize alongAns ss c ys s = A
  intro hsp him
  obtain ⟨ao, cap, hv0, _⟩ := id hv
  obtain ⟨zo, zc, hz0, _⟩ := id hz
  rw [ints_length] at hz0
  have hsz := szProc ss.length ao cap 1048576
  have b0 : Below w.heap.size w (w.alloc (.cells #[v] 24)) := by go_grown
  have s0 : (w.alloc (.cells #[v] 24)).heap.size = w.heap.size + 1 := by simp
  have B0 := heap_alloc_new w (.cells #[v] 24)
  rw [← hv0] at hsz
  clear hv0
  have hy' : (ys.length : Int) ≤ 9223372036854775807 := by unfold maxLen at hy; omega
  by_cases hlong : (1048576 : Int) < (ys.length : Int)
  · subst hz0
    go_enter Try.func3, Try.ntmps3
    go_wp2
    go_ret
    exact ⟨rfl, by go_grown⟩
  have hyl : ys.length ≤ 1048576 := by omega
  have hti : ∀ W, Below w.heap.size w W → _ := fun W hW => toInt64S ys z W hyl (reads_below hz hW)
  by_cases hlt : (1048576 : Int) < (ss.length : Int)
  · rw [if_pos hlt] at hsz
    subst hz0
    go_enter Try.func3, Try.ntmps3
    go_wp2_with (go_at_call 7; refine (hsz _ hl (by omega) (by omega)).mono ?_; rintro e w1 ⟨rfl, b1⟩)
    go_ret
    exact ⟨rfl, b0.trans (b1.mono (by omega))⟩
  rw [if_neg hlt] at hsz
  have hx : (decide ((1048576 : Int) - (ss.length : Int) < 0)) = false := by simp; omega
  have hl' : ss.length ≤ 1048576 := by omega
  subst hz0
  go_enter Try.func3, Try.ntmps3
  go_wp2_with fail
  go_at_call 7
  refine (hsz _ hl (by omega) (by omega)).mono ?_
  rintro e w1 ⟨rfl, b1⟩
  clear hsz
  have s1 := b1.size
  have L1 : Below w.heap.size w w1 := b0.trans (b1.mono (by omega))
  have H1 := (b1.block w.heap.size (by omega)).trans B0
  obtain ⟨c1, f1⟩ := one_cell H1
  go_wp2_with fail
  go_at_call 9
  refine (toProc ss v w1 hl' (reads3_below hv L1)).mono ?_
  rintro e w2 ⟨u, rfl, ou, b2⟩
  have s2 := b2.size
  have L2 : Below w.heap.size w w2 := L1.trans (b2.mono (by omega))
  have H2 : Hid _ := (b2.block w.heap.size (by omega)).trans H1
  clear c1 f1 H1
  go_wp2_with fail
  go_at_call 10
  refine (hti w2 L2).mono ?_
  rintro e w2b ⟨y1, rfl, oy1, b2b⟩
  have s2b := b2b.size
  have L2b : Below w.heap.size w w2b := L2.trans (b2b.mono (by omega))
  have H2b : Hid _ := (b2b.block w.heap.size (by omega)).trans H2.out
  clear H2
  go_wp2_with fail
  go_at_call 8
  refine (hsp u _ w2b hl hy (reads3_below (reads3_own ou) b2b) (reads_own oy1)).mono ?_
  rintro e w3 ⟨rfl, b3⟩
  have s3 := b3.size
  have L3 : Below w.heap.size w w3 := L2b.trans (b3.mono (by omega))
  have H3 : Hid _ := (b3.block w.heap.size (by omega)).trans H2b.out
  obtain ⟨c1, f1⟩ := one_cell H3.out
  clear H2b ou oy1
  go_wp2_with fail
  go_at_call 9
  refine (toProc ss v w3 hl' (reads3_below hv L3)).mono ?_
  rintro e w4 ⟨x, rfl, ox, b4⟩
  have s4 := b4.size
  have L4 : Below w.heap.size w w4 := L3.trans (b4.mono (by omega))
  have H4 : Hid _ := (b4.block w.heap.size (by omega)).trans H3.out
  clear c1 f1 H3
  have L5 : Below w.heap.size w (w4.alloc (.cells #[x] 30)) := L4.alloc (by omega) _
  have b5 : Below w4.heap.size w4 (w4.alloc (.cells #[x] 30)) := by go_grown
  have s5 : (w4.alloc (.cells #[x] 30)).heap.size = w4.heap.size + 1 := by simp
  have H5 : Hid _ := (b5.block w.heap.size (by omega)).trans H4.out
  have X5 : Hid _ := heap_alloc_new w4 (.cells #[x] 30)
  have ox := own_kept ox b5
  obtain ⟨xa, xn, xc, rfl⟩ := own_slice ox
  clear H4
  go_wp2_with fail
  go_at_call 10
  refine (hti _ L5).mono ?_
  rintro e w5 ⟨y2, rfl, oy2, b5b⟩
  have s5b := b5b.size
  have L5b : Below w.heap.size w w5 := L5.trans (b5b.mono (by omega))
  have H5b : Hid _ := (b5b.block w.heap.size (by omega)).trans H5.out
  have X5b : Hid _ := (b5b.block w4.heap.size (by omega)).trans X5.out
  have ox := own_kept ox b5b
  obtain ⟨c2, f2⟩ := one_cell X5b.out
  clear H5 X5
  go_wp2_with fail
  go_at_call 11
  refine (him _ _ _ hl hy (reads3_own ox) (reads_own oy2) (fun _ _ _ e => by cases e; exact Nat.le_refl _)).mono ?_
  rintro e w6 ⟨rfl, b6⟩
  have s6 := b6.size
  have L6 : Below w.heap.size w w6 := L5b.trans (b6.mono (by omega))
  have H6 : Hid _ := (b6.block w.heap.size (by omega)).trans H5b.out
  have X6 : Hid _ := (b6.block w4.heap.size (by omega)).trans X5b.out
  have ox := own_kept ox b6
  have oy2 := own_kept oy2 b6
  clear H5b X5b c2 f2
  obtain ⟨c1, f1⟩ := one_cell H6.out
  obtain ⟨c2, f2⟩ := one_cell X6.out
  have z1 : w.heap.size < w6.heap.size := by omega
  have z2 : w4.heap.size < w6.heap.size := by omega
  have ht : ∀ W, Below w6.heap.size w6 W → _ := fun W hW => toProc ss v W hl' (reads3_below (reads3_below hv L6) hW)
  have rx := reads3_own ox
  go_wp2_with fail
  go_region_with (first
    | (go_at_call 9; refine (ht _ (by go_grown)).mono ?_; rintro e w8 ⟨y, rfl, oy, b8⟩; have M8 : Below w6.heap.size w6 w8 := Below.trans (by go_grown) b8; obtain ⟨hc8, hf8⟩ := bcell M8)
    | (go_at_call 12; refine (eqProc ss _ y _ hl (reads3_below rx (Below.trans M8 (by go_grown))) (reads3_below (reads3_own oy) (by go_grown))).mono ?_; rintro e w9 ⟨rfl, b9'⟩; have b9 : Below w6.heap.size w6 w9 := Below.trans (Below.trans M8 (by go_grown)) (b9'.mono M8.size)))
  all_goals
    clear hc8 hf8 c1 f1 c2 f2 oy b8 M8 b9' rx
    have s9 := b9.size
    have L9 : Below w.heap.size w w9 := L6.trans (b9.mono (by omega))
    have oy2 := own_kept oy2 b9
    go_wp2_with fail
    go_at_call 10
    refine (hti _ L9).mono ?_
    rintro e w10 ⟨y3, rfl, oy3, b10⟩
    have s10 := b10.size
    have L10 : Below w.heap.size w w10 := L9.trans (b10.mono (by omega))
    have oy2 := own_kept oy2 b10
    go_wp2_with fail
    go_at_call 13
    refine (eqInt64S ys _ _ _ hy (reads_own oy2) (reads_own oy3)).mono ?_
    rintro e w11 ⟨rfl, b11⟩
    go_wp2
    go_ret
    exact ⟨rfl, L10.trans (b11.mono (by omega))⟩

set_option maxRecDepth 100000 in
theorem liftedFnExactAlong (os : Os) (started : os.Started) (H : Type) (enc : TypeId × Value → H) :
    ReturnsInHanded {} Try.checked os 3 .any (Rows.fnExactAlongSpec.pre6 enc Try.prog Try.f3 Rows.fnExactAlongRow.domain false) (Rows.fnExactAlongSpec.post enc Try.prog Try.f3 false true false false) := by
  refine returnsInHanded_of_change (C := Try.checked) own started (by kernel_rfl) Try.func3
    (ChangeSpec.witness6 (enc := enc) (C := Try.checked) false ⟨#[], #[.agg #[.slice none 0 0], .int .i64 0, .slice none 0 0, .int .i64 0], []⟩ 8 (by kernel_rfl) (by kernel_rfl) (by kernel_rfl) (by kernel_rfl)) ?_
  intro W base args ds gs before hval0 hW hcnd _
  have hval : ∀ (j : Nat) t v, Try.f3.params[j]? = some t → args[j]? = some v → Value.okWide Try.prog W .any base t v := hval0
  have hW' := hW
  obtain ⟨p, q, hA0, hV, rfl, hfz, hnd⟩ := hW
  have hA : DataW.TrodAll enc Try.prog W 0 (fun _ => true) true Try.f3.params.toList args.toList ds p := hA0
  rw [Try.params3] at hA hval
  obtain ⟨v0, vs0, d0, ds0, p0, q0, hargs, rfl, rfl, h0, r0⟩ := trodAll_cons hA
  obtain ⟨v1, vs1, d1, ds1, p1, q1, rfl, rfl, rfl, h1, r1⟩ := trodAll_cons r0
  obtain ⟨v2, vs2, d2, ds2, p2, q2, rfl, rfl, rfl, h2, r2⟩ := trodAll_cons r1
  obtain ⟨v3, vs3, d3, ds3, p3, q3, rfl, rfl, rfl, h3, r3⟩ := trodAll_cons r2
  obtain ⟨rfl, rfl, rfl⟩ := trodAll_nil r3
  obtain rfl : args = #[v0, v1, v2, v3] := by cases args; simp_all
  obtain ⟨rfl, rfl⟩ := trodVars_none hV
  obtain ⟨v, ss, rfl, hr, hl⟩ := open_proc (hval 0 24 v0 rfl rfl) h0
  obtain ⟨c, rfl, _⟩ := open_int Try.underlying2 (hval 1 2 v1 rfl rfl) h1
  obtain ⟨ys, hz, hy⟩ := open_ints_arg (hval 2 25 v2 rfl rfl) h2
  obtain ⟨s, rfl, _⟩ := open_int Try.underlying2 (hval 3 2 v3 rfl rfl) h3
  refine (walkAlong ss c s ys v v2 W hl hy hr hz).mono fun e W' ⟨he, hb⟩ => ?_
  subst he
  refine ⟨_, rfl, law_post (tb := 4) laidOut ?_ hW' rfl Try.underlying4 rfl rfl hb⟩
  exact all_readable (P := Try.prog) (by kernel_rfl)

theorem overFnExactAlong : Rows.fnExactAlongRow.holds Try.pinned (OpenSpec.ofChange Rows.fnExactAlongSpec) :=
  OpenClaim.holds_of_wide 3 Try.f3 rfl rfl rfl rfl rfl rfl rfl ⟨rfl, rfl, rfl, rfl, rfl⟩ rfl rfl rfl rfl rfl (by kernel_rfl) Try.func3 (by kernel_rfl)
    (of_decide_eq_true (by kernel_rfl)) (by unfold Func.isWrapper; first | (rw [if_pos (by decide +kernel)]; kernel_rfl) | (rw [if_neg (by decide +kernel)]; exact ⟨rfl, rfl⟩))
    (fun os started H enc _ => liftedFnExactAlong os started H enc)

/-- ████ THE STATEMENT ████ -/
theorem alongHolds : Rows.FnExactAlongSaid :=
  overFnExactAlong
#print axioms alongHolds

end Go.Proofs.Ytgikjoljcmpmkaa
