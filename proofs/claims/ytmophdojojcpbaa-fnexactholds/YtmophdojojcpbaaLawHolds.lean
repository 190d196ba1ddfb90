/-
  The law FnExactHolds.
-/
import Derived.Test.YtmophdojojcpbaaSpecHolds
import Derived.Test.YtmophdojojcpbaaImplHolds
import Derived.Test.YtmophdojojcpbaaToLists
import Derived.Test.YtmophdojojcpbaaLift
namespace Go.Proofs.Ytmophdojojcpbaa
open Go.ChangeShapes Go.WideShapes Go.ChangeAt Go.RowKit
set_option linter.unusedVariables false
set_option maxHeartbeats 4000000
set_option maxRecDepth 20000

theorem walkHolds (ps : List (List Stm)) (c : Int) (X : List (List Int)) (v xv : Value) (w : World) (hl : ps.length ≤ maxLen) (hp : ∀ p ∈ ps, p.length ≤ maxLen) (hv : ReadsP w v ps) (hXl : X.length ≤ maxLen) (hXx : ∀ x ∈ X, x.length ≤ maxLen) (hx : ReadsSS w xv X) :
    Calls Try.prog 5 #[.agg #[v], .int .i64 c, xv] w fun e w' => e = .returned (.bool true) ∧ Below w.heap.size w w' := by
  obtain ⟨bb, hb⟩ := holdA_some ps c X
  have hsp := specHolds ps c X bb hb
  have him := implHolds ps c X bb hb
  clear hb
  have b0 : Below w.heap.size w (w.alloc (.cells #[v] 41)) := by go_grown
  have s0 : (w.alloc (.cells #[v] 41)).heap.size = w.heap.size + 1 := by simp
  have B0 := heap_alloc_new w (.cells #[v] 41)
  have hsz := szProgramR ps v _ hl hp (readsP_below hv b0)
  obtain ⟨xo, xc, hxv, _⟩ := id hx
  subst hxv
  go_enter Try.func5, Try.ntmps5
  go_wp2_with fail
  go_at_call 18
  refine hsz.mono ?_
  rintro e w1 ⟨z, rfl, hz1, hz, b1⟩
  clear hsz
  have s1 := b1.size
  have L1 : Below w.heap.size w w1 := b0.trans (b1.mono (by omega))
  by_cases h0 : z < 0
  · have hx9 : (decide (z < 0)) = true := by simpa using h0
    clear hz
    go_wp2
    go_ret
    exact ⟨rfl, L1⟩
  have hx9 : (decide (z < 0)) = false := by simpa using h0
  obtain ⟨hl', hp'⟩ := hz (by omega)
  have H1 := (b1.block w.heap.size (by omega)).trans B0
  have hss := szInt64SS X (.slice xo X.length xc) z w1 (by omega) hz1 hXl hXx (readsSS_below hx L1)
  clear hz
  go_wp2_with fail
  go_at_call 27
  refine hss.mono ?_
  rintro e w2 ⟨y, rfl, hy, b2⟩
  clear hss
  have s2 := b2.size
  have L2 : Below w.heap.size w w2 := L1.trans (b2.mono (by omega))
  by_cases h1 : y < 0
  · have hx8 : (decide (y < 0)) = true := by simpa using h1
    clear hy
    go_wp2
    go_ret
    exact ⟨rfl, L2⟩
  have hx8 : (decide (y < 0)) = false := by simpa using h1
  obtain ⟨hX', hXx'⟩ := hy (by omega)
  have H2 := (b2.block w.heap.size (by omega)).trans H1
  obtain ⟨c1, f1⟩ := one_cell H2
  clear hy H1
  have hti : ∀ W, Below w.heap.size w W → _ := fun W hW => toInt64SS X (.slice xo X.length xc) W hX' hXx' (readsSS_below hx hW)
  go_wp2_with fail
  go_at_call 20
  refine (toProgram ps v w2 hl' hp' (readsP_below hv L2)).mono ?_
  rintro e w2a ⟨u, rfl, ou, b2a⟩
  have s2a := b2a.size
  have L2a : Below w.heap.size w w2a := L2.trans (b2a.mono (by omega))
  have H2a : Hid _ := (b2a.block w.heap.size (by omega)).trans H2
  clear c1 f1 H2
  go_wp2_with fail
  go_at_call 28
  refine (hti w2a L2a).mono ?_
  rintro e w2b ⟨y1, uy1, rfl, oy1, b2b⟩
  have s2b := b2b.size
  have L2b : Below w.heap.size w w2b := L2a.trans (b2b.mono (by omega))
  have H2b : Hid _ := (b2b.block w.heap.size (by omega)).trans H2a.out
  clear H2a
  go_wp2_with fail
  go_at_call 14
  refine (hsp u _ w2b hl hp hXl hXx (readsP_below (readsP_own ou) b2b) oy1.reads).mono ?_
  rintro e w3 ⟨rfl, b3⟩
  have s3 := b3.size
  have L3 : Below w.heap.size w w3 := L2b.trans (b3.mono (by omega))
  have H3 : Hid _ := (b3.block w.heap.size (by omega)).trans H2b.out
  obtain ⟨c1, f1⟩ := one_cell H3.out
  clear H2b ou oy1
  go_wp2_with fail
  go_at_call 20
  refine (toProgram ps v w3 hl' hp' (readsP_below hv L3)).mono ?_
  rintro e w4 ⟨x, rfl, ox, b4⟩
  have s4 := b4.size
  have L4 : Below w.heap.size w w4 := L3.trans (b4.mono (by omega))
  have H4 : Hid _ := (b4.block w.heap.size (by omega)).trans H3.out
  clear c1 f1 H3
  have L5 : Below w.heap.size w (w4.alloc (.cells #[x] 26)) := L4.alloc (by omega) _
  have b5 : Below w4.heap.size w4 (w4.alloc (.cells #[x] 26)) := by go_grown
  have s5 : (w4.alloc (.cells #[x] 26)).heap.size = w4.heap.size + 1 := by simp
  have H5 : Hid _ := (b5.block w.heap.size (by omega)).trans H4.out
  have X5 : Hid _ := heap_alloc_new w4 (.cells #[x] 26)
  have ox := ownP_kept ox b5
  obtain ⟨xa, xn, xcp, rfl⟩ := ownP_slice ox
  clear H4
  go_wp2_with fail
  go_at_call 28
  refine (hti _ L5).mono ?_
  rintro e w5 ⟨y2, uy2, rfl, oy2, b5b⟩
  have s5b := b5b.size
  have L5b : Below w.heap.size w w5 := L5.trans (b5b.mono (by omega))
  have H5b : Hid _ := (b5b.block w.heap.size (by omega)).trans H5.out
  have X5b : Hid _ := (b5b.block w4.heap.size (by omega)).trans X5.out
  have ox := ownP_kept ox b5b
  obtain ⟨c2, f2⟩ := one_cell X5b.out
  clear H5 X5
  go_wp2_with fail
  go_at_call 11
  refine (him _ _ _ hl hp hXl hXx (readsP_own ox) oy2.reads).mono ?_
  rintro e w6 ⟨rfl, b6⟩
  have s6 := b6.size
  have L6 : Below w.heap.size w w6 := L5b.trans (b6.mono (by omega))
  have H6 : Hid _ := (b6.block w.heap.size (by omega)).trans H5b.out
  have X6 : Hid _ := (b6.block w4.heap.size (by omega)).trans X5b.out
  have ox := ownP_kept ox b6
  have oy2 := oy2.below b6
  clear H5b X5b c2 f2
  obtain ⟨c1, f1⟩ := one_cell H6.out
  obtain ⟨c2, f2⟩ := one_cell X6.out
  have z1 : w.heap.size < w6.heap.size := by omega
  have z2 : w4.heap.size < w6.heap.size := by omega
  have ht : ∀ W, Below w6.heap.size w6 W → _ := fun W hW => toProgram ps v W hl' hp' (readsP_below (readsP_below hv L6) hW)
  have rx := readsP_own ox
  go_wp2_with fail
  go_region_with (first
    | (go_at_call 20; refine (ht _ (by go_grown)).mono ?_; rintro e w8 ⟨y, rfl, oy, b8⟩; have M8 : Below w6.heap.size w6 w8 := Below.trans (by go_grown) b8; obtain ⟨hc8, hf8⟩ := bcell M8)
    | (go_at_call 23; refine (eqProgram ps _ y _ hl hp (readsP_below rx (Below.trans M8 (by go_grown))) (readsP_below (readsP_own oy) (by go_grown))).mono ?_; rintro e w9 ⟨rfl, b9'⟩; have b9 : Below w6.heap.size w6 w9 := Below.trans (Below.trans M8 (by go_grown)) (b9'.mono M8.size)))
  all_goals
    clear hc8 hf8 c1 f1 c2 f2 oy b8 M8 b9' rx
    have s9 := b9.size
    have L9 : Below w.heap.size w w9 := L6.trans (b9.mono (by omega))
    have oy2 := oy2.below b9
    go_wp2_with fail
    go_at_call 28
    refine (hti _ L9).mono ?_
    rintro e w10 ⟨y3, uy3, rfl, oy3, b10⟩
    have s10 := b10.size
    have L10 : Below w.heap.size w w10 := L9.trans (b10.mono (by omega))
    have oy2 := oy2.below b10
    go_wp2_with fail
    go_at_call 29
    refine (eqInt64SS X _ _ _ hXl hXx oy2.reads oy3.reads).mono ?_
    rintro e w11 ⟨rfl, b11⟩
    go_wp2
    go_ret
    exact ⟨rfl, L10.trans (b11.mono (by omega))⟩

set_option maxRecDepth 100000 in
theorem liftedFnExactHolds (os : Os) (started : os.Started) (H : Type) (enc : TypeId × Value → H) :
    ReturnsInHanded {} Try.checked os 5 .any (Rows.fnExactHoldsSpec.pre6 enc Try.prog Try.f5 Rows.fnExactHoldsRow.domain false) (Rows.fnExactHoldsSpec.post enc Try.prog Try.f5 false true false false) := by
  refine returnsInHanded_of_change (C := Try.checked) own started (by kernel_rfl) Try.func5
    (ChangeSpec.witness6 (enc := enc) (C := Try.checked) false ⟨#[], #[.agg #[.slice none 0 0], .int .i64 0, .slice none 0 0], []⟩ 8 (by kernel_rfl) (by kernel_rfl) (by kernel_rfl) (by kernel_rfl)) ?_
  intro W base args ds gs before hval0 hW hcnd _
  have hval : ∀ (j : Nat) t v, Try.f5.params[j]? = some t → args[j]? = some v → Value.okWide Try.prog W .any base t v := hval0
  have hW' := hW
  obtain ⟨p, q, hA0, hV, rfl, hfz, hnd⟩ := hW
  have hA : DataW.TrodAll enc Try.prog W 0 (fun _ => true) true Try.f5.params.toList args.toList ds p := hA0
  rw [Try.params5] at hA hval
  obtain ⟨v0, vs0, d0, ds0, p0, q0, hargs, rfl, rfl, h0, r0⟩ := trodAll_cons hA
  obtain ⟨v1, vs1, d1, ds1, p1, q1, rfl, rfl, rfl, h1, r1⟩ := trodAll_cons r0
  obtain ⟨v2, vs2, d2, ds2, p2, q2, rfl, rfl, rfl, h2, r2⟩ := trodAll_cons r1
  obtain ⟨rfl, rfl, rfl⟩ := trodAll_nil r2
  obtain rfl : args = #[v0, v1, v2] := by cases args; simp_all
  obtain ⟨rfl, rfl⟩ := trodVars_none hV
  obtain ⟨v, ps, rfl, hr, hl, hq⟩ := open_program (hval 0 41 v0 rfl rfl) h0
  obtain ⟨c, rfl, _⟩ := open_int Try.underlying2 (hval 1 2 v1 rfl rfl) h1
  obtain ⟨X, hxr, hxl, hxx⟩ := open_lists_arg (hval 2 29 v2 rfl rfl) h2
  refine (walkHolds ps c X v v2 W hl hq hr hxl hxx hxr).mono fun e W' ⟨he, hb⟩ => ?_
  subst he
  refine ⟨_, rfl, law_post (tb := 4) laidOut ?_ hW' rfl Try.underlying4 rfl rfl hb⟩
  exact all_readable (P := Try.prog) (by kernel_rfl)

theorem overFnExactHolds : Rows.fnExactHoldsRow.holds Try.pinned (OpenSpec.ofChange Rows.fnExactHoldsSpec) :=
  OpenClaim.holds_of_wide 5 Try.f5 rfl rfl rfl rfl rfl rfl rfl ⟨rfl, rfl, rfl, rfl, rfl⟩ rfl rfl rfl rfl rfl (by kernel_rfl) Try.func5 (by kernel_rfl)
    (of_decide_eq_true (by kernel_rfl)) (by unfold Func.isWrapper; first | (rw [if_pos (by decide +kernel)]; kernel_rfl) | (rw [if_neg (by decide +kernel)]; exact ⟨rfl, rfl⟩))
    (fun os started H enc _ => liftedFnExactHolds os started H enc)

/-- ████ THE STATEMENT ████ -/
theorem holdsHolds : Rows.FnExactHoldsSaid :=
  overFnExactHolds
#print axioms holdsHolds

end Go.Proofs.Ytmophdojojcpbaa
