/-
  The law FnExactAsked.
-/
import Derived.Test.YtnjbihfceckpfaaImplAsk
import Derived.Test.YtnjbihfceckpfaaG45MarkProg
namespace Go.Proofs.Ytnjbihfceckpfaa
open Go.ChangeShapes Go.WideShapes Go.ChangeAt Go.RowKit
set_option linter.unusedVariables false
set_option maxHeartbeats 4000000
set_option maxRecDepth 20000

theorem walkAsked (ps : List (List Stm)) (c p a f : Int) (hwp : Wf p) (hwa : Wf a) (v : Value) (w : World) (hl : ps.length ≤ maxLen) (hp : ∀ p ∈ ps, p.length ≤ maxLen) (hv : ReadsP w v ps) :
    Calls Try.prog 5 #[.agg #[v], .int .i64 c, .int .i64 p, .int .i64 a, .int .i64 f] w fun e w' => e = .returned (.bool true) ∧ Below w.heap.size w w' := by
  obtain ⟨A, hA⟩ := factA_some ps c
  have hsp := specAsked ps c p a f A hA
  have him := implAsked ps c p a f hwp hwa A hA
  revert hsp him
  generalize askAns A p a f = r
  intro hsp him
  have b0 : Below w.heap.size w (w.alloc (.cells #[v] 24)) := by go_grown
  have s0 : (w.alloc (.cells #[v] 24)).heap.size = w.heap.size + 1 := by simp
  have B0 := heap_alloc_new w (.cells #[v] 24)
  have hsz := szProgram ps v _ hl hp (readsP_below hv b0)
  go_enter Try.func5, Try.ntmps5
  go_wp2_with fail
  go_at_call 9
  refine hsz.mono ?_
  rintro e w1 ⟨z, rfl, hz, b1⟩
  clear hsz
  have s1 := b1.size
  have L1 : Below w.heap.size w w1 := b0.trans (b1.mono (by omega))
  by_cases h0 : z < 0
  · have hx : (decide (z < 0)) = true := by simpa using h0
    clear hz
    go_wp2
    go_ret
    exact ⟨rfl, L1⟩
  have hx : (decide (z < 0)) = false := by simpa using h0
  obtain ⟨hl', hp'⟩ := hz (by omega)
  have H1 := (b1.block w.heap.size (by omega)).trans B0
  obtain ⟨c1, f1⟩ := one_cell H1
  go_wp2_with fail
  go_at_call 11
  refine (toProgram ps v w1 hl' hp' (readsP_below hv L1)).mono ?_
  rintro e w2 ⟨u, rfl, ou, b2⟩
  have s2 := b2.size
  have L2 : Below w.heap.size w w2 := L1.trans (b2.mono (by omega))
  have H2 := (b2.block w.heap.size (by omega)).trans H1
  clear c1 f1 H1
  go_wp2_with fail
  go_at_call 23
  refine (hsp u w2 hl hp (readsP_own ou)).mono ?_
  rintro e w3 ⟨rfl, b3⟩
  have s3 := b3.size
  have L3 : Below w.heap.size w w3 := L2.trans (b3.mono (by omega))
  have H3 := (b3.block w.heap.size (by omega)).trans H2
  obtain ⟨c1, f1⟩ := one_cell H3
  clear H2 ou
  go_wp2_with fail
  go_at_call 11
  refine (toProgram ps v w3 hl' hp' (readsP_below hv L3)).mono ?_
  rintro e w4 ⟨x, rfl, ox, b4⟩
  have s4 := b4.size
  have L4 : Below w.heap.size w w4 := L3.trans (b4.mono (by omega))
  have H4 := (b4.block w.heap.size (by omega)).trans H3
  clear c1 f1 H3
  have L5 : Below w.heap.size w (w4.alloc (.cells #[x] 30)) := L4.alloc (by omega) _
  have b5 : Below w4.heap.size w4 (w4.alloc (.cells #[x] 30)) := by go_grown
  have s5 : (w4.alloc (.cells #[x] 30)).heap.size = w4.heap.size + 1 := by simp
  have H5 := (b5.block w.heap.size (by omega)).trans H4
  have X5 := heap_alloc_new w4 (.cells #[x] 30)
  have rx := readsP_below (readsP_own ox) b5
  obtain ⟨xa, xn, xc, rfl⟩ := ownP_slice ox
  go_wp2_with fail
  go_at_call 24
  refine (him _ _ hl hp rx).mono ?_
  rintro e w6 ⟨rfl, b6⟩
  have s6 := b6.size
  have L6 : Below w.heap.size w w6 := L5.trans (b6.mono (by omega))
  have H6 := (b6.block w.heap.size (by omega)).trans H5
  have X6 := (b6.block w4.heap.size (by omega)).trans X5
  have rx6 := readsP_below rx b6
  obtain ⟨c1, f1⟩ := one_cell H6
  obtain ⟨c2, f2⟩ := one_cell X6
  clear H4 H5 H6 X5 X6 rx
  have z1 : w.heap.size < w6.heap.size := by omega
  have z2 : w4.heap.size < w6.heap.size := by omega
  have ht : ∀ W, Below w6.heap.size w6 W → _ := fun W hW => toProgram ps v W hl' hp' (readsP_below (readsP_below hv L6) hW)
  go_wp2_with fail
  go_region_with (first
    | (go_at_call 11; refine (ht _ (by go_grown)).mono ?_; rintro e w7 ⟨y, rfl, oy, b7⟩; have M7 : Below w6.heap.size w6 w7 := Below.trans (by go_grown) b7; obtain ⟨hc7, hf7⟩ := bcell M7)
    | (go_at_call 14; refine (eqProgram ps _ y _ hl hp (readsP_below rx6 (Below.trans M7 (by go_grown))) (readsP_below (readsP_own oy) (by go_grown))).mono ?_; rintro e w8 ⟨rfl, b8⟩; have M8 : Below w6.heap.size w6 w8 := Below.trans (Below.trans M7 (by go_grown)) (b8.mono M7.size)))
  all_goals
    go_wp2
    go_ret
    exact ⟨rfl, L6.trans (M8.mono (by omega))⟩


set_option maxRecDepth 100000 in
theorem liftedFnExactAsked (os : Os) (started : os.Started) (H : Type) (enc : TypeId × Value → H) :
    ReturnsInHanded {} Try.checked os 5 .any (Rows.fnExactAskedSpec.pre6 enc Try.prog Try.f5 Rows.fnExactAskedRow.domain false) (Rows.fnExactAskedSpec.post enc Try.prog Try.f5 false true false false) := by
  refine returnsInHanded_of_change (C := Try.checked) own started (by kernel_rfl) Try.func5
    (ChangeSpec.witness6 (enc := enc) (C := Try.checked) false ⟨#[], #[.agg #[.slice none 0 0], .int .i64 0, .int .i64 0, .int .i64 0, .int .i64 0], []⟩ 8 (by kernel_rfl) (by kernel_rfl) (by kernel_rfl) (by kernel_rfl)) ?_
  intro W base args ds gs before hval0 hW hcnd _
  have hval : ∀ (j : Nat) t v, Try.f5.params[j]? = some t → args[j]? = some v → Value.okWide Try.prog W .any base t v := hval0
  have hW' := hW
  obtain ⟨p, q, hA0, hV, rfl, hfz, hnd⟩ := hW
  have hA : DataW.TrodAll enc Try.prog W 0 (fun _ => true) true Try.f5.params.toList args.toList ds p := hA0
  rw [Try.params5] at hA hval
  obtain ⟨v0, vs0, d0, ds0, p0, q0, hargs, rfl, rfl, h0, r0⟩ := trodAll_cons hA
  obtain ⟨v1, vs1, d1, ds1, p1, q1, rfl, rfl, rfl, h1, r1⟩ := trodAll_cons r0
  obtain ⟨v2, vs2, d2, ds2, p2, q2, rfl, rfl, rfl, h2, r2⟩ := trodAll_cons r1
  obtain ⟨v3, vs3, d3, ds3, p3, q3, rfl, rfl, rfl, h3, r3⟩ := trodAll_cons r2
  obtain ⟨v4, vs4, d4, ds4, p4, q4, rfl, rfl, rfl, h4, r4⟩ := trodAll_cons r3
  obtain ⟨rfl, rfl, rfl⟩ := trodAll_nil r4
  obtain rfl : args = #[v0, v1, v2, v3, v4] := by cases args; simp_all
  obtain ⟨rfl, rfl⟩ := trodVars_none hV
  obtain ⟨v, ps, rfl, hr, hl, hq⟩ := open_program (hval 0 24 v0 rfl rfl) h0
  obtain ⟨c, rfl, _, _, hw1⟩ := open_int Try.underlying2 (hval 1 2 v1 rfl rfl) h1
  obtain ⟨p9, rfl, _, _, hw2⟩ := open_int Try.underlying2 (hval 2 2 v2 rfl rfl) h2
  obtain ⟨a9, rfl, _, _, hw3⟩ := open_int Try.underlying2 (hval 3 2 v3 rfl rfl) h3
  obtain ⟨f9, rfl, _, _, hw4⟩ := open_int Try.underlying2 (hval 4 2 v4 rfl rfl) h4
  refine (walkAsked ps c p9 a9 f9 hw2 hw3 v W hl hq hr).mono fun e W' ⟨he, hb⟩ => ?_
  subst he
  refine ⟨_, rfl, law_post (tb := 4) laidOut ?_ hW' rfl Try.underlying4 rfl rfl hb⟩
  exact all_readable (P := Try.prog) (by kernel_rfl)

theorem overFnExactAsked : Rows.fnExactAskedRow.holds Try.pinned (OpenSpec.ofChange Rows.fnExactAskedSpec) :=
  OpenClaim.holds_of_wide 5 Try.f5 rfl rfl rfl rfl rfl rfl rfl ⟨rfl, rfl, rfl, rfl, rfl⟩ rfl rfl rfl rfl rfl (by kernel_rfl) Try.func5 (by kernel_rfl)
    (of_decide_eq_true (by kernel_rfl)) (by unfold Func.isWrapper; first | (rw [if_pos (by decide +kernel)]; kernel_rfl) | (rw [if_neg (by decide +kernel)]; exact ⟨rfl, rfl⟩))
    (fun os started H enc _ => liftedFnExactAsked os started H enc)

/-- ████ THE STATEMENT ████ -/
theorem askedHolds : Rows.FnExactAskedSaid :=
  overFnExactAsked
#print axioms askedHolds

end Go.Proofs.Ytnjbihfceckpfaa
