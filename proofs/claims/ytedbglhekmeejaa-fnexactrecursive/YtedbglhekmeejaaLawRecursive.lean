/-
  The law FnExactRecursive.
-/
import Derived.Test.YtedbglhekmeejaaRecur
import Derived.Test.YtedbglhekmeejaaMarkProg
namespace Go.Proofs.Ytedbglhekmeejaa
open Go.ChangeShapes Go.WideShapes Go.ChangeAt Go.RowKit
set_option linter.unusedVariables false
set_option maxHeartbeats 4000000
set_option maxRecDepth 20000

theorem walkRecursive (ps : List (List Stm)) (i : Int) (v : Value) (w : World) (hl : ps.length ≤ maxLen) (hp : ∀ p ∈ ps, p.length ≤ maxLen) (hv : ReadsP w v ps) :
    Calls Try.prog 6 #[.agg #[v], .int .i64 i] w fun e w' => e = .returned (.bool true) ∧ Below w.heap.size w w' := by
  obtain ⟨q, hq⟩ := relA_some ps
  have hsp := specRecursive ps q i hq
  have him := implRecursive ps q i hq
  revert hsp him
  generalize recAns ps q i = r
  intro hsp him
  have b0 : Below w.heap.size w (w.alloc (.cells #[v] 24)) := by go_grown
  have s0 : (w.alloc (.cells #[v] 24)).heap.size = w.heap.size + 1 := by simp
  have B0 := heap_alloc_new w (.cells #[v] 24)
  have hsz := szProgram ps v _ hl hp (readsP_below hv b0)
  go_enter Try.func6, Try.ntmps6
  go_wp2_with fail
  go_at_call 7
  refine hsz.mono ?_
  rintro e w1 ⟨z, rfl, hz, b1⟩
  clear hsz
  have s1 := b1.size
  have L1 : Below w.heap.size w w1 := b0.trans (b1.mono (by omega))
  by_cases h0 : z < 0
  · have hx : (decide (z < 0)) = true := by simpa using h0
    clear hz
    go_wp2
    go_ret
    exact ⟨rfl, L1⟩
  have hx : (decide (z < 0)) = false := by simpa using h0
  obtain ⟨hl', hp'⟩ := hz (by omega)
  have H1 := (b1.block w.heap.size (by omega)).trans B0
  obtain ⟨c1, f1⟩ := one_cell H1
  go_wp2_with fail
  go_at_call 9
  refine (toProgram ps v w1 hl' hp' (readsP_below hv L1)).mono ?_
  rintro e w2 ⟨u, rfl, ou, b2⟩
  have s2 := b2.size
  have L2 : Below w.heap.size w w2 := L1.trans (b2.mono (by omega))
  have H2 := (b2.block w.heap.size (by omega)).trans H1
  clear c1 f1 H1
  go_wp2_with fail
  go_at_call 23
  refine (hsp u w2 hl hp (readsP_own ou)).mono ?_
  rintro e w3 ⟨rfl, b3⟩
  have s3 := b3.size
  have L3 : Below w.heap.size w w3 := L2.trans (b3.mono (by omega))
  have H3 := (b3.block w.heap.size (by omega)).trans H2
  obtain ⟨c1, f1⟩ := one_cell H3
  clear H2 ou
  go_wp2_with fail
  go_at_call 9
  refine (toProgram ps v w3 hl' hp' (readsP_below hv L3)).mono ?_
  rintro e w4 ⟨x, rfl, ox, b4⟩
  have s4 := b4.size
  have L4 : Below w.heap.size w w4 := L3.trans (b4.mono (by omega))
  have H4 := (b4.block w.heap.size (by omega)).trans H3
  clear c1 f1 H3
  have L5 : Below w.heap.size w (w4.alloc (.cells #[x] 30)) := L4.alloc (by omega) _
  have b5 : Below w4.heap.size w4 (w4.alloc (.cells #[x] 30)) := by go_grown
  have s5 : (w4.alloc (.cells #[x] 30)).heap.size = w4.heap.size + 1 := by simp
  have H5 := (b5.block w.heap.size (by omega)).trans H4
  have X5 := heap_alloc_new w4 (.cells #[x] 30)
  have rx := readsP_below (readsP_own ox) b5
  obtain ⟨xa, xn, xc, rfl⟩ := ownP_slice ox
  go_wp2_with fail
  go_at_call 24
  refine (him _ _ hl hp rx).mono ?_
  rintro e w6 ⟨rfl, b6⟩
  have s6 := b6.size
  have L6 : Below w.heap.size w w6 := L5.trans (b6.mono (by omega))
  have H6 := (b6.block w.heap.size (by omega)).trans H5
  have X6 := (b6.block w4.heap.size (by omega)).trans X5
  have rx6 := readsP_below rx b6
  obtain ⟨c1, f1⟩ := one_cell H6
  obtain ⟨c2, f2⟩ := one_cell X6
  clear H4 H5 H6 X5 X6 rx
  have z1 : w.heap.size < w6.heap.size := by omega
  have z2 : w4.heap.size < w6.heap.size := by omega
  have ht : ∀ W, Below w6.heap.size w6 W → _ := fun W hW => toProgram ps v W hl' hp' (readsP_below (readsP_below hv L6) hW)
  go_wp2_with fail
  go_region_with (first
    | (go_at_call 9; refine (ht _ (by go_grown)).mono ?_; rintro e w7 ⟨y, rfl, oy, b7⟩; have M7 : Below w6.heap.size w6 w7 := Below.trans (by go_grown) b7; obtain ⟨hc7, hf7⟩ := bcell M7)
    | (go_at_call 12; refine (eqProgram ps _ y _ hl hp (readsP_below rx6 (Below.trans M7 (by go_grown))) (readsP_below (readsP_own oy) (by go_grown))).mono ?_; rintro e w8 ⟨rfl, b8⟩; have M8 : Below w6.heap.size w6 w8 := Below.trans (Below.trans M7 (by go_grown)) (b8.mono M7.size)))
  all_goals
    go_wp2
    go_ret
    exact ⟨rfl, L6.trans (M8.mono (by omega))⟩


set_option maxRecDepth 100000 in
theorem liftedFnExactRecursive (os : Os) (started : os.Started) (H : Type) (enc : TypeId × Value → H) :
    ReturnsInHanded {} Try.checked os 6 .any (Rows.fnExactRecursiveSpec.pre6 enc Try.prog Try.f6 Rows.fnExactRecursiveRow.domain false) (Rows.fnExactRecursiveSpec.post enc Try.prog Try.f6 false true false false) := by
  refine returnsInHanded_of_change (C := Try.checked) own started (by kernel_rfl) Try.func6
    (ChangeSpec.witness6 (enc := enc) (C := Try.checked) false ⟨#[], #[.agg #[.slice none 0 0], .int .i64 0], []⟩ 8 (by kernel_rfl) (by kernel_rfl) (by kernel_rfl) (by kernel_rfl)) ?_
  intro W base args ds gs before hval0 hW hcnd _
  have hval : ∀ (j : Nat) t v, Try.f6.params[j]? = some t → args[j]? = some v → Value.okWide Try.prog W .any base t v := hval0
  have hW' := hW
  obtain ⟨p, q, hA0, hV, rfl, hfz, hnd⟩ := hW
  have hA : DataW.TrodAll enc Try.prog W 0 (fun _ => true) true Try.f6.params.toList args.toList ds p := hA0
  rw [Try.params6] at hA hval
  obtain ⟨v0, vs0, d0, ds0, p0, q0, hargs, rfl, rfl, h0, r0⟩ := trodAll_cons hA
  obtain ⟨v1, vs1, d1, ds1, p1, q1, rfl, rfl, rfl, h1, r1⟩ := trodAll_cons r0
  obtain ⟨rfl, rfl, rfl⟩ := trodAll_nil r1
  obtain rfl : args = #[v0, v1] := by cases args; simp_all
  obtain ⟨rfl, rfl⟩ := trodVars_none hV
  obtain ⟨v, ps, rfl, hr, hl, hq⟩ := open_program (hval 0 24 v0 rfl rfl) h0
  obtain ⟨i, rfl, _⟩ := open_int Try.underlying2 (hval 1 2 v1 rfl rfl) h1
  refine (walkRecursive ps i v W hl hq hr).mono fun e W' ⟨he, hb⟩ => ?_
  subst he
  refine ⟨_, rfl, law_post (tb := 4) laidOut ?_ hW' rfl Try.underlying4 rfl rfl hb⟩
  exact all_readable (P := Try.prog) (by kernel_rfl)

theorem overFnExactRecursive : Rows.fnExactRecursiveRow.holds Try.pinned (OpenSpec.ofChange Rows.fnExactRecursiveSpec) :=
  OpenClaim.holds_of_wide 6 Try.f6 rfl rfl rfl rfl rfl rfl rfl ⟨rfl, rfl, rfl, rfl, rfl⟩ rfl rfl rfl rfl rfl (by kernel_rfl) Try.func6 (by kernel_rfl)
    (of_decide_eq_true (by kernel_rfl)) (by unfold Func.isWrapper; first | (rw [if_pos (by decide +kernel)]; kernel_rfl) | (rw [if_neg (by decide +kernel)]; exact ⟨rfl, rfl⟩))
    (fun os started H enc _ => liftedFnExactRecursive os started H enc)

/-- ████ THE STATEMENT ████ -/
theorem recursiveHolds : Rows.FnExactRecursiveSaid :=
  overFnExactRecursive
#print axioms recursiveHolds

end Go.Proofs.Ytedbglhekmeejaa
