/-
  The law FnExactWithin: at every argument Within answers as the specification, writes into no argument, and its answer owns its memory.
-/
import Derived.Test.YtfdkhpoicbhgiaaRelTop
import Derived.Test.YtfdkhpoicbhgiaaToInts
namespace Go.Proofs.Ytfdkhpoicbhgiaa
open Go.ChangeShapes Go.WideShapes Go.ChangeAt Go.RowKit
set_option linter.unusedVariables false
set_option linter.unusedSimpArgs false
set_option maxHeartbeats 2000000

theorem walkWithin (xs : List Int) (ys : List Int) (v u : Value) (w : World) (hxs : xs.length ≤ maxLen) (hys : ys.length ≤ maxLen) (rxs : Reads w v (ints xs)) (rys : Reads w u (ints ys)) :
    Calls Try.prog 8 #[v, u] w fun e w' => e = .returned (.bool true) ∧ Below w.heap.size w w' := by
  have hsp := specWithin xs ys
  have him := implWithin xs ys
  revert hsp him
  generalize withinAns xs ys = A
  intro hsp him
  obtain ⟨oxs, cxs, exs, _⟩ := id rxs
  rw [ints_length] at exs
  have mxs : (xs.length : Int) ≤ 9223372036854775807 := by unfold maxLen at hxs; omega
  obtain ⟨oys, cys, eys, _⟩ := id rys
  rw [ints_length] at eys
  have mys : (ys.length : Int) ≤ 9223372036854775807 := by unfold maxLen at hys; omega
  by_cases longxs : (1048576 : Int) < (xs.length : Int)
  · subst exs eys
    go_enter Try.func8, Try.ntmps8
    go_wp2
    go_ret
    exact ⟨rfl, Below.refl _ _⟩
  by_cases longys : (1048576 : Int) < (ys.length : Int)
  · subst exs eys
    go_enter Try.func8, Try.ntmps8
    go_wp2
    go_ret
    exact ⟨rfl, Below.refl _ _⟩
  have lxs : xs.length ≤ 1048576 := by omega
  have txs : ∀ W, Below w.heap.size w W → _ := fun W hW => toInt64S xs v W lxs (reads_below rxs hW)
  have lys : ys.length ≤ 1048576 := by omega
  have tys : ∀ W, Below w.heap.size w W → _ := fun W hW => toInt64S ys u W lys (reads_below rys hW)
  subst exs eys
  go_enter Try.func8, Try.ntmps8
  go_wp2_with fail
  go_at_call 10
  refine (txs w (Below.refl _ _)).mono ?_
  rintro e w1 ⟨axs, rfl, oaxs, b1⟩
  have s1 := b1.size
  have L1 : Below w.heap.size w w1 := b1
  go_wp2_with fail
  go_at_call 10
  refine (tys w1 L1).mono ?_
  rintro e w2 ⟨ays, rfl, oays, b2⟩
  have s2 := b2.size
  have L2 : Below w.heap.size w w2 := L1.trans (b2.mono (by omega))
  have oaxs := own_kept oaxs b2
  go_wp2_with fail
  go_at_call 23
  refine (hsp _ _ w2 hxs hys (reads_own oaxs) (reads_own oays)).mono ?_
  rintro e w3 ⟨rfl, b3⟩
  have s3 := b3.size
  have L3 : Below w.heap.size w w3 := L2.trans (b3.mono (by omega))
  have oaxs := own_kept oaxs b3
  have oays := own_kept oays b3
  clear oaxs oays
  go_wp2_with fail
  go_at_call 10
  refine (txs w3 L3).mono ?_
  rintro e w4 ⟨xxs, rfl, oxxs, b4⟩
  have s4 := b4.size
  have L4 : Below w.heap.size w w4 := L3.trans (b4.mono (by omega))
  go_wp2_with fail
  go_at_call 10
  refine (tys w4 L4).mono ?_
  rintro e w5 ⟨xys, rfl, oxys, b5⟩
  have s5 := b5.size
  have L5 : Below w.heap.size w w5 := L4.trans (b5.mono (by omega))
  have oxxs := own_kept oxxs b5
  go_wp2_with fail
  go_at_call 24
  refine (him _ _ w5 hxs hys (reads_own oxxs) (reads_own oxys)).mono ?_
  rintro e w6 ⟨rfl, b6⟩
  have s6 := b6.size
  have L6 : Below w.heap.size w w6 := L5.trans (b6.mono (by omega))
  have oxxs := own_kept oxxs b6
  have oxys := own_kept oxys b6
  go_wp2_with fail
  go_at_call 10
  refine (txs w6 L6).mono ?_
  rintro e w7 ⟨zxs, rfl, ozxs, b7⟩
  have s7 := b7.size
  have L7 : Below w.heap.size w w7 := L6.trans (b7.mono (by omega))
  have oxxs := own_kept oxxs b7
  have oxys := own_kept oxys b7
  go_wp2_with fail
  go_at_call 12
  refine (eqInt64S xs _ _ _ hxs (reads_own oxxs) (reads_own ozxs)).mono ?_
  rintro e w8 ⟨rfl, b8⟩
  have s8 := b8.size
  have L8 : Below w.heap.size w w8 := L7.trans (b8.mono (by omega))
  have oxxs := own_kept oxxs b8
  have oxys := own_kept oxys b8
  have ozxs := own_kept ozxs b8
  clear ozxs
  go_wp2_with fail
  go_at_call 10
  refine (tys w8 L8).mono ?_
  rintro e w9 ⟨zys, rfl, ozys, b9⟩
  have s9 := b9.size
  have L9 : Below w.heap.size w w9 := L8.trans (b9.mono (by omega))
  have oxxs := own_kept oxxs b9
  have oxys := own_kept oxys b9
  go_wp2_with fail
  go_at_call 12
  refine (eqInt64S ys _ _ _ hys (reads_own oxys) (reads_own ozys)).mono ?_
  rintro e w10 ⟨rfl, b10⟩
  have s10 := b10.size
  have L10 : Below w.heap.size w w10 := L9.trans (b10.mono (by omega))
  have oxxs := own_kept oxxs b10
  have oxys := own_kept oxys b10
  have ozys := own_kept ozys b10
  clear ozys
  go_wp2
  go_ret
  exact ⟨rfl, L10⟩

set_option maxRecDepth 100000 in
theorem liftedFnExactWithin (os : Os) (started : os.Started) (H : Type) (enc : TypeId × Value → H) :
    ReturnsInHanded {} Try.checked os 8 .any (Rows.fnExactWithinSpec.pre6 enc Try.prog Try.f8 Rows.fnExactWithinRow.domain false) (Rows.fnExactWithinSpec.post enc Try.prog Try.f8 false true false false) := by
  refine returnsInHanded_of_change (C := Try.checked) own started (by kernel_rfl) Try.func8
    (ChangeSpec.witness6 (enc := enc) (C := Try.checked) false ⟨#[], #[.slice none 0 0, .slice none 0 0], []⟩ 8 (by kernel_rfl) (by kernel_rfl) (by kernel_rfl) (by kernel_rfl)) ?_
  intro W base args ds gs before hval0 hW hcnd _
  have hval : ∀ (j : Nat) t v, Try.f8.params[j]? = some t → args[j]? = some v → Value.okWide Try.prog W .any base t v := hval0
  have hW' := hW
  obtain ⟨p, q, hA0, hV, rfl, hfz, hnd⟩ := hW
  have hA : DataW.TrodAll enc Try.prog W 0 (fun _ => true) true Try.f8.params.toList args.toList ds p := hA0
  rw [Try.params8] at hA hval
  obtain ⟨v0, vs0, d0, ds0, p0, q0, hargs, rfl, rfl, h0, r0⟩ := trodAll_cons hA
  obtain ⟨v1, vs1, d1, ds1, p1, q1, rfl, rfl, rfl, h1, r1⟩ := trodAll_cons r0
  obtain ⟨rfl, rfl, rfl⟩ := trodAll_nil r1
  obtain rfl : args = #[v0, v1] := by cases args; simp_all
  obtain ⟨rfl, rfl⟩ := trodVars_none hV
  obtain ⟨xs, rxs, hxs⟩ := open_ints_arg (hval 0 22 v0 rfl rfl) h0
  obtain ⟨ys, rys, hys⟩ := open_ints_arg (hval 1 22 v1 rfl rfl) h1
  refine (walkWithin xs ys v0 v1 W hxs hys rxs rys).mono fun e W' ⟨he, hb⟩ => ?_
  subst he
  refine ⟨_, rfl, law_post (tb := 4) laidOut ?_ hW' rfl Try.underlying4 rfl rfl hb⟩
  exact all_readable (P := Try.prog) (by kernel_rfl)

theorem overFnExactWithin : Rows.fnExactWithinRow.holds Try.pinned (OpenSpec.ofChange Rows.fnExactWithinSpec) :=
  OpenClaim.holds_of_wide 8 Try.f8 rfl rfl rfl rfl rfl rfl rfl ⟨rfl, rfl, rfl, rfl, rfl⟩ rfl rfl rfl rfl rfl (by kernel_rfl) Try.func8 (by kernel_rfl)
    (of_decide_eq_true (by kernel_rfl)) (by unfold Func.isWrapper; first | (rw [if_pos (by decide +kernel)]; kernel_rfl) | (rw [if_neg (by decide +kernel)]; exact ⟨rfl, rfl⟩))
    (fun os started H enc _ => liftedFnExactWithin os started H enc)

/-- ████ THE STATEMENT ████ -/
theorem withinHolds : Rows.FnExactWithinSaid :=
  overFnExactWithin
#print axioms withinHolds

end Go.Proofs.Ytfdkhpoicbhgiaa
