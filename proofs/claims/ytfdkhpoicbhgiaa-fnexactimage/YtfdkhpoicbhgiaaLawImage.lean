/-
  The law FnExactImage: at every argument Image answers as the specification, writes into no argument, and its answer owns its memory.
-/
import Derived.Test.YtfdkhpoicbhgiaaRelTop
import Derived.Test.YtfdkhpoicbhgiaaToInts
namespace Go.Proofs.Ytfdkhpoicbhgiaa
open Go.ChangeShapes Go.WideShapes Go.ChangeAt Go.RowKit
set_option linter.unusedVariables false
set_option linter.unusedSimpArgs false
set_option maxHeartbeats 2000000

theorem walkImage (xs : List Int) (s : Int) (v : Value) (w : World) (hxs : xs.length ≤ maxLen) (rxs : Reads w v (ints xs)) :
    Calls Try.prog 5 #[v, .int .i64 s] w fun e w' => e = .returned (.bool true) ∧ Below w.heap.size w w' := by
  have hsp := specImage xs s
  have him := implImage xs s
  revert hsp him
  generalize imageAns xs s = A
  intro hsp him
  obtain ⟨oxs, cxs, exs, _⟩ := id rxs
  rw [ints_length] at exs
  have mxs : (xs.length : Int) ≤ 9223372036854775807 := by unfold maxLen at hxs; omega
  by_cases longxs : (1048576 : Int) < (xs.length : Int)
  · subst exs
    go_enter Try.func5, Try.ntmps5
    go_wp2
    go_ret
    exact ⟨rfl, Below.refl _ _⟩
  have lxs : xs.length ≤ 1048576 := by omega
  have txs : ∀ W, Below w.heap.size w W → _ := fun W hW => toInt64S xs v W lxs (reads_below rxs hW)
  subst exs
  go_enter Try.func5, Try.ntmps5
  go_wp2_with fail
  go_at_call 10
  refine (txs w (Below.refl _ _)).mono ?_
  rintro e w1 ⟨axs, rfl, oaxs, b1⟩
  have s1 := b1.size
  have L1 : Below w.heap.size w w1 := b1
  go_wp2_with fail
  go_at_call 17
  refine (hsp _ w1 hxs (reads_own oaxs)).mono ?_
  rintro e w2 ⟨rfl, b2⟩
  have s2 := b2.size
  have L2 : Below w.heap.size w w2 := L1.trans (b2.mono (by omega))
  have oaxs := own_kept oaxs b2
  clear oaxs
  go_wp2_with fail
  go_at_call 10
  refine (txs w2 L2).mono ?_
  rintro e w3 ⟨xxs, rfl, oxxs, b3⟩
  have s3 := b3.size
  have L3 : Below w.heap.size w w3 := L2.trans (b3.mono (by omega))
  go_wp2_with fail
  go_at_call 18
  refine (him _ w3 hxs (reads_own oxxs)).mono ?_
  rintro e w4 ⟨rfl, b4⟩
  have s4 := b4.size
  have L4 : Below w.heap.size w w4 := L3.trans (b4.mono (by omega))
  have oxxs := own_kept oxxs b4
  go_wp2_with fail
  go_at_call 10
  refine (txs w4 L4).mono ?_
  rintro e w5 ⟨zxs, rfl, ozxs, b5⟩
  have s5 := b5.size
  have L5 : Below w.heap.size w w5 := L4.trans (b5.mono (by omega))
  have oxxs := own_kept oxxs b5
  go_wp2_with fail
  go_at_call 12
  refine (eqInt64S xs _ _ _ hxs (reads_own oxxs) (reads_own ozxs)).mono ?_
  rintro e w6 ⟨rfl, b6⟩
  have s6 := b6.size
  have L6 : Below w.heap.size w w6 := L5.trans (b6.mono (by omega))
  have oxxs := own_kept oxxs b6
  have ozxs := own_kept ozxs b6
  clear ozxs
  go_wp2
  go_ret
  exact ⟨rfl, L6⟩

set_option maxRecDepth 100000 in
theorem liftedFnExactImage (os : Os) (started : os.Started) (H : Type) (enc : TypeId × Value → H) :
    ReturnsInHanded {} Try.checked os 5 .any (Rows.fnExactImageSpec.pre6 enc Try.prog Try.f5 Rows.fnExactImageRow.domain false) (Rows.fnExactImageSpec.post enc Try.prog Try.f5 false true false false) := by
  refine returnsInHanded_of_change (C := Try.checked) own started (by kernel_rfl) Try.func5
    (ChangeSpec.witness6 (enc := enc) (C := Try.checked) false ⟨#[], #[.slice none 0 0, .int .i64 0], []⟩ 8 (by kernel_rfl) (by kernel_rfl) (by kernel_rfl) (by kernel_rfl)) ?_
  intro W base args ds gs before hval0 hW hcnd _
  have hval : ∀ (j : Nat) t v, Try.f5.params[j]? = some t → args[j]? = some v → Value.okWide Try.prog W .any base t v := hval0
  have hW' := hW
  obtain ⟨p, q, hA0, hV, rfl, hfz, hnd⟩ := hW
  have hA : DataW.TrodAll enc Try.prog W 0 (fun _ => true) true Try.f5.params.toList args.toList ds p := hA0
  rw [Try.params5] at hA hval
  obtain ⟨v0, vs0, d0, ds0, p0, q0, hargs, rfl, rfl, h0, r0⟩ := trodAll_cons hA
  obtain ⟨v1, vs1, d1, ds1, p1, q1, rfl, rfl, rfl, h1, r1⟩ := trodAll_cons r0
  obtain ⟨rfl, rfl, rfl⟩ := trodAll_nil r1
  obtain rfl : args = #[v0, v1] := by cases args; simp_all
  obtain ⟨rfl, rfl⟩ := trodVars_none hV
  obtain ⟨xs, rxs, hxs⟩ := open_ints_arg (hval 0 22 v0 rfl rfl) h0
  obtain ⟨s, rfl, _⟩ := open_int Try.underlying2 (hval 1 2 v1 rfl rfl) h1
  refine (walkImage xs s v0 W hxs rxs).mono fun e W' ⟨he, hb⟩ => ?_
  subst he
  refine ⟨_, rfl, law_post (tb := 4) laidOut ?_ hW' rfl Try.underlying4 rfl rfl hb⟩
  exact all_readable (P := Try.prog) (by kernel_rfl)

theorem overFnExactImage : Rows.fnExactImageRow.holds Try.pinned (OpenSpec.ofChange Rows.fnExactImageSpec) :=
  OpenClaim.holds_of_wide 5 Try.f5 rfl rfl rfl rfl rfl rfl rfl ⟨rfl, rfl, rfl, rfl, rfl⟩ rfl rfl rfl rfl rfl (by kernel_rfl) Try.func5 (by kernel_rfl)
    (of_decide_eq_true (by kernel_rfl)) (by unfold Func.isWrapper; first | (rw [if_pos (by decide +kernel)]; kernel_rfl) | (rw [if_neg (by decide +kernel)]; exact ⟨rfl, rfl⟩))
    (fun os started H enc _ => liftedFnExactImage os started H enc)

/-- ████ THE STATEMENT ████ -/
theorem imageHolds : Rows.FnExactImageSaid :=
  overFnExactImage
#print axioms imageHolds

end Go.Proofs.Ytfdkhpoicbhgiaa
