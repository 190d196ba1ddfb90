/-
  The law FnExactKeep: at every argument Keep answers as the specification, writes into no argument, and its answer owns its memory.
-/
import Derived.Test.YtonmocndkidkjaaSpecFlow
import Derived.Test.YtonmocndkidkjaaToInts
namespace Go.Proofs.Ytonmocndkidkjaa
open Go.ChangeShapes Go.WideShapes Go.ChangeAt Go.RowKit
set_option linter.unusedVariables false
set_option linter.unusedSimpArgs false
set_option maxHeartbeats 2000000

theorem walkKeep (w : World) :
    Calls Try.prog 6 #[] w fun e w' => e = .returned (.bool true) ∧ Below w.heap.size w w' := by
  have hA : (keepL).length ≤ 7 := by simp [keepL]
  have hA' : (keepL).length ≤ maxLen := by unfold maxLen; omega
  have hsp := specKeep
  have him := implKeep
  revert hsp him hA hA'
  generalize keepL = A
  intro hA hA' hsp him
  go_enter Try.func6, Try.ntmps6
  go_wp2_with fail
  go_at_call 18
  refine (hsp _).mono ?_
  rintro e w1 ⟨sa, rfl, osa, b1⟩
  have s1 := b1.size
  have L1 : Below w.heap.size w w1 := b1
  have slt : ∀ k, sa.ownBlock = some k → k < w1.heap.size := fun k hk => (osa.lt k hk).2
  go_wp2_with fail
  go_at_call 19
  refine (him _).mono ?_
  rintro e w2 ⟨ia, rfl, oia, b2⟩
  have s2 := b2.size
  have L2 : Below w.heap.size w w2 := L1.trans (b2.mono (by omega))
  have osa := own_kept osa b2
  go_wp2_with fail
  go_at_call 11
  refine (eqInt64S A _ _ _ hA' (reads_own oia) (reads_own osa)).mono ?_
  rintro e w3 ⟨rfl, b3⟩
  have s3 := b3.size
  have L3 : Below w.heap.size w w3 := L2.trans (b3.mono (by omega))
  have osa := own_kept osa b3
  have oia := own_kept oia b3
  have hmk := markInt64S (ints A) ia w1.heap.size 1 w3 (by rw [ints_length]; omega) (by omega) (by omega) (by omega) (by rw [ints_length]; exact oia)
  rw [ints_length] at hmk
  go_wp2_with fail
  go_at_call 12
  refine hmk.mono ?_
  rintro e w4 ⟨rfl, mia, _, g4⟩
  clear hmk
  have s4 := g4.size
  have L4 : Below w.heap.size w w4 := L3.grown g4 L3.size (fun k hk => by have := (oia.lt k hk).1; omega)
  have osa := own_grown osa g4 (fun k hk e => by have h1 := slt k hk; have h2 := (oia.lt k e).1; omega)
  clear oia
  go_wp2_with fail
  go_at_call 13
  refine (heldInt64S A.length ia 1 w4 (by omega) (by omega) (by omega) (reads_own mia)).mono ?_
  rintro e w5 ⟨rfl, b5⟩
  have s5 := b5.size
  have L5 : Below w.heap.size w w5 := L4.trans (b5.mono (by omega))
  have osa := own_kept osa b5
  have mia := own_kept mia b5
  have hq0 : (decide ((1 : Int) + (A.length : Int) < 0)) = false := by simp; omega
  go_wp2_with fail
  go_at_call 19
  refine (him _).mono ?_
  rintro e w6 ⟨ja, rfl, oja, b6⟩
  have s6 := b6.size
  have L6 : Below w.heap.size w w6 := L5.trans (b6.mono (by omega))
  have osa := own_kept osa b6
  have mia := own_kept mia b6
  go_wp2_with fail
  go_at_call 11
  refine (eqInt64S A _ _ _ hA' (reads_own oja) (reads_own osa)).mono ?_
  rintro e w7 ⟨rfl, b7⟩
  have s7 := b7.size
  have L7 : Below w.heap.size w w7 := L6.trans (b7.mono (by omega))
  have osa := own_kept osa b7
  have mia := own_kept mia b7
  have oja := own_kept oja b7
  go_wp2_with fail
  go_at_call 13
  refine (heldInt64S A.length ia 1 w7 (by omega) (by omega) (by omega) (reads_own mia)).mono ?_
  rintro e w8 ⟨rfl, b8⟩
  have s8 := b8.size
  have L8 : Below w.heap.size w w8 := L7.trans (b8.mono (by omega))
  have mia := own_kept mia b8
  go_wp2
  go_ret
  exact ⟨rfl, L8⟩

set_option maxRecDepth 100000 in
theorem liftedFnExactKeep (os : Os) (started : os.Started) (H : Type) (enc : TypeId × Value → H) :
    ReturnsInHanded {} Try.checked os 6 .any (Rows.fnExactKeepSpec.pre6 enc Try.prog Try.f6 Rows.fnExactKeepRow.domain false) (Rows.fnExactKeepSpec.post enc Try.prog Try.f6 false true false false) := by
  refine returnsInHanded_of_change (C := Try.checked) own started (by kernel_rfl) Try.func6
    (ChangeSpec.witness6 (enc := enc) (C := Try.checked) false ⟨#[], #[], []⟩ 8 (by kernel_rfl) (by kernel_rfl) (by kernel_rfl) (by kernel_rfl)) ?_
  intro W base args ds gs before hval0 hW hcnd _
  have hval : ∀ (j : Nat) t v, Try.f6.params[j]? = some t → args[j]? = some v → Value.okWide Try.prog W .any base t v := hval0
  have hW' := hW
  obtain ⟨p, q, hA0, hV, rfl, hfz, hnd⟩ := hW
  have hA : DataW.TrodAll enc Try.prog W 0 (fun _ => true) true Try.f6.params.toList args.toList ds p := hA0
  rw [Try.params6] at hA hval
  obtain ⟨hargs, rfl, rfl⟩ := trodAll_nil hA
  obtain rfl : args = #[] := by cases args; simp_all
  obtain ⟨rfl, rfl⟩ := trodVars_none hV
  
  refine (walkKeep W).mono fun e W' ⟨he, hb⟩ => ?_
  subst he
  refine ⟨_, rfl, law_post (tb := 4) laidOut ?_ hW' rfl Try.underlying4 rfl rfl hb⟩
  exact all_readable (P := Try.prog) (by kernel_rfl)

theorem overFnExactKeep : Rows.fnExactKeepRow.holds Try.pinned (OpenSpec.ofChange Rows.fnExactKeepSpec) :=
  OpenClaim.holds_of_wide 6 Try.f6 rfl rfl rfl rfl rfl rfl rfl ⟨rfl, rfl, rfl, rfl, rfl⟩ rfl rfl rfl rfl rfl (by kernel_rfl) Try.func6 (by kernel_rfl)
    (of_decide_eq_true (by kernel_rfl)) (by unfold Func.isWrapper; first | (rw [if_pos (by decide +kernel)]; kernel_rfl) | (rw [if_neg (by decide +kernel)]; exact ⟨rfl, rfl⟩))
    (fun os started H enc _ => liftedFnExactKeep os started H enc)

/-- ████ THE STATEMENT ████ -/
theorem keepHolds : Rows.FnExactKeepSaid :=
  overFnExactKeep
#print axioms keepHolds

end Go.Proofs.Ytonmocndkidkjaa
