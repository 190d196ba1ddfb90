/-
  The law FnExactFlow: at every argument Flow answers as the specification, writes into no argument, and its answer owns its memory.
-/
import Derived.Test.YtonmocndkidkjaaSpecFlow
import Derived.Test.YtonmocndkidkjaaToInts
import Derived.Lib.SmallJoins
namespace Go.Proofs.Ytonmocndkidkjaa
open Go.ChangeShapes Go.WideShapes Go.ChangeAt Go.RowKit Go.Joins
set_option linter.unusedVariables false
set_option linter.unusedSimpArgs false
set_option maxHeartbeats 2000000

theorem cellsStmtA : Try.prog.cellsOf 23 = 3 := by kernel_rfl

theorem walkFlow (c k x y : Int) (w : World) :
    Calls Try.prog 3 #[.int .i64 c, .agg #[.int .i64 k, .int .i64 x, .int .i64 y]] w fun e w' => e = .returned (.bool true) ∧ Below w.heap.size w w' := by
  have hA : (flowAns c k x y).length ≤ 7 := by
    unfold flowAns
    split
    · rw [flowL_length]; omega
    · simp
  have hA' : (flowAns c k x y).length ≤ maxLen := by unfold maxLen; omega
  have hsp := specFlow c k x y
  have him := implFlow c k x y
  revert hsp him hA hA'
  generalize flowAns c k x y = A
  intro hA hA' hsp him
  have ht := toStmt k x y
  go_enter Try.func3, Try.ntmps3
  go_wp2_with fail
  go_at_call 9
  refine (ht _).mono ?_
  rintro e w1 ⟨rfl, b1⟩
  obtain ⟨L1, q1⟩ := flow_pre b1
  obtain ⟨g0, g1, g2⟩ := stmt_cells q1
  have hlt : w.heap.size < w1.heap.size := (Array.getElem?_eq_some_iff.1 q1).1
  have s1 := L1.size
  clear b1
  go_wp2_with fail
  go_at_call 8
  refine (hsp _).mono ?_
  rintro e w2 ⟨sa, rfl, osa, b2⟩
  have s2 := b2.size
  have L2 : Below w.heap.size w w2 := L1.trans (b2.mono (by omega))
  have q2 := (b2.block _ (by omega)).trans q1
  clear g0 g1 g2 q1
  obtain ⟨g0, g1, g2⟩ := stmt_cells q2
  have slt : ∀ k, sa.ownBlock = some k → k < w2.heap.size := fun k hk => (osa.lt k hk).2
  go_wp2_with fail
  go_at_call 9
  refine (ht _).mono ?_
  rintro e w3 ⟨rfl, b3⟩
  have s3 := b3.size
  have L3 : Below w.heap.size w w3 := L2.trans (b3.mono (by omega))
  have osa := own_kept osa b3
  have q3 := (b3.block _ (by omega)).trans q2
  clear g0 g1 g2 q2
  obtain ⟨g0, g1, g2⟩ := stmt_cells q3
  go_wp2_with fail
  go_at_call 10
  refine (him _).mono ?_
  rintro e w4 ⟨ia, rfl, oia, b4⟩
  have s4 := b4.size
  have L4 : Below w.heap.size w w4 := L3.trans (b4.mono (by omega))
  have osa := own_kept osa b4
  have q4 := (b4.block _ (by omega)).trans q3
  clear g0 g1 g2 q3
  obtain ⟨g0, g1, g2⟩ := stmt_cells q4
  go_wp2_with fail
  go_at_call 11
  refine (eqInt64S A _ _ _ hA' (reads_own oia) (reads_own osa)).mono ?_
  rintro e w5 ⟨rfl, b5⟩
  have s5 := b5.size
  have L5 : Below w.heap.size w w5 := L4.trans (b5.mono (by omega))
  have osa := own_kept osa b5
  have oia := own_kept oia b5
  have q5 := (b5.block _ (by omega)).trans q4
  clear g0 g1 g2 q4
  obtain ⟨g0, g1, g2⟩ := stmt_cells q5
  have hmk := markInt64S (ints A) ia w3.heap.size 1 w5 (by rw [ints_length]; omega) (by omega) (by omega) (by omega) (by rw [ints_length]; exact oia)
  rw [ints_length] at hmk
  go_wp2_with fail
  go_at_call 12
  refine hmk.mono ?_
  rintro e w6 ⟨rfl, mia, _, g6⟩
  clear hmk
  have s6 := g6.size
  have L6 : Below w.heap.size w w6 := L5.grown g6 L5.size (fun k hk => by have := (oia.lt k hk).1; omega)
  have osa := own_grown osa g6 (fun k hk e => by have h1 := slt k hk; have h2 := (oia.lt k e).1; omega)
  have q6 := (g6.block _ (by omega) (fun e => by have h2 := (oia.lt _ e.symm).1; omega)).trans q5
  clear g0 g1 g2 q5
  obtain ⟨g0, g1, g2⟩ := stmt_cells q6
  clear oia
  go_wp2_with fail
  go_at_call 13
  refine (heldInt64S A.length ia 1 w6 (by omega) (by omega) (by omega) (reads_own mia)).mono ?_
  rintro e w7 ⟨rfl, b7⟩
  have s7 := b7.size
  have L7 : Below w.heap.size w w7 := L6.trans (b7.mono (by omega))
  have osa := own_kept osa b7
  have mia := own_kept mia b7
  have q7 := (b7.block _ (by omega)).trans q6
  clear g0 g1 g2 q6
  obtain ⟨g0, g1, g2⟩ := stmt_cells q7
  have hq0 : (decide ((1 : Int) + (A.length : Int) < 0)) = false := by simp; omega
  go_wp2_with fail
  go_at_call 9
  refine (ht _).mono ?_
  rintro e w8 ⟨rfl, b8⟩
  have s8 := b8.size
  have L8 : Below w.heap.size w w8 := L7.trans (b8.mono (by omega))
  have osa := own_kept osa b8
  have mia := own_kept mia b8
  have q8 := (b8.block _ (by omega)).trans q7
  clear g0 g1 g2 q7
  obtain ⟨g0, g1, g2⟩ := stmt_cells q8
  go_wp2_with fail
  go_at_call 10
  refine (him _).mono ?_
  rintro e w9 ⟨ja, rfl, oja, b9⟩
  have s9 := b9.size
  have L9 : Below w.heap.size w w9 := L8.trans (b9.mono (by omega))
  have osa := own_kept osa b9
  have mia := own_kept mia b9
  have q9 := (b9.block _ (by omega)).trans q8
  clear g0 g1 g2 q8
  obtain ⟨g0, g1, g2⟩ := stmt_cells q9
  go_wp2_with fail
  go_at_call 11
  refine (eqInt64S A _ _ _ hA' (reads_own oja) (reads_own osa)).mono ?_
  rintro e w10 ⟨rfl, b10⟩
  have s10 := b10.size
  have L10 : Below w.heap.size w w10 := L9.trans (b10.mono (by omega))
  have osa := own_kept osa b10
  have mia := own_kept mia b10
  have oja := own_kept oja b10
  have q10 := (b10.block _ (by omega)).trans q9
  clear g0 g1 g2 q9
  obtain ⟨g0, g1, g2⟩ := stmt_cells q10
  go_wp2_with fail
  go_at_call 13
  refine (heldInt64S A.length ia 1 w10 (by omega) (by omega) (by omega) (reads_own mia)).mono ?_
  rintro e w11 ⟨rfl, b11⟩
  have s11 := b11.size
  have L11 : Below w.heap.size w w11 := L10.trans (b11.mono (by omega))
  have mia := own_kept mia b11
  have q11 := (b11.block _ (by omega)).trans q10
  clear g0 g1 g2 q10
  obtain ⟨g0, g1, g2⟩ := stmt_cells q11
  go_wp2
  go_ret
  exact ⟨rfl, L11⟩

set_option maxRecDepth 100000 in
theorem liftedFnExactFlow (os : Os) (started : os.Started) (H : Type) (enc : TypeId × Value → H) :
    ReturnsInHanded {} Try.checked os 3 .any (Rows.fnExactFlowSpec.pre6 enc Try.prog Try.f3 Rows.fnExactFlowRow.domain false) (Rows.fnExactFlowSpec.post enc Try.prog Try.f3 false true false false) := by
  refine returnsInHanded_of_change (C := Try.checked) own started (by kernel_rfl) Try.func3
    (ChangeSpec.witness6 (enc := enc) (C := Try.checked) false ⟨#[], #[.int .i64 0, .agg #[.int .i64 0, .int .i64 0, .int .i64 0]], []⟩ 8 (by kernel_rfl) (by kernel_rfl) (by kernel_rfl) (by kernel_rfl)) ?_
  intro W base args ds gs before hval0 hW hcnd _
  have hval : ∀ (j : Nat) t v, Try.f3.params[j]? = some t → args[j]? = some v → Value.okWide Try.prog W .any base t v := hval0
  have hW' := hW
  obtain ⟨p, q, hA0, hV, rfl, hfz, hnd⟩ := hW
  have hA : DataW.TrodAll enc Try.prog W 0 (fun _ => true) true Try.f3.params.toList args.toList ds p := hA0
  rw [Try.params3] at hA hval
  obtain ⟨v0, vs0, d0, ds0, p0, q0, hargs, rfl, rfl, h0, r0⟩ := trodAll_cons hA
  obtain ⟨v1, vs1, d1, ds1, p1, q1, rfl, rfl, rfl, h1, r1⟩ := trodAll_cons r0
  obtain ⟨rfl, rfl, rfl⟩ := trodAll_nil r1
  obtain rfl : args = #[v0, v1] := by cases args; simp_all
  obtain ⟨rfl, rfl⟩ := trodVars_none hV
  obtain ⟨c, rfl, _⟩ := open_int Try.underlying2 (hval 0 2 v0 rfl rfl) h0
  obtain ⟨c0, c1, c2, y0, y1, y2, m, rfl, rfl, rfl, hy0, hy1, hy2⟩ := open_agg3 Try.underlying23 (by kernel_rfl) cellsStmtA (hval 1 23 v1 rfl rfl) h1
  obtain ⟨k, e0, _, _⟩ := DataW.trod_int Try.underlying2 hy0
  obtain ⟨x, e1, _, _⟩ := DataW.trod_int Try.underlying2 hy1
  obtain ⟨y, e2, _, _⟩ := DataW.trod_int Try.underlying2 hy2
  simp at e0 e1 e2
  subst e0 e1 e2
  refine (walkFlow c k x y W).mono fun e W' ⟨he, hb⟩ => ?_
  subst he
  refine ⟨_, rfl, law_post (tb := 4) laidOut ?_ hW' rfl Try.underlying4 rfl rfl hb⟩
  exact all_readable (P := Try.prog) (by kernel_rfl)

theorem overFnExactFlow : Rows.fnExactFlowRow.holds Try.pinned (OpenSpec.ofChange Rows.fnExactFlowSpec) :=
  OpenClaim.holds_of_wide 3 Try.f3 rfl rfl rfl rfl rfl rfl rfl ⟨rfl, rfl, rfl, rfl, rfl⟩ rfl rfl rfl rfl rfl (by kernel_rfl) Try.func3 (by kernel_rfl)
    (of_decide_eq_true (by kernel_rfl)) (by unfold Func.isWrapper; first | (rw [if_pos (by decide +kernel)]; kernel_rfl) | (rw [if_neg (by decide +kernel)]; exact ⟨rfl, rfl⟩))
    (fun os started H enc _ => liftedFnExactFlow os started H enc)

/-- ████ THE STATEMENT ████ -/
theorem flowHolds : Rows.FnExactFlowSaid :=
  overFnExactFlow
#print axioms flowHolds

end Go.Proofs.Ytonmocndkidkjaa
