/-
  The law FnExactJoin: at every argument Join answers as the specification, writes into no argument, and its answer owns its memory.
-/
import Derived.Test.YtfdkhpoicbhgiaaRelTop
import Derived.Test.YtfdkhpoicbhgiaaToInts
namespace Go.Proofs.Ytfdkhpoicbhgiaa
open Go.ChangeShapes Go.WideShapes Go.ChangeAt Go.RowKit
set_option linter.unusedVariables false
set_option linter.unusedSimpArgs false
set_option maxHeartbeats 2000000

theorem walkJoin (xs : List Int) (ys : List Int) (v u : Value) (w : World) (hxs : xs.length ≤ maxLen) (hys : ys.length ≤ maxLen) (rxs : Reads w v (ints xs)) (rys : Reads w u (ints ys)) :
    Calls Try.prog 7 #[v, u] w fun e w' => e = .returned (.bool true) ∧ Below w.heap.size w w' := by
  have hA : (joinAns xs ys).length ≤ 7 := by
    unfold joinAns
    split
    · rename_i h
      simp only [Bool.and_eq_true, relOk_iff] at h
      simp [joi, h.1.1, h.2.1]
    · simp
  have hA' : (joinAns xs ys).length ≤ maxLen := by unfold maxLen; omega
  have hsp := specJoin xs ys
  have him := implJoin xs ys
  revert hsp him hA hA'
  generalize joinAns xs ys = A
  intro hA hA' hsp him
  obtain ⟨oxs, cxs, exs, _⟩ := id rxs
  rw [ints_length] at exs
  have mxs : (xs.length : Int) ≤ 9223372036854775807 := by unfold maxLen at hxs; omega
  obtain ⟨oys, cys, eys, _⟩ := id rys
  rw [ints_length] at eys
  have mys : (ys.length : Int) ≤ 9223372036854775807 := by unfold maxLen at hys; omega
  by_cases longxs : (1048576 : Int) < (xs.length : Int)
  · subst exs eys
    go_enter Try.func7, Try.ntmps7
    go_wp2
    go_ret
    exact ⟨rfl, Below.refl _ _⟩
  by_cases longys : (1048576 : Int) < (ys.length : Int)
  · subst exs eys
    go_enter Try.func7, Try.ntmps7
    go_wp2
    go_ret
    exact ⟨rfl, Below.refl _ _⟩
  have lxs : xs.length ≤ 1048576 := by omega
  have txs : ∀ W, Below w.heap.size w W → _ := fun W hW => toInt64S xs v W lxs (reads_below rxs hW)
  have lys : ys.length ≤ 1048576 := by omega
  have tys : ∀ W, Below w.heap.size w W → _ := fun W hW => toInt64S ys u W lys (reads_below rys hW)
  subst exs eys
  go_enter Try.func7, Try.ntmps7
  go_wp2_with fail
  go_at_call 10
  refine (txs w (Below.refl _ _)).mono ?_
  rintro e w1 ⟨axs, rfl, oaxs, b1⟩
  have s1 := b1.size
  have L1 : Below w.heap.size w w1 := b1
  go_wp2_with fail
  go_at_call 10
  refine (tys w1 L1).mono ?_
  rintro e w2 ⟨ays, rfl, oays, b2⟩
  have s2 := b2.size
  have L2 : Below w.heap.size w w2 := L1.trans (b2.mono (by omega))
  have oaxs := own_kept oaxs b2
  go_wp2_with fail
  go_at_call 21
  refine (hsp _ _ w2 hxs hys (reads_own oaxs) (reads_own oays)).mono ?_
  rintro e w3 ⟨sa, rfl, osa, b3⟩
  have s3 := b3.size
  have L3 : Below w.heap.size w w3 := L2.trans (b3.mono (by omega))
  have oaxs := own_kept oaxs b3
  have oays := own_kept oays b3
  clear oaxs oays
  have slt : ∀ k, sa.ownBlock = some k → k < w3.heap.size := fun k hk => (osa.lt k hk).2
  go_wp2_with fail
  go_at_call 10
  refine (txs w3 L3).mono ?_
  rintro e w4 ⟨xxs, rfl, oxxs, b4⟩
  have xltxs : ∀ k, (Value.ownBlock (.slice (some ⟨xxs, 0, none⟩) xs.length xs.length)) = some k → k < w4.heap.size := fun k hk => (oxxs.lt k hk).2
  have s4 := b4.size
  have L4 : Below w.heap.size w w4 := L3.trans (b4.mono (by omega))
  have osa := own_kept osa b4
  go_wp2_with fail
  go_at_call 10
  refine (tys w4 L4).mono ?_
  rintro e w5 ⟨xys, rfl, oxys, b5⟩
  have xltys : ∀ k, (Value.ownBlock (.slice (some ⟨xys, 0, none⟩) ys.length ys.length)) = some k → k < w5.heap.size := fun k hk => (oxys.lt k hk).2
  have s5 := b5.size
  have L5 : Below w.heap.size w w5 := L4.trans (b5.mono (by omega))
  have osa := own_kept osa b5
  have oxxs := own_kept oxxs b5
  go_wp2_with fail
  go_at_call 22
  refine (him _ _ w5 hxs hys (reads_own oxxs) (reads_own oxys)).mono ?_
  rintro e w6 ⟨ia, rfl, oia, b6⟩
  have s6 := b6.size
  have L6 : Below w.heap.size w w6 := L5.trans (b6.mono (by omega))
  have osa := own_kept osa b6
  have oxxs := own_kept oxxs b6
  have oxys := own_kept oxys b6
  go_wp2_with fail
  go_at_call 12
  refine (eqInt64S A _ _ _ hA' (reads_own oia) (reads_own osa)).mono ?_
  rintro e w7 ⟨rfl, b7⟩
  have s7 := b7.size
  have L7 : Below w.heap.size w w7 := L6.trans (b7.mono (by omega))
  have osa := own_kept osa b7
  have oxxs := own_kept oxxs b7
  have oxys := own_kept oxys b7
  have oia := own_kept oia b7
  go_wp2_with fail
  go_at_call 10
  refine (txs w7 L7).mono ?_
  rintro e w8 ⟨zxs, rfl, ozxs, b8⟩
  have s8 := b8.size
  have L8 : Below w.heap.size w w8 := L7.trans (b8.mono (by omega))
  have osa := own_kept osa b8
  have oxxs := own_kept oxxs b8
  have oxys := own_kept oxys b8
  have oia := own_kept oia b8
  go_wp2_with fail
  go_at_call 12
  refine (eqInt64S xs _ _ _ hxs (reads_own oxxs) (reads_own ozxs)).mono ?_
  rintro e w9 ⟨rfl, b9⟩
  have s9 := b9.size
  have L9 : Below w.heap.size w w9 := L8.trans (b9.mono (by omega))
  have osa := own_kept osa b9
  have oxxs := own_kept oxxs b9
  have oxys := own_kept oxys b9
  have oia := own_kept oia b9
  have ozxs := own_kept ozxs b9
  clear ozxs
  go_wp2_with fail
  go_at_call 10
  refine (tys w9 L9).mono ?_
  rintro e w10 ⟨zys, rfl, ozys, b10⟩
  have s10 := b10.size
  have L10 : Below w.heap.size w w10 := L9.trans (b10.mono (by omega))
  have osa := own_kept osa b10
  have oxxs := own_kept oxxs b10
  have oxys := own_kept oxys b10
  have oia := own_kept oia b10
  go_wp2_with fail
  go_at_call 12
  refine (eqInt64S ys _ _ _ hys (reads_own oxys) (reads_own ozys)).mono ?_
  rintro e w11 ⟨rfl, b11⟩
  have s11 := b11.size
  have L11 : Below w.heap.size w w11 := L10.trans (b11.mono (by omega))
  have osa := own_kept osa b11
  have oxxs := own_kept oxxs b11
  have oxys := own_kept oxys b11
  have oia := own_kept oia b11
  have ozys := own_kept ozys b11
  clear ozys
  have hmxs := markInt64S (ints xs) _ w3.heap.size (1) w11 (by rw [ints_length]; omega) (by omega) (by omega) (by omega) (by rw [ints_length]; exact oxxs)
  rw [ints_length] at hmxs
  go_wp2_with fail
  go_at_call 15
  refine hmxs.mono ?_
  rintro e w12 ⟨rfl, mxxs, _, g12⟩
  clear hmxs
  have s12 := g12.size
  have L12 : Below w.heap.size w w12 := L11.grown g12 L11.size (fun k hk => by have := (oxxs.lt k hk).1; omega)
  have osa := own_grown osa g12 (fun k hk e => by have h1 := slt k hk; have h2 := (oxxs.lt k e).1; omega)
  have oxys := own_grown oxys g12 (fun k hk e => by have h1 := (oxys.lt k hk).1; have h2 := xltxs k e; omega)
  have oia := own_grown oia g12 (fun k hk e => by have h1 := (oia.lt k hk).1; have h2 := xltxs k e; omega)
  clear oxxs
  have hmys := markInt64S (ints ys) _ w4.heap.size (1 + (xs.length : Int)) w12 (by rw [ints_length]; omega) (by omega) (by omega) (by omega) (by rw [ints_length]; exact oxys)
  rw [ints_length] at hmys
  go_wp2_with fail
  go_at_call 15
  refine hmys.mono ?_
  rintro e w13 ⟨rfl, mxys, _, g13⟩
  clear hmys
  have s13 := g13.size
  have L13 : Below w.heap.size w w13 := L12.grown g13 L12.size (fun k hk => by have := (oxys.lt k hk).1; omega)
  have osa := own_grown osa g13 (fun k hk e => by have h1 := slt k hk; have h2 := (oxys.lt k e).1; omega)
  have oia := own_grown oia g13 (fun k hk e => by have h1 := (oia.lt k hk).1; have h2 := xltys k e; omega)
  clear oxys
  have hk0 : (decide ((1 + (xs.length : Int) + (ys.length : Int) : Int) < 0)) = false := by simp; omega
  go_wp2_with fail
  go_at_call 12
  refine (eqInt64S A _ _ _ hA' (reads_own oia) (reads_own osa)).mono ?_
  rintro e w14 ⟨rfl, b14⟩
  have s14 := b14.size
  have L14 : Below w.heap.size w w14 := L13.trans (b14.mono (by omega))
  have osa := own_kept osa b14
  have oia := own_kept oia b14
  have hmk := markInt64S (ints A) ia w5.heap.size 1 w14 (by rw [ints_length]; omega) (by omega) (by omega) (by omega) (by rw [ints_length]; exact oia)
  rw [ints_length] at hmk
  go_wp2_with fail
  go_at_call 15
  refine hmk.mono ?_
  rintro e w15 ⟨rfl, mia, _, g15⟩
  clear hmk
  have s15 := g15.size
  have L15 : Below w.heap.size w w15 := L14.grown g15 L14.size (fun k hk => by have := (oia.lt k hk).1; omega)
  have osa := own_grown osa g15 (fun k hk e => by have h1 := slt k hk; have h2 := (oia.lt k e).1; omega)
  clear oia
  go_wp2_with fail
  go_at_call 16
  refine (heldInt64S A.length ia 1 w15 (by omega) (by omega) (by omega) (reads_own mia)).mono ?_
  rintro e w16 ⟨rfl, b16⟩
  have s16 := b16.size
  have L16 : Below w.heap.size w w16 := L15.trans (b16.mono (by omega))
  have osa := own_kept osa b16
  have mia := own_kept mia b16
  have hq0 : (decide ((1 : Int) + (A.length : Int) < 0)) = false := by simp; omega
  go_wp2_with fail
  go_at_call 10
  refine (txs w16 L16).mono ?_
  rintro e w17 ⟨dxs, rfl, odxs, b17⟩
  have s17 := b17.size
  have L17 : Below w.heap.size w w17 := L16.trans (b17.mono (by omega))
  have osa := own_kept osa b17
  have mia := own_kept mia b17
  go_wp2_with fail
  go_at_call 10
  refine (tys w17 L17).mono ?_
  rintro e w18 ⟨dys, rfl, odys, b18⟩
  have s18 := b18.size
  have L18 : Below w.heap.size w w18 := L17.trans (b18.mono (by omega))
  have osa := own_kept osa b18
  have mia := own_kept mia b18
  have odxs := own_kept odxs b18
  go_wp2_with fail
  go_at_call 22
  refine (him _ _ w18 hxs hys (reads_own odxs) (reads_own odys)).mono ?_
  rintro e w19 ⟨ja, rfl, oja, b19⟩
  have s19 := b19.size
  have L19 : Below w.heap.size w w19 := L18.trans (b19.mono (by omega))
  have osa := own_kept osa b19
  have mia := own_kept mia b19
  have odxs := own_kept odxs b19
  have odys := own_kept odys b19
  go_wp2_with fail
  go_at_call 12
  refine (eqInt64S A _ _ _ hA' (reads_own oja) (reads_own osa)).mono ?_
  rintro e w20 ⟨rfl, b20⟩
  have s20 := b20.size
  have L20 : Below w.heap.size w w20 := L19.trans (b20.mono (by omega))
  have osa := own_kept osa b20
  have mia := own_kept mia b20
  have oja := own_kept oja b20
  go_wp2_with fail
  go_at_call 16
  refine (heldInt64S A.length ia 1 w20 (by omega) (by omega) (by omega) (reads_own mia)).mono ?_
  rintro e w21 ⟨rfl, b21⟩
  have s21 := b21.size
  have L21 : Below w.heap.size w w21 := L20.trans (b21.mono (by omega))
  have mia := own_kept mia b21
  go_wp2
  go_ret
  exact ⟨rfl, L21⟩

set_option maxRecDepth 100000 in
theorem liftedFnExactJoin (os : Os) (started : os.Started) (H : Type) (enc : TypeId × Value → H) :
    ReturnsInHanded {} Try.checked os 7 .any (Rows.fnExactJoinSpec.pre6 enc Try.prog Try.f7 Rows.fnExactJoinRow.domain false) (Rows.fnExactJoinSpec.post enc Try.prog Try.f7 false true false false) := by
  refine returnsInHanded_of_change (C := Try.checked) own started (by kernel_rfl) Try.func7
    (ChangeSpec.witness6 (enc := enc) (C := Try.checked) false ⟨#[], #[.slice none 0 0, .slice none 0 0], []⟩ 8 (by kernel_rfl) (by kernel_rfl) (by kernel_rfl) (by kernel_rfl)) ?_
  intro W base args ds gs before hval0 hW hcnd _
  have hval : ∀ (j : Nat) t v, Try.f7.params[j]? = some t → args[j]? = some v → Value.okWide Try.prog W .any base t v := hval0
  have hW' := hW
  obtain ⟨p, q, hA0, hV, rfl, hfz, hnd⟩ := hW
  have hA : DataW.TrodAll enc Try.prog W 0 (fun _ => true) true Try.f7.params.toList args.toList ds p := hA0
  rw [Try.params7] at hA hval
  obtain ⟨v0, vs0, d0, ds0, p0, q0, hargs, rfl, rfl, h0, r0⟩ := trodAll_cons hA
  obtain ⟨v1, vs1, d1, ds1, p1, q1, rfl, rfl, rfl, h1, r1⟩ := trodAll_cons r0
  obtain ⟨rfl, rfl, rfl⟩ := trodAll_nil r1
  obtain rfl : args = #[v0, v1] := by cases args; simp_all
  obtain ⟨rfl, rfl⟩ := trodVars_none hV
  obtain ⟨xs, rxs, hxs⟩ := open_ints_arg (hval 0 22 v0 rfl rfl) h0
  obtain ⟨ys, rys, hys⟩ := open_ints_arg (hval 1 22 v1 rfl rfl) h1
  refine (walkJoin xs ys v0 v1 W hxs hys rxs rys).mono fun e W' ⟨he, hb⟩ => ?_
  subst he
  refine ⟨_, rfl, law_post (tb := 4) laidOut ?_ hW' rfl Try.underlying4 rfl rfl hb⟩
  exact all_readable (P := Try.prog) (by kernel_rfl)

theorem overFnExactJoin : Rows.fnExactJoinRow.holds Try.pinned (OpenSpec.ofChange Rows.fnExactJoinSpec) :=
  OpenClaim.holds_of_wide 7 Try.f7 rfl rfl rfl rfl rfl rfl rfl ⟨rfl, rfl, rfl, rfl, rfl⟩ rfl rfl rfl rfl rfl (by kernel_rfl) Try.func7 (by kernel_rfl)
    (of_decide_eq_true (by kernel_rfl)) (by unfold Func.isWrapper; first | (rw [if_pos (by decide +kernel)]; kernel_rfl) | (rw [if_neg (by decide +kernel)]; exact ⟨rfl, rfl⟩))
    (fun os started H enc _ => liftedFnExactJoin os started H enc)

/-- ████ THE STATEMENT ████ -/
theorem joinHolds : Rows.FnExactJoinSaid :=
  overFnExactJoin
#print axioms joinHolds

end Go.Proofs.Ytfdkhpoicbhgiaa
