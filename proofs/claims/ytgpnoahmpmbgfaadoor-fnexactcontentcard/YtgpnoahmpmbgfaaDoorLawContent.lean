/-
  The law FnExactContent: at every argument Content answers as the specification and writes into no argument; the tied card.
-/
import Derived.Test.YtgpnoahmpmbgfaaDoorContent14
import Derived.Test.YtgpnoahmpmbgfaaDoorOpenProc
import Derived.Test.YtgpnoahmpmbgfaaDoorCards
import Derived.Test.YtgpnoahmpmbgfaaDoorTie
import Derived.Deep.RegionHeld
import Derived.LaidMore
import Derived.SevenTiedAt
import Derived.Stop.Joined
namespace Go.Proofs.YtgpnoahmpmbgfaaDoor
open Go.ChangeShapes Go.WideShapes Go.ChangeAt Go.RowKit
set_option linter.unusedVariables false
set_option linter.unusedSimpArgs false
set_option maxHeartbeats 8000000
set_option maxRecDepth 20000

theorem walkContent (ps : List (List Stm)) (i : Int) (v : Value) (w : World) (hl : ps.length ≤ maxLen) (hp : ∀ p ∈ ps, p.length ≤ maxLen) (hv : ReadsP w v ps) :
    Calls Tryd.prog 4 #[.agg #[v], .int .i64 i] w fun r w' => r = .returned (.bool true) ∧ Below w.heap.size w w' := by
  have hsp := fun u W => specContent ps i u W hl hp
  have him := fun u W => implContent ps i u W hl hp
  obtain ⟨Q, hQ⟩ : ∃ Q, conA ps i = Q := ⟨_, rfl⟩
  rw [hQ] at hsp him
  clear hQ
  obtain ⟨W0, hW0⟩ : ∃ W0, w.alloc (.cells #[v] 24) = W0 := ⟨_, rfl⟩
  have L0 : Below w.heap.size w W0 := by rw [← hW0]; go_grown
  have H0 : W0.heap[w.heap.size]? = some (.cells #[v] 24 (0, 0)) := by rw [← hW0]; exact heap_alloc_new w _
  have s0 : W0.heap.size = w.heap.size + 1 := by rw [← hW0]; simp
  have hsz := szProgram ps v W0 hl hp (readsP_below hv L0)
  obtain ⟨p0, _⟩ := one_cell H0
  have hcm : Hid _ := hW0
  go_enter Tryd.func4, Tryd.ntmps4
  go_wp2_with fail
  go_at_call 6
  refine hsz.mono ?_
  rintro r w1 ⟨z, rfl, hz, b1⟩
  have s1 := b1.size
  have H1 : Hid (w1.heap[w.heap.size]? = some (.cells #[v] 24 (0, 0))) := (b1.block _ (by omega)).trans H0
  have L1 : Hid (Below w.heap.size w w1) := L0.trans (b1.mono (by omega))
  clear hsz hW0 hcm L0 H0 b1 p0
  by_cases h0 : z < 0
  · have hx : (decide (z < 0)) = true := by simpa using h0
    clear hz hsp him
    go_wp2
    go_ret
    exact ⟨rfl, L1.out⟩
  have hx : (decide (z < 0)) = false := by simpa using h0
  obtain ⟨hl', hp'⟩ := hz (by omega)
  have htp := fun W hW => toProgram ps v W hl' hp' hW
  clear hz
  obtain ⟨p0, -⟩ := one_cell H1.out
  go_wp2_with fail
  go_at_call 8
  refine (htp _ (readsP_below hv L1.out)).mono ?_
  rintro r w2 ⟨u, rfl, ou2, b2⟩
  obtain ⟨ua, um, uc, rfl⟩ := ownP_slice ou2
  have s2 := b2.size
  have H2 : Hid (w2.heap[w.heap.size]? = some (.cells #[v] 24 (0, 0))) := (b2.block _ (by omega)).trans H1.out
  have L2 : Hid (Below w.heap.size w w2) := L1.out.trans (b2.mono (by omega))
  have RU : Hid _ := readsP_own ou2
  clear p0 ou2 b2 H1 L1
  go_wp2_with fail
  go_at_call 11
  refine (hsp _ _ RU.out).mono ?_
  rintro r w3 ⟨rfl, b3⟩
  have s3 := b3.size
  have H3 : Hid (w3.heap[w.heap.size]? = some (.cells #[v] 24 (0, 0))) := (b3.block _ (by omega)).trans H2.out
  have L3 : Hid (Below w.heap.size w w3) := L2.out.trans (b3.mono (by omega))
  clear RU b3 H2 L2
  obtain ⟨p0, -⟩ := one_cell H3.out
  go_wp2_with fail
  go_at_call 8
  refine (htp _ (readsP_below hv L3.out)).mono ?_
  rintro r w5 ⟨u, rfl, ou5, b5⟩
  obtain ⟨pa, pm, pc, rfl⟩ := ownP_slice ou5
  have s5 := b5.size
  have H5 : Hid (w5.heap[w.heap.size]? = some (.cells #[v] 24 (0, 0))) := (b5.block _ (by omega)).trans H3.out
  have L5 : Hid (Below w.heap.size w w5) := L3.out.trans (b5.mono (by omega))
  have OX5 : Hid (OwnP w5 w3.heap.size w5.heap.size (.slice pa pm pc) ps) := ou5
  clear p0 ou5 b5 H3 L3
  obtain ⟨w6, hw6⟩ : ∃ w6, w5.alloc (.cells #[.slice pa pm pc] 29) = w6 := ⟨_, rfl⟩
  have b6 : Below w5.heap.size w5 w6 := by rw [← hw6]; go_grown
  have HX6 : Hid (w6.heap[w5.heap.size]? = some (.cells #[.slice pa pm pc] 29 (0, 0))) := by
    show w6.heap[w5.heap.size]? = _
    rw [← hw6]; exact heap_alloc_new w5 _
  have s6 := b6.size
  have H6 : Hid (w6.heap[w.heap.size]? = some (.cells #[v] 24 (0, 0))) := (b6.block _ (by omega)).trans H5.out
  have L6 : Hid (Below w.heap.size w w6) := L5.out.trans (b6.mono (by omega))
  have OX6 := ownP_kept OX5.out b6
  have RX6 : Hid (ReadsP w6 (.slice pa pm pc) ps) := readsP_own OX6
  obtain ⟨XX, hXX⟩ : ∃ n, w5.heap.size = n := ⟨_, rfl⟩
  rw [hXX] at HX6
  clear b6 OX5 OX6 H5 L5
  obtain ⟨cX, -⟩ := one_cell HX6.out
  have him6 := him _ _ RX6.out
  go_wp2_with fail
  go_at_call 12
  clear hw6 hXX
  refine him6.mono ?_
  rintro r w11 ⟨rfl, b11⟩
  have s11 := b11.size
  have lX6 := (Array.getElem?_eq_some_iff.1 HX6.out).1
  have H11 : Hid (w11.heap[w.heap.size]? = some (.cells #[v] 24 (0, 0))) := (b11.block _ (by omega)).trans H6.out
  have L11 : Hid (Below w.heap.size w w11) := L6.out.trans (b11.mono (by omega))
  have HX11 : Hid (w11.heap[XX]? = some (.cells #[.slice pa pm pc] 29 (0, 0))) := (b11.block _ lX6).trans HX6.out
  have RX11 : Hid (ReadsP w11 (.slice pa pm pc) ps) := readsP_below RX6.out b11
  clear him6 cX b11 H6 L6 HX6 RX6 lX6
  obtain ⟨p0, -⟩ := one_cell H11.out
  obtain ⟨cX, -⟩ := one_cell HX11.out
  have lP10 : w.heap.size < w11.heap.size := (Array.getElem?_eq_some_iff.1 H11.out).1
  have lX10 : XX < w11.heap.size := (Array.getElem?_eq_some_iff.1 HX11.out).1
  go_wp2_with fail
  refine wp_region_held_drew (S := fun w' => w'.cell? ⟨w.heap.size, 0, none⟩ = some v ∧ w'.cell? ⟨XX, 0, none⟩ = some (.slice pa pm pc)) (by kernel_rfl) ⟨p0, cX⟩ (fun hHeld => ?_)
  refine wpAnyH_take (i := 0) (oi := ?oira0) (v := .agg #[.slice pa pm pc]) ?hira0 (by kernel_rfl) (by kernel_rfl) (by kernel_rfl) ?hqra0 ?hyra0 hHeld ?hrra0
  case hira0 =>
    simp only [List.getElem?_toArray, List.getElem?_cons_succ, List.getElem?_cons_zero]
    rfl
  case hqra0 => exact fun _ _ _ h => h
  case hyra0 => exact Or.inl ⟨by kernel_rfl, fun w hSw => by obtain ⟨s0, s1⟩ := hSw; go_simp⟩
  try simp only [Act.put, List.setIfInBounds_toArray, List.set_cons_zero, List.set_cons_succ]
  refine wpAnyH_take (i := 1) (oi := ?oira1) (v := .agg #[v]) ?hira1 (by kernel_rfl) (by kernel_rfl) (by kernel_rfl) ?hqra1 ?hyra1 hHeld ?hrra1
  case hira1 =>
    simp only [List.getElem?_toArray, List.getElem?_cons_succ, List.getElem?_cons_zero]
    rfl
  case hqra1 => exact fun _ _ _ h => h
  case hyra1 => exact Or.inl ⟨by kernel_rfl, fun w hSw => by obtain ⟨s0, s1⟩ := hSw; go_simp⟩
  try simp only [Act.put, List.setIfInBounds_toArray, List.set_cons_zero, List.set_cons_succ]
  refine wpAnyH_ready (rs := [2]) (by kernel_rfl) (by simp) ?_
  refine (AllReadyH.cons (o := ?oora2) ?hora2 (fun K hK => ?hkra2) AllReadyH.nil)
  case hora2 =>
    simp only [List.getElem?_toArray, List.getElem?_cons_succ, List.getElem?_cons_zero]
    rfl
  case hkra2 =>
    go_simp
    go_at_call 8
    refine (htp _ (readsP_below hv L11.out.drew)).mono ?_
    rintro r w12 ⟨y, rfl, oy, b12⟩
    have B12 : Hid (Below w11.heap.size w11 w12) := Below.trans (Below.drew (Below.refl _ _)) b12
    have OY : Hid _ := oy
    clear oy b12
    try go_wp2_with fail
    refine hK.out _ _ ⟨(B12.out.cell lP10).trans p0, (B12.out.cell lX10).trans cX⟩ (fun hHeld => ?_)
    clear hK K
    try simp only [Act.put, List.setIfInBounds_toArray, List.set_cons_zero, List.set_cons_succ]
    refine wpAnyH_ready (rs := [3]) (by kernel_rfl) (by simp) ?_
    refine (AllReadyH.cons (o := ?oora3) ?hora3 (fun K hK => ?hkra3) AllReadyH.nil)
    case hora3 =>
      simp only [List.getElem?_toArray, List.getElem?_cons_succ, List.getElem?_cons_zero]
      rfl
    case hkra3 =>
      go_simp
      go_at_call 10
      refine (eqProgram ps _ _ w12 hl hp (readsP_below RX11.out B12.out) (readsP_own OY.out)).mono ?_
      rintro r w13 ⟨rfl, b13'⟩
      have B13 : Hid (Below w11.heap.size w11 w13) := B12.out.trans (b13'.mono B12.out.size)
      try go_wp2_with fail
      refine hK.out _ _ ⟨(B13.out.cell lP10).trans p0, (B13.out.cell lX10).trans cX⟩ (fun hHeld => ?_)
      clear hK K
      try simp only [Act.put, List.setIfInBounds_toArray, List.set_cons_zero, List.set_cons_succ]
      refine wpAnyH_take (i := 4) (oi := ?oira4) (v := .bool false) ?hira4 (by kernel_rfl) (by kernel_rfl) (by kernel_rfl) ?hqra4 ?hyra4 hHeld ?hrra4
      case hira4 =>
        simp only [List.getElem?_toArray, List.getElem?_cons_succ, List.getElem?_cons_zero]
        rfl
      case hqra4 => exact fun _ _ _ h => h
      case hyra4 => exact Or.inl ⟨by kernel_rfl, fun w hSw => by go_simp⟩
      try simp only [Act.put, List.setIfInBounds_toArray, List.set_cons_zero, List.set_cons_succ]
      refine wpAnyH_done (by kernel_rfl) ?_ _
      have L13 : Hid (Below w.heap.size w w13) := L11.out.trans (B13.out.mono (by omega))
      clear b13' B12 B13 OY p0 cX lP10 lX10 L11
      go_wp2
      go_ret
      exact ⟨rfl, L13.out⟩

theorem doorMetContent (os : Os) (args : Array Value) : laidMetH Tryd.prog Rows.fnExactContentRow.laid ((World.doorLaid Tryd.prog 4000 os).forCall (fun _ _ => 0) ⟨#[], args, []⟩).memory :=
  laidMetH_of_parts3 (fuel := 8) (laidMet_of_run' 8 (by kernel_rfl) (by kernel_rfl)) (by kernel_rfl) (by kernel_rfl)

set_option maxRecDepth 100000 in
theorem liftedContent (os : Os) (started : os.Started) (H : Type) (enc : TypeId × Value → H) :
    ReturnsInHanded {} Tryd.checked os 4 .any (fun w args => (Rows.fnExactContentSpec.pre enc Tryd.prog Tryd.f4 [] false w args ∧ laidMetH Tryd.prog Rows.fnExactContentRow.laid w) ∧ sizedMet enc Tryd.prog Tryd.f4 (OpenSpec.ofChange Rows.fnExactContentSpec) false w args)
      (Rows.fnExactContentSpec.post enc Tryd.prog Tryd.f4 false true false false) := by
  refine returnsInHanded_of_change_and (C := Tryd.checked) (X := fun w _ => laidMetH Tryd.prog Rows.fnExactContentRow.laid w) (fun _ _ _ hh h => h.of_heap hh) own started (by kernel_rfl) Tryd.func4
    (ChangeSpec.witness_shaped (enc := enc) (C := Tryd.checked) (os := os) (X := fun w _ => laidMetH Tryd.prog Rows.fnExactContentRow.laid w) false (World.doorLaid Tryd.prog 4000 os) #[.agg #[.slice none 0 0], .int .i64 0] 8 rfl (World.shaped_of_RefB (by kernel_rfl) (by kernel_rfl)) (by kernel_rfl) (by kernel_rfl) (by kernel_rfl) (doorMetContent os _)) ?_
  intro W base args ds gs before hval0 hW _ _ hL _
  have hval : ∀ (j : Nat) t v, Tryd.f4.params[j]? = some t → args[j]? = some v → Value.okWide Tryd.prog W .any base t v := hval0
  have hW' := hW
  obtain ⟨p, q, hA0, hV, rfl, hfz, hnd⟩ := hW
  have hA : DataW.TrodAll enc Tryd.prog W 0 (fun _ => true) true Tryd.f4.params.toList args.toList ds p := hA0
  rw [Tryd.params4] at hA hval
  obtain ⟨v0, vs0, d0, ds0, p0, q0, hargs, rfl, rfl, h0, r0⟩ := trodAll_cons hA
  obtain ⟨v1, vs1, d1, ds1, p1, q1, rfl, rfl, rfl, h1, r1⟩ := trodAll_cons r0
  obtain ⟨rfl, rfl, rfl⟩ := trodAll_nil r1
  obtain rfl : args = #[v0, v1] := by cases args; simp_all
  obtain ⟨rfl, rfl⟩ := trodVars_none hV
  obtain ⟨v, ps, rfl, hr, hl, hq⟩ := open_program (hval 0 24 v0 rfl rfl) h0
  obtain ⟨i, rfl, _⟩ := open_int Tryd.underlying2 (hval 1 2 v1 rfl rfl) h1
  refine (walkContent ps i v W hl hq hr).mono fun e W' ⟨he, hb⟩ => ?_
  subst he
  refine ⟨_, rfl, law_post (tb := 4) laidOut ?_ hW' rfl Tryd.underlying4 rfl rfl hb⟩
  exact all_readable (P := Tryd.prog) (by kernel_rfl)

theorem overContent : Rows.FnExactContentSaid :=
  OpenClaim.holds_of_wide 4 Tryd.f4 rfl rfl rfl rfl rfl rfl rfl ⟨rfl, rfl, rfl, rfl, rfl⟩ rfl rfl rfl rfl rfl (by kernel_rfl) Tryd.func4 (by kernel_rfl)
    (of_decide_eq_true (by kernel_rfl)) (by unfold Func.isWrapper; first | (rw [if_pos (by decide +kernel)]; kernel_rfl) | (rw [if_neg (by decide +kernel)]; exact ⟨rfl, rfl⟩))
    (fun os started H enc _ => liftedContent os started H enc)

/-- ████ THE STATEMENT: the tied card ████ -/
theorem contentHolds : Rows.FnExactContentCardSaid :=
  Claim7.holds_tied_plain_at .later [] [.data, .data, .data] true Rows.fnExactContentCard.stood.harness false
    overContent (fun _ h => by cases h) (by kernel_rfl) (fun _ h => by cases h) fnExactContent_row_tie rfl ⟨rfl, rfl⟩ (by kernel_rfl) rfl
    (fun f fn hf hfn => by
      obtain rfl : f = 4 := Option.some.inj ((show Tryd.prog.funcNamed Rows.fnExactContentRow.func = some 4 by kernel_rfl).symm.trans hf) |>.symm
      obtain rfl : fn = Tryd.f4 := (Option.some.inj (Tryd.func4.symm.trans hfn)).symm
      exact ⟨by kernel_rfl, fun j t ht => by
        rw [Tryd.params4] at ht
        rcases j with _ | _ | j
        · have h3 : t = 24 := by simpa using ht.symm
          subst h3
          exact (show Tryd.prog.wantsStandIn 24 = false by kernel_rfl)
        · have h3 : t = 2 := by simpa using ht.symm
          subst h3
          exact (show Tryd.prog.wantsStandIn 2 = false by kernel_rfl)
        · simp at ht⟩)
    (by kernel_rfl)
#print axioms contentHolds

end Go.Proofs.YtgpnoahmpmbgfaaDoor
