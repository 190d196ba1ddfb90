/-
  The law FnExactQueueOk: at every Queue QueueOk answers as the specification and writes into no argument.
-/
import Derived.Test.YtceialfhonkceaaQueOk
import Derived.Test.YtceialfhonkceaaQueLaw
import Derived.Test.YtceialfhonkceaaLift
namespace Go.Proofs.Ytceialfhonkceaa
open Go.ChangeShapes Go.WideShapes Go.ChangeAt Go.RowKit
set_option linter.unusedVariables false
set_option linter.unusedSimpArgs false
set_option maxHeartbeats 4000000
set_option maxRecDepth 20000

theorem walkQueueOk (t : Int) (X : List (List Int)) (v : Value) (w : World) (hl : X.length ≤ maxLen) (hx : ∀ p ∈ X, p.length ≤ maxLen) (hv : ReadsSS w v X) :
    Calls Try.prog 3 #[.agg #[.int .i64 t, v]] w fun e w' => e = .returned (.bool true) ∧ Below w.heap.size w w' := by
  have hsp := fun u W => specQueueOk t X u W hl hx
  have him := fun u W => implQueueOk t X u W hl hx
  obtain ⟨Q, hQ⟩ : ∃ Q, queB t X = Q := ⟨_, rfl⟩
  rw [hQ] at hsp him
  clear hQ
  obtain ⟨va, vm, vc, hvv⟩ : ∃ a m c, v = .slice a m c := by obtain ⟨a, c, e, _⟩ := hv; exact ⟨_, _, _, e⟩
  subst hvv
  obtain ⟨W0, hW0⟩ : ∃ W0, w.alloc (.cells #[.int .i64 t, .slice va vm vc] 24) = W0 := ⟨_, rfl⟩
  have L0 : Below w.heap.size w W0 := by rw [← hW0]; go_grown
  have H0 : W0.heap[w.heap.size]? = some (.cells #[.int .i64 t, .slice va vm vc] 24 (0, 0)) := by rw [← hW0]; exact heap_alloc_new w _
  have s0 : W0.heap.size = w.heap.size + 1 := by rw [← hW0]; simp
  have hsz := szQueue t X (.slice va vm vc) 1048576 W0 (by omega) (by omega) hl hx (readsSS_below hv L0)
  obtain ⟨p0, p1, _, _⟩ := two_cellsQ H0
  go_enter Try.func3, Try.ntmps3
  go_wp2_with fail
  go_at_call 8
  refine hsz.mono ?_
  rintro r w1 ⟨z, rfl, hz, b1⟩
  have s1 := b1.size
  have H1 : Hid (w1.heap[w.heap.size]? = some (.cells #[.int .i64 t, .slice va vm vc] 24 (0, 0))) := (b1.block _ (by omega)).trans H0
  have L1 : Hid (Below w.heap.size w w1) := L0.trans (b1.mono (by omega))
  clear hsz hW0 L0 H0 b1 p0 p1
  by_cases h0 : z < 0
  · have hx0 : (decide (z < 0)) = true := by simpa using h0
    clear hz hsp him
    go_wp2
    go_ret
    exact ⟨rfl, L1.out⟩
  have hx0 : (decide (z < 0)) = false := by simpa using h0
  obtain ⟨hl', hp'⟩ := hz (by omega)
  have htq := fun W hW => toQueue t X (.slice va vm vc) W hl' hp' hW
  clear hz
  obtain ⟨p0, p1, -, -⟩ := two_cellsQ H1.out
  go_wp2_with fail
  go_at_call 10
  refine (htq _ (readsSS_below hv L1.out)).mono ?_
  rintro r w2 ⟨u, us, rfl, ou2, _, b2⟩
  obtain ⟨ua, um, uc, rfl⟩ := own_sliceQ ou2.row
  have s2 := b2.size
  have H2 : Hid (w2.heap[w.heap.size]? = some (.cells #[.int .i64 t, .slice va vm vc] 24 (0, 0))) := (b2.block _ (by omega)).trans H1.out
  have L2 : Hid (Below w.heap.size w w2) := L1.out.trans (b2.mono (by omega))
  have RU : Hid _ := ou2.reads
  clear p0 p1 ou2 b2 H1 L1
  go_wp2_with fail
  go_at_call 9
  refine (hsp _ _ RU.out).mono ?_
  rintro r w3 ⟨rfl, b3⟩
  have s3 := b3.size
  have H3 : Hid (w3.heap[w.heap.size]? = some (.cells #[.int .i64 t, .slice va vm vc] 24 (0, 0))) := (b3.block _ (by omega)).trans H2.out
  have L3 : Hid (Below w.heap.size w w3) := L2.out.trans (b3.mono (by omega))
  clear RU b3 H2 L2
  obtain ⟨p0, p1, -, -⟩ := two_cellsQ H3.out
  go_wp2_with fail
  go_at_call 10
  refine (htq _ (readsSS_below hv L3.out)).mono ?_
  rintro r w5 ⟨u, us, rfl, ou5, _, b5⟩
  obtain ⟨pa, pm, pc, rfl⟩ := own_sliceQ ou5.row
  have s5 := b5.size
  have H5 : Hid (w5.heap[w.heap.size]? = some (.cells #[.int .i64 t, .slice va vm vc] 24 (0, 0))) := (b5.block _ (by omega)).trans H3.out
  have L5 : Hid (Below w.heap.size w w5) := L3.out.trans (b5.mono (by omega))
  have RX5 : Hid (ReadsSS w5 (.slice pa pm pc) X) := ou5.reads
  clear p0 p1 ou5 b5 H3 L3
  obtain ⟨w6, hw6⟩ : ∃ w6, w5.alloc (.cells #[.int .i64 t, .slice pa pm pc] 27) = w6 := ⟨_, rfl⟩
  have b6 : Below w5.heap.size w5 w6 := by rw [← hw6]; go_grown
  have HX6 : Hid (w6.heap[w5.heap.size]? = some (.cells #[.int .i64 t, .slice pa pm pc] 27 (0, 0))) := by
    show w6.heap[w5.heap.size]? = _
    rw [← hw6]; exact heap_alloc_new w5 _
  have s6 := b6.size
  have H6 : Hid (w6.heap[w.heap.size]? = some (.cells #[.int .i64 t, .slice va vm vc] 24 (0, 0))) := (b6.block _ (by omega)).trans H5.out
  have L6 : Hid (Below w.heap.size w w6) := L5.out.trans (b6.mono (by omega))
  have RX6 : Hid (ReadsSS w6 (.slice pa pm pc) X) := readsSS_below RX5.out b6
  obtain ⟨XX, hXX⟩ : ∃ n, w5.heap.size = n := ⟨_, rfl⟩
  rw [hXX] at HX6
  clear b6 RX5 H5 L5
  obtain ⟨cX, cX1, -, -⟩ := two_cellsQ HX6.out
  have him6 := him _ _ RX6.out
  go_wp2_with fail
  go_at_call 11
  clear hw6 hXX
  refine him6.mono ?_
  rintro r w11 ⟨rfl, b11⟩
  have s11 := b11.size
  have lX6 := (Array.getElem?_eq_some_iff.1 HX6.out).1
  have H11 : Hid (w11.heap[w.heap.size]? = some (.cells #[.int .i64 t, .slice va vm vc] 24 (0, 0))) := (b11.block _ (by omega)).trans H6.out
  have L11 : Hid (Below w.heap.size w w11) := L6.out.trans (b11.mono (by omega))
  have HX11 : Hid (w11.heap[XX]? = some (.cells #[.int .i64 t, .slice pa pm pc] 27 (0, 0))) := (b11.block _ lX6).trans HX6.out
  have RX11 : Hid (ReadsSS w11 (.slice pa pm pc) X) := readsSS_below RX6.out b11
  clear him6 cX cX1 b11 H6 L6 HX6 RX6 lX6
  obtain ⟨p0, p1, -, -⟩ := two_cellsQ H11.out
  obtain ⟨cX, cX1, -, -⟩ := two_cellsQ HX11.out
  have lP10 : w.heap.size < w11.heap.size := (Array.getElem?_eq_some_iff.1 H11.out).1
  have lX10 : XX < w11.heap.size := (Array.getElem?_eq_some_iff.1 HX11.out).1
  go_wp2_with fail
  refine wp_region_held_drew (S := fun w' => (w'.cell? ⟨w.heap.size, 0, none⟩ = some (.int .i64 t) ∧ w'.cell? ⟨w.heap.size, 1, none⟩ = some (.slice va vm vc)) ∧ (w'.cell? ⟨XX, 0, none⟩ = some (.int .i64 t) ∧ w'.cell? ⟨XX, 1, none⟩ = some (.slice pa pm pc))) (by kernel_rfl) ⟨⟨p0, p1⟩, cX, cX1⟩ (fun hHeld => ?_)
  refine wpAnyH_take (i := 0) (oi := ?oira0) (v := .agg #[.int .i64 t, .slice pa pm pc]) ?hira0 (by kernel_rfl) (by kernel_rfl) (by kernel_rfl) ?hqra0 ?hyra0 hHeld ?hrra0
  case hira0 =>
    simp only [List.getElem?_toArray, List.getElem?_cons_succ, List.getElem?_cons_zero]
    rfl
  case hqra0 => exact fun _ _ _ h => h
  case hyra0 => exact Or.inl ⟨by kernel_rfl, fun w hSw => by obtain ⟨⟨s0, s1⟩, s2, s3⟩ := hSw; go_simp⟩
  try simp only [Act.put, List.setIfInBounds_toArray, List.set_cons_zero, List.set_cons_succ]
  refine wpAnyH_take (i := 1) (oi := ?oira1) (v := .agg #[.int .i64 t, .slice va vm vc]) ?hira1 (by kernel_rfl) (by kernel_rfl) (by kernel_rfl) ?hqra1 ?hyra1 hHeld ?hrra1
  case hira1 =>
    simp only [List.getElem?_toArray, List.getElem?_cons_succ, List.getElem?_cons_zero]
    rfl
  case hqra1 => exact fun _ _ _ h => h
  case hyra1 => exact Or.inl ⟨by kernel_rfl, fun w hSw => by obtain ⟨⟨s0, s1⟩, s2, s3⟩ := hSw; go_simp⟩
  try simp only [Act.put, List.setIfInBounds_toArray, List.set_cons_zero, List.set_cons_succ]
  refine wpAnyH_ready (rs := [2]) (by kernel_rfl) (by simp) ?_
  refine (AllReadyH.cons (o := ?oora2) ?hora2 (fun K hK => ?hkra2) AllReadyH.nil)
  case hora2 =>
    simp only [List.getElem?_toArray, List.getElem?_cons_succ, List.getElem?_cons_zero]
    rfl
  case hkra2 =>
    go_simp
    go_at_call 10
    refine (htq _ (readsSS_below hv L11.out.drew)).mono ?_
    rintro r w12 ⟨y, ys, rfl, oy, _, b12⟩
    have B12 : Hid (Below w11.heap.size w11 w12) := Below.trans (Below.drew (Below.refl _ _)) b12
    have OY : Hid _ := oy.reads
    clear oy b12
    try go_wp2_with fail
    refine hK.out _ _ ⟨⟨(B12.out.cell lP10).trans p0, (B12.out.cell lP10).trans p1⟩, (B12.out.cell lX10).trans cX, (B12.out.cell lX10).trans cX1⟩ (fun hHeld => ?_)
    clear hK K
    try simp only [Act.put, List.setIfInBounds_toArray, List.set_cons_zero, List.set_cons_succ]
    refine wpAnyH_ready (rs := [3]) (by kernel_rfl) (by simp) ?_
    refine (AllReadyH.cons (o := ?oora3) ?hora3 (fun K hK => ?hkra3) AllReadyH.nil)
    case hora3 =>
      simp only [List.getElem?_toArray, List.getElem?_cons_succ, List.getElem?_cons_zero]
      rfl
    case hkra3 =>
      go_simp
      go_at_call 12
      refine (eqQueue t X _ _ w12 hl hx (readsSS_below RX11.out B12.out) OY.out).mono ?_
      rintro r w13 ⟨rfl, b13'⟩
      have B13 : Hid (Below w11.heap.size w11 w13) := B12.out.trans (b13'.mono B12.out.size)
      try go_wp2_with fail
      refine hK.out _ _ ⟨⟨(B13.out.cell lP10).trans p0, (B13.out.cell lP10).trans p1⟩, (B13.out.cell lX10).trans cX, (B13.out.cell lX10).trans cX1⟩ (fun hHeld => ?_)
      clear hK K
      try simp only [Act.put, List.setIfInBounds_toArray, List.set_cons_zero, List.set_cons_succ]
      refine wpAnyH_take (i := 4) (oi := ?oira4) (v := .bool false) ?hira4 (by kernel_rfl) (by kernel_rfl) (by kernel_rfl) ?hqra4 ?hyra4 hHeld ?hrra4
      case hira4 =>
        simp only [List.getElem?_toArray, List.getElem?_cons_succ, List.getElem?_cons_zero]
        rfl
      case hqra4 => exact fun _ _ _ h => h
      case hyra4 => exact Or.inl ⟨by kernel_rfl, fun w hSw => by go_simp⟩
      try simp only [Act.put, List.setIfInBounds_toArray, List.set_cons_zero, List.set_cons_succ]
      refine wpAnyH_done (by kernel_rfl) ?_ _
      have L13 : Hid (Below w.heap.size w w13) := L11.out.trans (B13.out.mono (by omega))
      clear b13' B12 B13 OY p0 p1 cX cX1 lP10 lX10 L11
      go_wp2
      go_ret
      exact ⟨rfl, L13.out⟩

set_option maxRecDepth 100000 in
theorem liftedFnExactQueueOk (os : Os) (started : os.Started) (H : Type) (enc : TypeId × Value → H) :
    ReturnsInHanded {} Try.checked os 3 .any (Rows.fnExactQueueOkSpec.pre6 enc Try.prog Try.f3 Rows.fnExactQueueOkRow.domain false) (Rows.fnExactQueueOkSpec.post enc Try.prog Try.f3 false true false false) := by
  refine returnsInHanded_of_change (C := Try.checked) own started (by kernel_rfl) Try.func3
    (ChangeSpec.witness6 (enc := enc) (C := Try.checked) false ⟨#[], #[.agg #[.int .i64 0, .slice none 0 0]], []⟩ 8 (by kernel_rfl) (by kernel_rfl) (by kernel_rfl) (by kernel_rfl)) ?_
  intro W base args ds gs before hval0 hW hcnd _
  have hval : ∀ (j : Nat) t v, Try.f3.params[j]? = some t → args[j]? = some v → Value.okWide Try.prog W .any base t v := hval0
  have hW' := hW
  obtain ⟨p, q, hA0, hV, rfl, hfz, hnd⟩ := hW
  have hA : DataW.TrodAll enc Try.prog W 0 (fun _ => true) true Try.f3.params.toList args.toList ds p := hA0
  rw [Try.params3] at hA hval
  obtain ⟨v0, d0, rfl, rfl, h0⟩ := trodAll_one hA
  obtain ⟨rfl, rfl⟩ := trodVars_none hV
  obtain ⟨t, v, X, rfl, hr, hl, hx⟩ := open_queue (hval 0 24 v0 rfl rfl) h0
  refine (walkQueueOk t X v W hl hx hr).mono fun e W' ⟨he, hb⟩ => ?_
  subst he
  refine ⟨_, rfl, law_post (tb := 4) laidOut ?_ hW' rfl Try.underlying4 rfl rfl hb⟩
  exact all_readable (P := Try.prog) (by kernel_rfl)

theorem overFnExactQueueOk : Rows.fnExactQueueOkRow.holds Try.pinned (OpenSpec.ofChange Rows.fnExactQueueOkSpec) :=
  OpenClaim.holds_of_wide 3 Try.f3 rfl rfl rfl rfl rfl rfl rfl ⟨rfl, rfl, rfl, rfl, rfl⟩ rfl rfl rfl rfl rfl (by kernel_rfl) Try.func3 (by kernel_rfl)
    (of_decide_eq_true (by kernel_rfl)) (by unfold Func.isWrapper; first | (rw [if_pos (by decide +kernel)]; kernel_rfl) | (rw [if_neg (by decide +kernel)]; exact ⟨rfl, rfl⟩))
    (fun os started H enc _ => liftedFnExactQueueOk os started H enc)

/-- ████ THE STATEMENT ████ -/
theorem queueOkHolds : Rows.FnExactQueueOkSaid :=
  overFnExactQueueOk
#print axioms queueOkHolds

end Go.Proofs.Ytceialfhonkceaa
