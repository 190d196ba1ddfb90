/-
  The law FnExactDeep: at every argument Deep answers as the specification and writes into no argument.
-/
import Derived.Test.YtepahapocgmhiaaDeepV
import Derived.Test.YtepahapocgmhiaaLawValueOk
namespace Go.Proofs.Ytepahapocgmhiaa
open Go.ChangeShapes Go.WideShapes Go.ChangeAt Go.RowKit
set_option linter.unusedVariables false
set_option linter.unusedSimpArgs false
set_option maxHeartbeats 8000000
set_option maxRecDepth 20000

theorem dp_same {P : Prop} {c b1 b2 : Int} (h1 : (P → b1 = c) ∧ (¬ P → b1 = 0)) (h2 : (P → b2 = c) ∧ (¬ P → b2 = 0)) : b2 = b1 := by
  by_cases h : P
  · rw [h1.1 h, h2.1 h]
  · rw [h1.2 h, h2.2 h]

theorem walkDeep (d : Nat) (x : Val d) (cs : List Value) (w : World) (h : RdV d w cs x) :
    Calls Try.prog 3 #[.agg cs.toArray] w fun e w' => e = .returned (.bool true) ∧ Below w.heap.size w w' := by
  obtain ⟨k0, n0, t0, a0, m0, c0, b0, r0, s0, rfl⟩ := h.form
  obtain ⟨W0, hW0⟩ : ∃ W, w.alloc (.cells #[.int .i64 k0, .int .i64 n0, .string t0, .slice a0 m0 c0, .slice b0 r0 s0] 25) = W := ⟨_, rfl⟩
  have hB : Below w.heap.size w W0 := by rw [← hW0]; go_grown
  obtain ⟨bA, hbA⟩ : ∃ n, w.heap.size = n := ⟨_, rfl⟩
  have A0 : Hid (W0.heap[bA]? = some (.cells #[.int .i64 k0, .int .i64 n0, .string t0, .slice a0 m0 c0, .slice b0 r0 s0] 25 (0, 0))) := by
    show W0.heap[bA]? = _
    rw [← hW0, ← hbA]; exact heap_alloc_new w _
  have R0 : Hid (RdV d W0 [.int .i64 k0, .int .i64 n0, .string t0, .slice a0 m0 c0, .slice b0 r0 s0] x) := h.below hB
  have L0 : Hid (Below w.heap.size w W0) := hB
  have hsz := szValue d x [.int .i64 k0, .int .i64 n0, .string t0, .slice a0 m0 c0, .slice b0 r0 s0] 1048576 W0 (by omega) (by omega) R0.out
  obtain ⟨q0, q1, q2, q3, q4⟩ := five_in A0.out
  clear h hB
  go_enter Try.func3, Try.ntmps3
  go_wp2_with fail
  go_at_call 7
  clear hW0 hbA
  refine hsz.mono ?_
  rintro e W1 ⟨z, rfl, -, -, hfine, hB1⟩
  have A1 : Hid (W1.heap[bA]? = some (.cells #[.int .i64 k0, .int .i64 n0, .string t0, .slice a0 m0 c0, .slice b0 r0 s0] 25 (0, 0))) := box_step A0.out hB1
  have R1 : Hid (RdV d W1 [.int .i64 k0, .int .i64 n0, .string t0, .slice a0 m0 c0, .slice b0 r0 s0] x) := R0.out.below hB1
  have L1 : Hid (Below w.heap.size w W1) := low_step L0.out hB1
  clear hsz hB1 A0 R0 L0 q0 q1 q2 q3 q4
  by_cases hz : z < 0
  · have hz' : decide (z < 0) = true := decide_eq_true hz
    clear hfine hz
    go_wp2
    go_ret
    exact ⟨rfl, L1.out⟩
  have hz' : decide (z < 0) = false := decide_eq_false hz
  have HF : Hid (FineV d 1048576 x) := hfine (by omega)
  have hto := toValue d x [.int .i64 k0, .int .i64 n0, .string t0, .slice a0 m0 c0, .slice b0 r0 s0] W1 R1.out HF.out
  obtain ⟨q0, q1, q2, q3, q4⟩ := five_in A1.out
  clear hfine hz
  go_wp2_with fail
  go_at_call 9
  refine hto.mono ?_
  rintro e W2 ⟨k1, n1, t1, a1, m1, c1, b1, r1, s1, rfl, hrd1, hB2⟩
  have A2 : Hid (W2.heap[bA]? = some (.cells #[.int .i64 k0, .int .i64 n0, .string t0, .slice a0 m0 c0, .slice b0 r0 s0] 25 (0, 0))) := box_step A1.out hB2
  have R2 : Hid (RdV d W2 [.int .i64 k0, .int .i64 n0, .string t0, .slice a0 m0 c0, .slice b0 r0 s0] x) := R1.out.below hB2
  have L2 : Hid (Below w.heap.size w W2) := low_step L1.out hB2
  have hsp := specDeep x _ W2 (RdVL.of hrd1)
  clear hto hrd1 hB2 A1 R1 L1 q0 q1 q2 q3 q4
  go_wp2_with fail
  go_at_call 8
  refine hsp.mono ?_
  rintro e W3 ⟨bw, rfl, hby, hbn, hB3⟩
  have A3 : Hid (W3.heap[bA]? = some (.cells #[.int .i64 k0, .int .i64 n0, .string t0, .slice a0 m0 c0, .slice b0 r0 s0] 25 (0, 0))) := box_step A2.out hB3
  have R3 : Hid (RdV d W3 [.int .i64 k0, .int .i64 n0, .string t0, .slice a0 m0 c0, .slice b0 r0 s0] x) := R2.out.below hB3
  have L3 : Hid (Below w.heap.size w W3) := low_step L2.out hB3
  have HBW : Hid ((RightV d x 6 ∧ cntV d x ≤ 100 → bw = deepV d x) ∧ (¬ (RightV d x 6 ∧ cntV d x ≤ 100) → bw = 0)) := ⟨hby, hbn⟩
  have hto := toValue d x [.int .i64 k0, .int .i64 n0, .string t0, .slice a0 m0 c0, .slice b0 r0 s0] W3 R3.out HF.out
  obtain ⟨q0, q1, q2, q3, q4⟩ := five_in A3.out
  clear hsp hby hbn hB3 A2 R2 L2
  go_wp2_with fail
  go_at_call 9
  refine hto.mono ?_
  rintro e W4 ⟨k2, n2, t2, a2, m2, c2, b2, r2, s2, rfl, hrd2, hB4⟩
  have A4 : Hid (W4.heap[bA]? = some (.cells #[.int .i64 k0, .int .i64 n0, .string t0, .slice a0 m0 c0, .slice b0 r0 s0] 25 (0, 0))) := box_step A3.out hB4
  have R4 : Hid (RdV d W4 [.int .i64 k0, .int .i64 n0, .string t0, .slice a0 m0 c0, .slice b0 r0 s0] x) := R3.out.below hB4
  have L4 : Hid (Below w.heap.size w W4) := low_step L3.out hB4
  obtain ⟨W5, hW5⟩ : ∃ W, W4.alloc (.cells #[.int .i64 k2, .int .i64 n2, .string t2, .slice a2 m2 c2, .slice b2 r2 s2] 30) = W := ⟨_, rfl⟩
  have hB5 : Below W4.heap.size W4 W5 := by rw [← hW5]; go_grown
  obtain ⟨bX, hbX⟩ : ∃ n, W4.heap.size = n := ⟨_, rfl⟩
  have X5 : Hid (W5.heap[bX]? = some (.cells #[.int .i64 k2, .int .i64 n2, .string t2, .slice a2 m2 c2, .slice b2 r2 s2] 30 (0, 0))) := by
    show W5.heap[bX]? = _
    rw [← hW5, ← hbX]; exact heap_alloc_new W4 _
  have A5 : Hid (W5.heap[bA]? = some (.cells #[.int .i64 k0, .int .i64 n0, .string t0, .slice a0 m0 c0, .slice b0 r0 s0] 25 (0, 0))) := box_step A4.out hB5
  have R5 : Hid (RdV d W5 [.int .i64 k0, .int .i64 n0, .string t0, .slice a0 m0 c0, .slice b0 r0 s0] x) := R4.out.below hB5
  have L5 : Hid (Below w.heap.size w W5) := low_step L4.out hB5
  have V5 : Hid (RdV d W5 [.int .i64 k2, .int .i64 n2, .string t2, .slice a2 m2 c2, .slice b2 r2 s2] x) := hrd2.rd.below hB5
  have him := implDeep x _ W5 (RdVL.of (hrd2.below hB5))
  obtain ⟨p0, p1, p2, p3, p4⟩ := five_in X5.out
  clear hto hrd2 hB4 hB5 A3 R3 L3 A4 R4 L4 q0 q1 q2 q3 q4
  go_wp2_with fail
  go_at_call 10
  clear hW5 hbX
  refine him.mono ?_
  rintro e W6 ⟨bg, rfl, hgy, hgn, hB6⟩
  obtain rfl := dp_same HBW.out ⟨hgy, hgn⟩
  have X6 : Hid (W6.heap[bX]? = some (.cells #[.int .i64 k2, .int .i64 n2, .string t2, .slice a2 m2 c2, .slice b2 r2 s2] 30 (0, 0))) := box_step X5.out hB6
  have A6 : Hid (W6.heap[bA]? = some (.cells #[.int .i64 k0, .int .i64 n0, .string t0, .slice a0 m0 c0, .slice b0 r0 s0] 25 (0, 0))) := box_step A5.out hB6
  have R6 : Hid (RdV d W6 [.int .i64 k0, .int .i64 n0, .string t0, .slice a0 m0 c0, .slice b0 r0 s0] x) := R5.out.below hB6
  have L6 : Hid (Below w.heap.size w W6) := low_step L5.out hB6
  have V6 : Hid (RdV d W6 [.int .i64 k2, .int .i64 n2, .string t2, .slice a2 m2 c2, .slice b2 r2 s2] x) := V5.out.below hB6
  have hne : (bg != bg) = false := by simp
  obtain ⟨q0, q1, q2, q3, q4⟩ := five_in A6.out
  obtain ⟨p0, p1, p2, p3, p4⟩ := five_in X6.out
  clear him hgy hgn hB6 HBW X5 A5 R5 L5 V5
  have HS : Hid (∀ Z, Below W6.heap.size W6 Z → Z.cell? ⟨bA, 0, none⟩ = some (.int .i64 k0) ∧ Z.cell? ⟨bA, 1, none⟩ = some (.int .i64 n0) ∧ Z.cell? ⟨bA, 2, none⟩ = some (.string t0) ∧ Z.cell? ⟨bA, 3, none⟩ = some (.slice a0 m0 c0) ∧ Z.cell? ⟨bA, 4, none⟩ = some (.slice b0 r0 s0) ∧ Z.cell? ⟨bX, 0, none⟩ = some (.int .i64 k2) ∧ Z.cell? ⟨bX, 1, none⟩ = some (.int .i64 n2) ∧ Z.cell? ⟨bX, 2, none⟩ = some (.string t2) ∧ Z.cell? ⟨bX, 3, none⟩ = some (.slice a2 m2 c2) ∧ Z.cell? ⟨bX, 4, none⟩ = some (.slice b2 r2 s2)) := fun Z hZ => by
    obtain ⟨q0, q1, q2, q3, q4⟩ := five_in (box_step A6.out hZ)
    obtain ⟨p0, p1, p2, p3, p4⟩ := five_in (box_step X6.out hZ)
    exact ⟨q0, q1, q2, q3, q4, p0, p1, p2, p3, p4⟩
  have hS0 := HS.out W6 (Below.refl _ _)
  go_wp2_with fail
  refine wp_region_held_drew (S := fun Z => Z.cell? ⟨bA, 0, none⟩ = some (.int .i64 k0) ∧ Z.cell? ⟨bA, 1, none⟩ = some (.int .i64 n0) ∧ Z.cell? ⟨bA, 2, none⟩ = some (.string t0) ∧ Z.cell? ⟨bA, 3, none⟩ = some (.slice a0 m0 c0) ∧ Z.cell? ⟨bA, 4, none⟩ = some (.slice b0 r0 s0) ∧ Z.cell? ⟨bX, 0, none⟩ = some (.int .i64 k2) ∧ Z.cell? ⟨bX, 1, none⟩ = some (.int .i64 n2) ∧ Z.cell? ⟨bX, 2, none⟩ = some (.string t2) ∧ Z.cell? ⟨bX, 3, none⟩ = some (.slice a2 m2 c2) ∧ Z.cell? ⟨bX, 4, none⟩ = some (.slice b2 r2 s2)) (by kernel_rfl) hS0 (fun hHeld => ?_)
  refine wpAnyH_take (i := 0) (oi := ?oiv0) (v := .agg #[.int .i64 k2, .int .i64 n2, .string t2, .slice a2 m2 c2, .slice b2 r2 s2]) ?hiv0 (by kernel_rfl) (by kernel_rfl) (by kernel_rfl) ?hqv0 ?hyv0 hHeld ?hrv0
  case hiv0 =>
    simp only [List.getElem?_toArray, List.getElem?_cons_succ, List.getElem?_cons_zero]
    rfl
  case hqv0 => exact fun _ _ _ h => h
  case hyv0 => exact Or.inl ⟨by kernel_rfl, fun w hSw => by obtain ⟨s0, s1, s2, s3, s4, s5, s6, s7, s8, s9⟩ := hSw; go_simp⟩
  try simp only [Act.put, List.setIfInBounds_toArray, List.set_cons_zero, List.set_cons_succ]
  refine wpAnyH_take (i := 1) (oi := ?oiv1) (v := .agg #[.int .i64 k0, .int .i64 n0, .string t0, .slice a0 m0 c0, .slice b0 r0 s0]) ?hiv1 (by kernel_rfl) (by kernel_rfl) (by kernel_rfl) ?hqv1 ?hyv1 hHeld ?hrv1
  case hiv1 =>
    simp only [List.getElem?_toArray, List.getElem?_cons_succ, List.getElem?_cons_zero]
    rfl
  case hqv1 => exact fun _ _ _ h => h
  case hyv1 => exact Or.inl ⟨by kernel_rfl, fun w hSw => by obtain ⟨s0, s1, s2, s3, s4, s5, s6, s7, s8, s9⟩ := hSw; go_simp⟩
  try simp only [Act.put, List.setIfInBounds_toArray, List.set_cons_zero, List.set_cons_succ]
  refine wpAnyH_ready (rs := [2]) (by kernel_rfl) (by simp) ?_
  refine (AllReadyH.cons (o := ?oov2) ?hov2 (fun K hK => ?hkv2) AllReadyH.nil)
  case hov2 =>
    simp only [List.getElem?_toArray, List.getElem?_cons_succ, List.getElem?_cons_zero]
    rfl
  case hkv2 =>
    go_simp
    go_at_call 9
    refine (toValue d x [.int .i64 k0, .int .i64 n0, .string t0, .slice a0 m0 c0, .slice b0 r0 s0] _ (R6.out.below (Below.drew (Below.refl _ _))) HF.out).mono ?_
    rintro e W7 ⟨k3, n3, t3, a3, m3, c3, b3, r3, s3, rfl, hrd3, hB7⟩
    have B7 : Hid (Below W6.heap.size W6 W7) := Below.trans (Below.drew (Below.refl _ _)) hB7
    have V7 : Hid (RdV d W7 [.int .i64 k3, .int .i64 n3, .string t3, .slice a3 m3 c3, .slice b3 r3 s3] x) := hrd3.rd
    clear hrd3 hB7
    try go_wp2_with fail
    refine hK.out _ _ (HS.out _ B7.out) (fun hHeld => ?_)
    clear hK K
    try simp only [Act.put, List.setIfInBounds_toArray, List.set_cons_zero, List.set_cons_succ]
    refine wpAnyH_ready (rs := [3]) (by kernel_rfl) (by simp) ?_
    refine (AllReadyH.cons (o := ?oov3) ?hov3 (fun K hK => ?hkv3) AllReadyH.nil)
    case hov3 =>
      simp only [List.getElem?_toArray, List.getElem?_cons_succ, List.getElem?_cons_zero]
      rfl
    case hkv3 =>
      go_simp
      go_at_call 11
      refine (eqValue d x [.int .i64 k2, .int .i64 n2, .string t2, .slice a2 m2 c2, .slice b2 r2 s2] [.int .i64 k3, .int .i64 n3, .string t3, .slice a3 m3 c3, .slice b3 r3 s3] W7 (V6.out.below B7.out) V7.out HF.out).mono ?_
      rintro e W8 ⟨rfl, hB8⟩
      have B8 : Hid (Below W6.heap.size W6 W8) := low_step B7.out hB8
      clear hB8
      try go_wp2_with fail
      refine hK.out _ _ (HS.out _ B8.out) (fun hHeld => ?_)
      clear hK K
      try simp only [Act.put, List.setIfInBounds_toArray, List.set_cons_zero, List.set_cons_succ]
      refine wpAnyH_take (i := 4) (oi := ?oiv4) (v := .bool false) ?hiv4 (by kernel_rfl) (by kernel_rfl) (by kernel_rfl) ?hqv4 ?hyv4 hHeld ?hrv4
      case hiv4 =>
        simp only [List.getElem?_toArray, List.getElem?_cons_succ, List.getElem?_cons_zero]
        rfl
      case hqv4 => exact fun _ _ _ h => h
      case hyv4 => exact Or.inl ⟨by kernel_rfl, fun w hSw => by go_simp⟩
      try simp only [Act.put, List.setIfInBounds_toArray, List.set_cons_zero, List.set_cons_succ]
      refine wpAnyH_done (by kernel_rfl) ?_ _
      clear hS0 HS V7 q0 q1 q2 q3 q4 p0 p1 p2 p3 p4
      have L8 : Hid (Below w.heap.size w W8) := low_step L6.out B8.out
      go_wp2
      go_ret
      exact ⟨rfl, L8.out⟩


set_option maxRecDepth 100000 in
theorem liftedFnExactDeep (os : Os) (started : os.Started) (H : Type) (enc : TypeId × Value → H) :
    ReturnsInHanded {} Try.checked os 3 .any (Rows.fnExactDeepSpec.pre6 enc Try.prog Try.f3 Rows.fnExactDeepRow.domain false) (Rows.fnExactDeepSpec.post enc Try.prog Try.f3 false true false false) := by
  refine returnsInHanded_of_change (C := Try.checked) own started (by kernel_rfl) Try.func3
    (ChangeSpec.witness6 (enc := enc) (C := Try.checked) false ⟨#[], #[.agg #[.int .i64 0, .int .i64 0, .string ⟨#[]⟩, .slice none 0 0, .slice none 0 0]], []⟩ 8 (by kernel_rfl) (by kernel_rfl) (by kernel_rfl) (by kernel_rfl)) ?_
  intro W base args ds gs before hval0 hW hcnd _
  have hval : ∀ (j : Nat) t v, Try.f3.params[j]? = some t → args[j]? = some v → Value.okWide Try.prog W .any base t v := hval0
  have hW' := hW
  obtain ⟨p, q, hA0, hV, rfl, hfz, hnd⟩ := hW
  have hA : DataW.TrodAll enc Try.prog W 0 (fun _ => true) true Try.f3.params.toList args.toList ds p := hA0
  rw [Try.params3] at hA hval
  obtain ⟨v0, vs0, d0, ds0, p0, q0, hargs, rfl, rfl, h0, r0⟩ := trodAll_cons hA
  obtain ⟨rfl, rfl, rfl⟩ := trodAll_nil r0
  obtain rfl : args = #[v0] := by cases args; simp_all
  obtain ⟨dd, x, cs, rfl, hr⟩ := open_valueL (hval 0 25 v0 rfl rfl) h0
  obtain ⟨rfl, rfl⟩ := trodVars_none hV
  refine (walkDeep dd x cs W hr).mono fun e W' ⟨he, hb⟩ => ?_
  subst he
  refine ⟨_, rfl, law_post (tb := 4) laidOut ?_ hW' rfl Try.underlying4 rfl rfl hb⟩
  exact all_readable (P := Try.prog) (by kernel_rfl)

theorem overFnExactDeep : Rows.fnExactDeepRow.holds Try.pinned (OpenSpec.ofChange Rows.fnExactDeepSpec) :=
  OpenClaim.holds_of_wide 3 Try.f3 rfl rfl rfl rfl rfl rfl rfl ⟨rfl, rfl, rfl, rfl, rfl⟩ rfl rfl rfl rfl rfl (by kernel_rfl) Try.func3 (by kernel_rfl)
    (of_decide_eq_true (by kernel_rfl)) (by unfold Func.isWrapper; first | (rw [if_pos (by decide +kernel)]; kernel_rfl) | (rw [if_neg (by decide +kernel)]; exact ⟨rfl, rfl⟩))
    (fun os started H enc _ => liftedFnExactDeep os started H enc)

/-- ████ THE STATEMENT ████ -/
theorem deepHolds : Rows.FnExactDeepSaid :=
  overFnExactDeep
#print axioms deepHolds

end Go.Proofs.Ytepahapocgmhiaa
