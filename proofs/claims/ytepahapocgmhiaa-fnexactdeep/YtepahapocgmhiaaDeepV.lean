/-
  Chapter 1: Deep, both sides.
-/
import Derived.Test.YtepahapocgmhiaaDeepE
namespace Go.Proofs.Ytepahapocgmhiaa
open Go.RowKit
set_option linter.unusedVariables false
set_option linter.unusedSimpArgs false
set_option maxHeartbeats 8000000
set_option maxRecDepth 20000

/-- What Deep answers. -/
def DpP {d : Nat} (x : Val d) (w : World) (e : Ending) (w' : World) : Prop := ∃ r : Int, e = .returned (.int .i64 r) ∧ (RightV d x 6 ∧ cntV d x ≤ 100 → r = deepV d x) ∧ (¬ (RightV d x 6 ∧ cntV d x ≤ 100) → r = 0) ∧ Below w.heap.size w w'

theorem specDeep {d : Nat} (x : Val d) (cs : List Value) (w : World) (h : RdVL d w w.heap.size cs x) : Calls Try.prog 8 #[.agg cs.toArray] w (DpP x w) := by
  obtain ⟨kk, nn, tt, a1, n1, c1, a2, n2, c2, rfl⟩ := h.form
  obtain ⟨W0, hW0⟩ : ∃ W, w.alloc (.cells #[.int .i64 kk, .int .i64 nn, .string tt, .slice a1 n1 c1, .slice a2 n2 c2] 30) = W := ⟨_, rfl⟩
  have hB : Below w.heap.size w W0 := by rw [← hW0]; go_grown
  obtain ⟨bX, hbX⟩ : ∃ z, w.heap.size = z := ⟨_, rfl⟩
  have HX0 : Hid (W0.heap[bX]? = some (.cells #[.int .i64 kk, .int .i64 nn, .string tt, .slice a1 n1 c1, .slice a2 n2 c2] 30 (0, 0))) := by show W0.heap[bX]? = _; rw [← hW0, ← hbX]; exact heap_alloc_new w _
  have hrd : RdVL d W0 W0.heap.size [.int .i64 kk, .int .i64 nn, .string tt, .slice a1 n1 c1, .slice a2 n2 c2] x := h.keep (fun a v ha hv => (World.cell?_of_block (hB.block a.block ha)).trans hv) hB.size
  have hl1 := specValueOk x _ W0 hrd
  obtain ⟨q0, q1, q2, q3, q4⟩ := five_in HX0.out
  have HB : Hid (Below w.heap.size w W0) := hB
  have HRD : Hid _ := hrd
  clear hB hrd h
  go_enter Try.func8, Try.ntmps8
  go_wp2_with fail
  go_at_call 25
  clear hW0
  refine hl1.mono ?_
  rintro e W1 ⟨b, rfl, hiff, hb1⟩
  have HB1 : Hid (Below w.heap.size w W1) := low_step HB.out hb1
  have HX1 : Hid (W1.heap[bX]? = some (.cells #[.int .i64 kk, .int .i64 nn, .string tt, .slice a1 n1 c1, .slice a2 n2 c2] 30 (0, 0))) := box_step HX0.out hb1
  have HI : Hid (b = true ↔ RightV d x 6 ∧ cntV d x ≤ 100) := hiff
  have HRD1 : Hid (RdVL d W1 W1.heap.size [.int .i64 kk, .int .i64 nn, .string tt, .slice a1 n1 c1, .slice a2 n2 c2] x) := HRD.out.keep (fun a v ha hv => (World.cell?_of_block (hb1.block a.block ha)).trans hv) hb1.size
  clear hl1 hiff hb1 q0 q1 q2 q3 q4 HX0 hbX
  cases b with
  | false =>
    have HE : Hid (DpP x w (.returned (.int .i64 0)) W1) := ⟨0, rfl, fun h => Bool.noConfusion (HI.out.2 h), fun _ => rfl, HB1.out⟩
    go_wp2
    go_ret
    exact HE.out
  | true =>
    have hi := HI.out.1 rfl
    have hdp := specDeepAt d x _ 6 W1 (by omega) (by omega) hi.1 HRD1.out
    obtain ⟨q0, q1, q2, q3, q4⟩ := five_in HX1.out
    have HII : Hid (RightV d x 6 ∧ cntV d x ≤ 100) := hi
    clear hi
    go_wp2_with fail
    go_at_call 26
    refine hdp.mono ?_
    rintro e W2 ⟨B, rfl, hB, hb2⟩
    have HE : Hid (DpP x w (.returned (.int .i64 (B : Int))) W2) := ⟨B, rfl, fun _ => by rw [hB], fun h => absurd HII.out h, low_step HB1.out hb2⟩
    clear hdp hB hb2 q0 q1 q2 q3 q4
    go_wp2
    go_ret
    exact HE.out

theorem implDeep {d : Nat} (x : Val d) (cs : List Value) (w : World) (h : RdVL d w w.heap.size cs x) : Calls Try.prog 10 #[.agg cs.toArray] w (DpP x w) := by
  obtain ⟨kk, nn, tt, a1, n1, c1, a2, n2, c2, rfl⟩ := h.form
  obtain ⟨W0, hW0⟩ : ∃ W, w.alloc (.cells #[.int .i64 kk, .int .i64 nn, .string tt, .slice a1 n1 c1, .slice a2 n2 c2] 30) = W := ⟨_, rfl⟩
  have hB : Below w.heap.size w W0 := by rw [← hW0]; go_grown
  have hbox : W0.heap[w.heap.size]? = some (.cells #[.int .i64 kk, .int .i64 nn, .string tt, .slice a1 n1 c1, .slice a2 n2 c2] 30 (0, 0)) := by rw [← hW0]; exact heap_alloc_new w _
  have hrd : RdVL d W0 W0.heap.size [.int .i64 kk, .int .i64 nn, .string tt, .slice a1 n1 c1, .slice a2 n2 c2] x := h.keep (fun a v ha hv => (World.cell?_of_block (hB.block a.block ha)).trans hv) hB.size
  have hl1 := implNodeOf x _ W0 hrd
  obtain ⟨q0, q1, q2, q3, q4⟩ := five_in hbox
  have HB : Hid (Below w.heap.size w W0) := hB
  clear hB hbox hrd h
  go_enter Try.func10, Try.ntmps10
  go_wp2_with fail
  go_at_call 29
  clear hW0
  refine hl1.mono ?_
  rintro e W1 ⟨v, b, rfl, hiff, hisn, -, hgs, hb1⟩
  have HB1 : Hid (Below w.heap.size w W1) := low_step HB.out hb1
  have HI : Hid (b = true ↔ RightV d x 6 ∧ cntV d x ≤ 100) := hiff
  have HGK : Hid (W0.heap.size + 1 ≤ W1.heap.size) := hgs
  clear hl1 hiff hb1 hgs q0 q1 q2 q3 q4
  cases b with
  | false =>
    have HE : Hid (DpP x w (.returned (.int .i64 0)) W1) := ⟨0, rfl, fun h => Bool.noConfusion (HI.out.2 h), fun _ => rfl, HB1.out⟩
    clear hisn
    go_wp2
    go_ret
    exact HE.out
  | true =>
    have his := hisn rfl
    obtain ⟨hrx, hcx⟩ := HI.out.1 rfl
    clear hisn
    cases d with
    | zero => exact hrx.elim
    | succ d =>
      obtain ⟨k, nn, t, its', ks⟩ := x
      obtain ⟨i1, i2, i3, i4, i5, i6⟩ := his
      obtain ⟨hdp, hloc, hall⟩ := hrx
      have HSUM : Hid (deepV (d + 1) (k, nn, t, its', ks) = deepL its' + 1) := rfl
      have HLO : Hid (1 ≤ k ∧ k ≤ 6 ∧ (k < 5 → its' = [])) := ⟨hloc.lo, hloc.hi, fun h => List.eq_nil_of_length_eq_zero (hloc.hm h)⟩
      have hc9 : 1 + cntL its' ≤ 100 := hcx
      have fin : ∀ (B : Nat) (wb : World), B = deepL its' + 1 → Below W1.heap.size W1 wb → DpP (d := d + 1) (k, nn, t, its', ks) w (.returned (.int .i64 (B : Int))) wb := fun B wb hB hb => ⟨B, rfl, fun _ => by rw [hB, HSUM.out], fun h => absurd (HI.out.1 rfl) h, low_step HB1.out hb⟩
      have FIN : Hid _ := fin
      clear hloc hcx fin
      obtain e | e | e | e | e | e : k = 1 ∨ k = 2 ∨ k = 3 ∨ k = 4 ∨ k = 5 ∨ k = 6 := by have := HLO.out; omega
      · obtain rfl := i1 e
        have hits := HLO.out.2.2 (by omega)
        have hlf := fun cs => leafDeep cs W1
        clear i1 i2 i3 i4 i5 i6 e
        go_wp2_with fail
        go_at_call 96
        refine (hlf _).mono ?_
        rintro r wb ⟨rfl, hb9⟩
        have HE := FIN.out 1 wb (by rw [hits]; rfl) hb9
        have HEE : Hid _ := HE
        clear HE hb9 hlf hits
        go_wp2
        go_ret
        exact HEE.out
      · obtain rfl := i2 e
        have hits := HLO.out.2.2 (by omega)
        have hlf := fun cs => leafDeep cs W1
        clear i1 i2 i3 i4 i5 i6 e
        go_wp2_with fail
        go_at_call 96
        refine (hlf _).mono ?_
        rintro r wb ⟨rfl, hb9⟩
        have HE := FIN.out 1 wb (by rw [hits]; rfl) hb9
        have HEE : Hid _ := HE
        clear HE hb9 hlf hits
        go_wp2
        go_ret
        exact HEE.out
      · obtain rfl := i3 e
        have hits := HLO.out.2.2 (by omega)
        have hlf := fun cs => leafDeep cs W1
        clear i1 i2 i3 i4 i5 i6 e
        go_wp2_with fail
        go_at_call 96
        refine (hlf _).mono ?_
        rintro r wb ⟨rfl, hb9⟩
        have HE := FIN.out 1 wb (by rw [hits]; rfl) hb9
        have HEE : Hid _ := HE
        clear HE hb9 hlf hits
        go_wp2
        go_ret
        exact HEE.out
      · obtain rfl := i4 e
        have hits := HLO.out.2.2 (by omega)
        have hlf := fun cs => leafDeep cs W1
        clear i1 i2 i3 i4 i5 i6 e
        go_wp2_with fail
        go_at_call 96
        refine (hlf _).mono ?_
        rintro r wb ⟨rfl, hb9⟩
        have HE := FIN.out 1 wb (by rw [hits]; rfl) hb9
        have HEE : Hid _ := HE
        clear HE hb9 hlf hits
        go_wp2
        go_ret
        exact HEE.out
      · obtain ⟨va, vc, rfl, hro⟩ := i5 e
        have hll := cntL_len its' _ hall
        have hih := allDeep d its' va its'.length vc _ _ _ W1 rfl (by omega) (by omega) (by omega) (by omega) hall (fun b h => h.2) HGK.out hro
        clear i1 i2 i3 i4 i5 i6 e hll
        go_wp2_with fail
        refine hih.mono ?_
        rintro r wb ⟨B, rfl, hBe, hb9⟩
        have HEE : Hid _ := FIN.out B wb hBe hb9
        clear hBe hb9 hih
        go_wp2
        go_ret
        exact HEE.out
      · obtain ⟨va, vc, ka, kc, rfl, hro, -⟩ := i6 e
        have hll := cntL_len its' _ hall
        have hih := allDeep d its' va its'.length vc _ _ _ W1 rfl (by omega) (by omega) (by omega) (by omega) hall (fun b h => h.2) HGK.out hro
        clear i1 i2 i3 i4 i5 i6 e hll
        go_wp2_with fail
        refine hih.mono ?_
        rintro r wb ⟨B, rfl, hBe, hb9⟩
        have HEE : Hid _ := FIN.out B wb hBe hb9
        clear hBe hb9 hih
        go_wp2
        go_ret
        exact HEE.out

end Go.Proofs.Ytepahapocgmhiaa
