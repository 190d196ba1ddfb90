/-
  Chapter 1: Count, both sides.
-/
import Derived.Test.YtcgmocogkilnlaaNodeE
namespace Go.Proofs.Ytcgmocogkilnlaa
open Go.RowKit
set_option linter.unusedVariables false
set_option linter.unusedSimpArgs false
set_option maxHeartbeats 8000000
set_option maxRecDepth 20000

/-- What Count answers. -/
def CnP {d : Nat} (x : Val d) (w : World) (e : Ending) (w' : World) : Prop := ∃ r : Int, e = .returned (.int .i64 r) ∧ (RightV d x 6 ∧ cntV d x ≤ 100 → r = cntV d x) ∧ (¬ (RightV d x 6 ∧ cntV d x ≤ 100) → r = 0) ∧ Below w.heap.size w w'

theorem specCount {d : Nat} (x : Val d) (cs : List Value) (w : World) (h : RdVL d w w.heap.size cs x) : Calls Try.prog 14 #[.agg cs.toArray] w (CnP x w) := by
  obtain ⟨kk, nn, tt, a1, n1, c1, a2, n2, c2, rfl⟩ := h.form
  obtain ⟨W9, hW9⟩ : ∃ W, (w.alloc (.cells #[.int .i64 kk, .int .i64 nn, .string tt, .slice a1 n1 c1, .slice a2 n2 c2] 30)).alloc (.cells #[.int .i64 0] 2) = W := ⟨_, rfl⟩
  have hB9 : Below w.heap.size w W9 := by rw [← hW9]; go_grown
  have hbox9 : W9.heap[w.heap.size]? = some (.cells #[.int .i64 kk, .int .i64 nn, .string tt, .slice a1 n1 c1, .slice a2 n2 c2] 30 (0, 0)) := by rw [← hW9, old_block (by simp)]; exact heap_alloc_new w _
  have hcnt9 : W9.heap[w.heap.size + 1]? = some (.cells #[.int .i64 0] 2 (0, 0)) := by
    rw [← hW9]
    have h9 := heap_alloc_new (w.alloc (.cells #[.int .i64 kk, .int .i64 nn, .string tt, .slice a1 n1 c1, .slice a2 n2 c2] 30)) (.cells #[.int .i64 0] 2)
    simpa using h9
  obtain ⟨z0, z1⟩ := one_inV hcnt9
  obtain ⟨W0, hW0⟩ : ∃ W, W9.setCell ⟨w.heap.size + 1, 0, none⟩ (.int .i64 0) = W := ⟨_, rfl⟩
  have hB : Below w.heap.size w W0 := by rw [← hW0]; exact hB9.setCell (by simp) _
  have hbox : W0.heap[w.heap.size]? = some (.cells #[.int .i64 kk, .int .i64 nn, .string tt, .slice a1 n1 c1, .slice a2 n2 c2] 30 (0, 0)) := by rw [← hW0]; exact (Below.heap_setCell _ _ _ _ (by simp)).trans hbox9
  have hcnt : W0.heap[w.heap.size + 1]? = some (.cells #[.int .i64 ((0 : Nat) : Int)] 2 (0, 0)) := by
    rw [← hW0]
    have h9 := heap_setCell_same W9 (w.heap.size + 1) 0 _ _ (.int .i64 0) hcnt9
    simpa using h9
  clear hB9 hbox9 hcnt9
  have hsz : w.heap.size + 1 < W0.heap.size := (Array.getElem?_eq_some_iff.1 hcnt).1
  have hrd : RdVL d W0 (w.heap.size + 1) [.int .i64 kk, .int .i64 nn, .string tt, .slice a1 n1 c1, .slice a2 n2 c2] x := h.keep (fun a v ha hv => (World.cell?_of_block (hB.block a.block ha)).trans hv) (by omega)
  have hl1 := specL1 d x _ 6 0 (w.heap.size + 1) W0 (by omega) (by omega) (by omega) hsz hrd hcnt
  obtain ⟨q0, q1, q2, q3, q4⟩ := five_in hbox
  have HB : Hid (Below w.heap.size w W0) := hB
  clear hB hbox hcnt hrd h hsz
  go_enter Try.func14, Try.ntmps14
  go_wp2_with fail
  go_at_call 22
  clear hW0 hW9
  refine hl1.mono ?_
  rintro e W1 ⟨b, m', rfl, hiff, hc, hm, hg⟩
  have HC : Hid (W1.heap[w.heap.size + 1]? = some (.cells #[.int .i64 m'] 2 (0, 0))) := hc
  have HB1 : Hid (Below w.heap.size w W1) := below_grown HB.out hg (by omega)
  have HI : Hid (b = true ↔ RightV d x 6 ∧ 0 + cntV d x ≤ 100) := hiff
  have HM : Hid (b = true → m' = ((0 + cntV d x : Nat) : Int)) := hm
  obtain ⟨n0, n1⟩ := one_inV HC.out
  clear hl1 hiff hc hm hg q0 q1 q2 q3 q4 z0 z1
  cases b with
  | false =>
    have HE : Hid (CnP x w (.returned (.int .i64 0)) W1) := ⟨0, rfl, fun h => Bool.noConfusion (HI.out.2 ⟨h.1, by have := h.2; omega⟩), fun _ => rfl, HB1.out⟩
    go_wp2
    go_ret
    exact HE.out
  | true =>
    have HE : Hid (CnP x w (.returned (.int .i64 m')) W1) := ⟨m', rfl, fun h => by have h9 := HM.out rfl; rw [h9]; congr 1; omega, fun h => absurd ⟨(HI.out.1 rfl).1, by have := (HI.out.1 rfl).2; omega⟩ h, HB1.out⟩
    go_wp2
    go_ret
    exact HE.out

theorem allCount : ∀ d, LCnt d
  | 0 => listCount 0 (fun d' h => by omega)
  | d + 1 => listCount (d + 1) (fun d' h => by obtain rfl : d = d' := by omega
                                               exact allCount d)
theorem implCount {d : Nat} (x : Val d) (cs : List Value) (w : World) (h : RdVL d w w.heap.size cs x) : Calls Try.prog 15 #[.agg cs.toArray] w (CnP x w) := by
  obtain ⟨kk, nn, tt, a1, n1, c1, a2, n2, c2, rfl⟩ := h.form
  obtain ⟨W0, hW0⟩ : ∃ W, w.alloc (.cells #[.int .i64 kk, .int .i64 nn, .string tt, .slice a1 n1 c1, .slice a2 n2 c2] 30) = W := ⟨_, rfl⟩
  have hB : Below w.heap.size w W0 := by rw [← hW0]; go_grown
  have hbox : W0.heap[w.heap.size]? = some (.cells #[.int .i64 kk, .int .i64 nn, .string tt, .slice a1 n1 c1, .slice a2 n2 c2] 30 (0, 0)) := by rw [← hW0]; exact heap_alloc_new w _
  have hrd : RdVL d W0 W0.heap.size [.int .i64 kk, .int .i64 nn, .string tt, .slice a1 n1 c1, .slice a2 n2 c2] x := h.keep (fun a v ha hv => (World.cell?_of_block (hB.block a.block ha)).trans hv) hB.size
  have hl1 := implNodeOf x _ W0 hrd
  obtain ⟨q0, q1, q2, q3, q4⟩ := five_in hbox
  have HB : Hid (Below w.heap.size w W0) := hB
  clear hB hbox hrd h
  go_enter Try.func15, Try.ntmps15
  go_wp2_with fail
  go_at_call 25
  clear hW0
  refine hl1.mono ?_
  rintro e W1 ⟨v, b, rfl, hiff, hisn, -, hgs, hb1⟩
  have HB1 : Hid (Below w.heap.size w W1) := low_step HB.out hb1
  have HI : Hid (b = true ↔ RightV d x 6 ∧ cntV d x ≤ 100) := hiff
  have HGK : Hid (W0.heap.size + 1 ≤ W1.heap.size) := hgs
  clear hl1 hiff hb1 hgs q0 q1 q2 q3 q4
  cases b with
  | false =>
    have HE : Hid (CnP x w (.returned (.int .i64 0)) W1) := ⟨0, rfl, fun h => Bool.noConfusion (HI.out.2 h), fun _ => rfl, HB1.out⟩
    clear hisn
    go_wp2
    go_ret
    exact HE.out
  | true =>
    have his := hisn rfl
    obtain ⟨hrx, hcx⟩ := HI.out.1 rfl
    clear hisn
    cases d with
    | zero => exact hrx.elim
    | succ d =>
      obtain ⟨k, nn, t, its', ks⟩ := x
      obtain ⟨i1, i2, i3, i4, i5, i6⟩ := his
      obtain ⟨hdp, hloc, hall⟩ := hrx
      have HSUM : Hid (cntV (d + 1) (k, nn, t, its', ks) = 1 + cntL its') := rfl
      have HLO : Hid (1 ≤ k ∧ k ≤ 6 ∧ (k < 5 → its' = [])) := ⟨hloc.lo, hloc.hi, fun h => List.eq_nil_of_length_eq_zero (hloc.hm h)⟩
      have hc9 : 1 + cntL its' ≤ 100 := by have := HSUM.out; omega
      have fin : ∀ (B : Nat) (wb : World), B = 1 + cntL its' → Below W1.heap.size W1 wb → CnP (d := d + 1) (k, nn, t, its', ks) w (.returned (.int .i64 (B : Int))) wb := fun B wb hB hb => ⟨B, rfl, fun _ => by rw [hB, HSUM.out], fun h => absurd (HI.out.1 rfl) h, low_step HB1.out hb⟩
      have FIN : Hid _ := fin
      clear hloc hdp hcx fin
      obtain e | e | e | e | e | e : k = 1 ∨ k = 2 ∨ k = 3 ∨ k = 4 ∨ k = 5 ∨ k = 6 := by have := HLO.out; omega
      · obtain rfl := i1 e
        have hits := HLO.out.2.2 (by omega)
        have hlf := fun cs => leafCount cs W1
        clear i1 i2 i3 i4 i5 i6 e
        go_wp2_with fail
        go_at_call 74
        refine (hlf _).mono ?_
        rintro r wb ⟨rfl, hb9⟩
        have HE := FIN.out 1 wb (by rw [hits]; rfl) hb9
        have HEE : Hid _ := HE
        clear HE hb9 hlf hits
        go_wp2
        go_ret
        exact HEE.out
      · obtain rfl := i2 e
        have hits := HLO.out.2.2 (by omega)
        have hlf := fun cs => leafCount cs W1
        clear i1 i2 i3 i4 i5 i6 e
        go_wp2_with fail
        go_at_call 74
        refine (hlf _).mono ?_
        rintro r wb ⟨rfl, hb9⟩
        have HE := FIN.out 1 wb (by rw [hits]; rfl) hb9
        have HEE : Hid _ := HE
        clear HE hb9 hlf hits
        go_wp2
        go_ret
        exact HEE.out
      · obtain rfl := i3 e
        have hits := HLO.out.2.2 (by omega)
        have hlf := fun cs => leafCount cs W1
        clear i1 i2 i3 i4 i5 i6 e
        go_wp2_with fail
        go_at_call 74
        refine (hlf _).mono ?_
        rintro r wb ⟨rfl, hb9⟩
        have HE := FIN.out 1 wb (by rw [hits]; rfl) hb9
        have HEE : Hid _ := HE
        clear HE hb9 hlf hits
        go_wp2
        go_ret
        exact HEE.out
      · obtain rfl := i4 e
        have hits := HLO.out.2.2 (by omega)
        have hlf := fun cs => leafCount cs W1
        clear i1 i2 i3 i4 i5 i6 e
        go_wp2_with fail
        go_at_call 74
        refine (hlf _).mono ?_
        rintro r wb ⟨rfl, hb9⟩
        have HE := FIN.out 1 wb (by rw [hits]; rfl) hb9
        have HEE : Hid _ := HE
        clear HE hb9 hlf hits
        go_wp2
        go_ret
        exact HEE.out
      · obtain ⟨va, vc, rfl, hro⟩ := i5 e
        have hll := cntL_len its' _ hall
        have hih := allCount d its' va its'.length vc _ _ _ W1 rfl (by omega) (by omega) hall (fun b h => h.2) HGK.out hro
        clear i1 i2 i3 i4 i5 i6 e hll
        go_wp2_with fail
        refine hih.mono ?_
        rintro r wb ⟨B, rfl, hBe, hb9⟩
        have HEE : Hid _ := FIN.out B wb hBe hb9
        clear hBe hb9 hih
        go_wp2
        go_ret
        exact HEE.out
      · obtain ⟨va, vc, ka, kc, rfl, hro, -⟩ := i6 e
        have hll := cntL_len its' _ hall
        have hih := allCount d its' va its'.length vc _ _ _ W1 rfl (by omega) (by omega) hall (fun b h => h.2) HGK.out hro
        clear i1 i2 i3 i4 i5 i6 e hll
        go_wp2_with fail
        refine hih.mono ?_
        rintro r wb ⟨B, rfl, hBe, hb9⟩
        have HEE : Hid _ := FIN.out B wb hBe hb9
        clear hBe hb9 hih
        go_wp2
        go_ret
        exact HEE.out

end Go.Proofs.Ytcgmocogkilnlaa
