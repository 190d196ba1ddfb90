/-
  Chapter 1: ValueOk, both sides; impl.nodeOf.
-/
import Derived.Test.YtepahapocgmhiaaNodeD
import Derived.Test.YtepahapocgmhiaaSpecVal
namespace Go.Proofs.Ytepahapocgmhiaa
open Go.RowKit
set_option linter.unusedVariables false
set_option linter.unusedSimpArgs false
set_option maxHeartbeats 8000000
set_option maxRecDepth 20000

/-- What ValueOk answers. -/
def OkP {d : Nat} (x : Val d) (w : World) (e : Ending) (w' : World) : Prop := ∃ b : Bool, e = .returned (.bool b) ∧ (b = true ↔ RightV d x 6 ∧ cntV d x ≤ 100) ∧ Below w.heap.size w w'

theorem below_grown {w W W' : World} {g : Nat} (hb : Below w.heap.size w W) (hg : W.grownBy W' (some g)) (hgw : w.heap.size ≤ g) : Below w.heap.size w W' := hb.grown hg hb.size (fun k e => by cases e; exact hgw)

theorem specValueOk {d : Nat} (x : Val d) (cs : List Value) (w : World) (h : RdVL d w w.heap.size cs x) : Calls Try.prog 25 #[.agg cs.toArray] w (OkP x w) := by
  obtain ⟨kk, nn, tt, a1, n1, c1, a2, n2, c2, rfl⟩ := h.form
  obtain ⟨W9, hW9⟩ : ∃ W, (w.alloc (.cells #[.int .i64 kk, .int .i64 nn, .string tt, .slice a1 n1 c1, .slice a2 n2 c2] 30)).alloc (.cells #[.int .i64 0] 2) = W := ⟨_, rfl⟩
  have hB9 : Below w.heap.size w W9 := by rw [← hW9]; go_grown
  have hbox9 : W9.heap[w.heap.size]? = some (.cells #[.int .i64 kk, .int .i64 nn, .string tt, .slice a1 n1 c1, .slice a2 n2 c2] 30 (0, 0)) := by rw [← hW9, old_block (by simp)]; exact heap_alloc_new w _
  have hcnt9 : W9.heap[w.heap.size + 1]? = some (.cells #[.int .i64 0] 2 (0, 0)) := by
    rw [← hW9]
    have h9 := heap_alloc_new (w.alloc (.cells #[.int .i64 kk, .int .i64 nn, .string tt, .slice a1 n1 c1, .slice a2 n2 c2] 30)) (.cells #[.int .i64 0] 2)
    simpa using h9
  obtain ⟨z0, z1⟩ := one_inV hcnt9
  obtain ⟨W0, hW0⟩ : ∃ W, W9.setCell ⟨w.heap.size + 1, 0, none⟩ (.int .i64 0) = W := ⟨_, rfl⟩
  have hB : Below w.heap.size w W0 := by rw [← hW0]; exact hB9.setCell (by simp) _
  have hbox : W0.heap[w.heap.size]? = some (.cells #[.int .i64 kk, .int .i64 nn, .string tt, .slice a1 n1 c1, .slice a2 n2 c2] 30 (0, 0)) := by rw [← hW0]; exact (Below.heap_setCell _ _ _ _ (by simp)).trans hbox9
  have hcnt : W0.heap[w.heap.size + 1]? = some (.cells #[.int .i64 ((0 : Nat) : Int)] 2 (0, 0)) := by
    rw [← hW0]
    have h9 := heap_setCell_same W9 (w.heap.size + 1) 0 _ _ (.int .i64 0) hcnt9
    simpa using h9
  clear hB9 hbox9 hcnt9
  have hsz : w.heap.size + 1 < W0.heap.size := (Array.getElem?_eq_some_iff.1 hcnt).1
  have hrd : RdVL d W0 (w.heap.size + 1) [.int .i64 kk, .int .i64 nn, .string tt, .slice a1 n1 c1, .slice a2 n2 c2] x := h.keep (fun a v ha hv => (World.cell?_of_block (hB.block a.block ha)).trans hv) (by omega)
  have hl1 := specL1 d x _ 6 0 (w.heap.size + 1) W0 (by omega) (by omega) (by omega) hsz hrd hcnt
  obtain ⟨q0, q1, q2, q3, q4⟩ := five_in hbox
  have HB : Hid (Below w.heap.size w W0) := hB
  clear hB hbox hcnt hrd h hsz
  go_enter Try.func25, Try.ntmps25
  go_wp2_with fail
  go_at_call 50
  clear hW0 hW9
  refine hl1.mono ?_
  rintro e W1 ⟨b, m', rfl, hiff, hc, hm, hg⟩
  have HE : Hid (OkP x w (.returned (.bool b)) W1) := ⟨b, rfl, by simpa using hiff, below_grown HB.out hg (by omega)⟩
  clear hl1 hiff hc hm hg
  go_wp2
  go_ret
  exact HE.out

/-- What nodeOf answers. -/
def OfP {d : Nat} (x : Val d) (w : World) (e : Ending) (w' : World) : Prop := ∃ (v : Value) (b : Bool), e = .returned (.tuple #[v, .bool b]) ∧ (b = true ↔ RightV d x 6 ∧ cntV d x ≤ 100) ∧ (b = true → IsN d w' (fun k => w.heap.size ≤ k ∧ k < w'.heap.size) (w.heap.size + 1) v x) ∧ v.oneCell' = true ∧ w.heap.size + 1 ≤ w'.heap.size ∧ Below w.heap.size w w'

theorem implNodeOf {d : Nat} (x : Val d) (cs : List Value) (w : World) (h : RdVL d w w.heap.size cs x) : Calls Try.prog 29 #[.agg cs.toArray] w (OfP x w) := by
  obtain ⟨kk, nn, tt, a1, n1, c1, a2, n2, c2, rfl⟩ := h.form
  obtain ⟨W0, hW0⟩ : ∃ W, (w.alloc (.cells #[.int .i64 kk, .int .i64 nn, .string tt, .slice a1 n1 c1, .slice a2 n2 c2] 30)).alloc (.cells #[.int .i64 100] 83) = W := ⟨_, rfl⟩
  have hB : Below w.heap.size w W0 := by rw [← hW0]; go_grown
  have hbox : W0.heap[w.heap.size]? = some (.cells #[.int .i64 kk, .int .i64 nn, .string tt, .slice a1 n1 c1, .slice a2 n2 c2] 30 (0, 0)) := by rw [← hW0, old_block (by simp)]; exact heap_alloc_new w _
  have hcnt : W0.heap[w.heap.size + 1]? = some (.cells #[.int .i64 100] 83 (0, 0)) := by
    rw [← hW0]
    have h9 := heap_alloc_new (w.alloc (.cells #[.int .i64 kk, .int .i64 nn, .string tt, .slice a1 n1 c1, .slice a2 n2 c2] 30)) (.cells #[.int .i64 100] 83)
    simpa using h9
  have hsz : w.heap.size + 1 < W0.heap.size := (Array.getElem?_eq_some_iff.1 hcnt).1
  have hrd : RdVL d W0 (w.heap.size + 1) [.int .i64 kk, .int .i64 nn, .string tt, .slice a1 n1 c1, .slice a2 n2 c2] x := h.keep (fun a v ha hv => (World.cell?_of_block (hB.block a.block ha)).trans hv) (by omega)
  have hl1 := nodeAt d x _ 1 100 (w.heap.size + 1) W0 (by omega) (by omega) (by omega) (by omega) hsz hrd hcnt
  obtain ⟨q0, q1, q2, q3, q4⟩ := five_in hbox
  have HB : Hid (Below w.heap.size w W0) := hB
  have HSZ : Hid (w.heap.size + 1 < W0.heap.size) := hsz
  clear hB hbox hcnt hrd h hsz
  go_enter Try.func29, Try.ntmps29
  go_wp2_with fail
  go_at_call 52
  clear hW0
  refine hl1.mono ?_
  rintro e W1 ⟨v, b, l', rfl, hiff, hc, hm, hone, hg⟩
  have HE : Hid (OfP x w (.returned (.tuple #[v, .bool b])) W1) := by
    refine ⟨v, b, rfl, ?_, fun h => ?_, hone, by have := HSZ.out; have := hg.size; omega, below_grown HB.out hg (by omega)⟩
    · rw [hiff]
      have e9 : (7 : Int) - 1 = 6 := by omega
      rw [e9]
      exact ⟨fun ⟨a, b⟩ => ⟨a, by omega⟩, fun ⟨a, b⟩ => ⟨a, by omega⟩⟩
    · exact (hm h).2.keep (fun _ _ => rfl) (fun _ _ => rfl) (fun k hk => ⟨Nat.le_trans HB.out.size hk.1, hk.2⟩)
  clear hl1 hiff hc hm hg hone
  go_wp2
  go_ret2
  exact HE.out

theorem implValueOk {d : Nat} (x : Val d) (cs : List Value) (w : World) (h : RdVL d w w.heap.size cs x) : Calls Try.prog 44 #[.agg cs.toArray] w (OkP x w) := by
  obtain ⟨kk, nn, tt, a1, n1, c1, a2, n2, c2, rfl⟩ := h.form
  obtain ⟨W0, hW0⟩ : ∃ W, w.alloc (.cells #[.int .i64 kk, .int .i64 nn, .string tt, .slice a1 n1 c1, .slice a2 n2 c2] 30) = W := ⟨_, rfl⟩
  have hB : Below w.heap.size w W0 := by rw [← hW0]; go_grown
  have hbox : W0.heap[w.heap.size]? = some (.cells #[.int .i64 kk, .int .i64 nn, .string tt, .slice a1 n1 c1, .slice a2 n2 c2] 30 (0, 0)) := by rw [← hW0]; exact heap_alloc_new w _
  have hrd : RdVL d W0 W0.heap.size [.int .i64 kk, .int .i64 nn, .string tt, .slice a1 n1 c1, .slice a2 n2 c2] x := h.keep (fun a v ha hv => (World.cell?_of_block (hB.block a.block ha)).trans hv) hB.size
  have hl1 := implNodeOf x _ W0 hrd
  obtain ⟨q0, q1, q2, q3, q4⟩ := five_in hbox
  have HB : Hid (Below w.heap.size w W0) := hB
  clear hB hbox hrd h
  go_enter Try.func44, Try.ntmps44
  go_wp2_with fail
  go_at_call 29
  clear hW0
  refine hl1.mono ?_
  rintro e W1 ⟨v, b, rfl, hiff, -, -, -, hb1⟩
  have HE : Hid (OkP x w (.returned (.bool b)) W1) := ⟨b, rfl, hiff, low_step HB.out hb1⟩
  clear hl1 hiff hb1
  go_wp2
  go_ret
  exact HE.out

end Go.Proofs.Ytepahapocgmhiaa
