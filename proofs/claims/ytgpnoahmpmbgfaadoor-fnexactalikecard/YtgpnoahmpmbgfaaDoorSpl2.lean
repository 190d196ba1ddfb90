/-
  impl.spliced: one in place of one, one more, one that goes; slices.Clone of statements and of procedures; impl.clonedProcs.
-/
import Derived.Test.YtgpnoahmpmbgfaaDoorSpl
import Derived.ArgAppend
namespace Go.Proofs.YtgpnoahmpmbgfaaDoor
open Go.RowKit
set_option linter.unusedVariables false
set_option linter.unusedSimpArgs false
set_option maxHeartbeats 4000000
set_option maxRecDepth 20000

/-- What spliced answers. -/
def SplAt (g base : Nat) (R : List Stm) (w : World) (e : Ending) (w' : World) : Prop :=
  ∃ q c', e = .returned (.agg #[.slice (some ⟨q, 0, none⟩) R.length c']) ∧ w'.ownsRow base 48 3 (.slice (some ⟨q, 0, none⟩) R.length c') R.length (cells3 R) ∧ w.grownBy w' (some g) ∧ (q = g ∨ w.heap.size ≤ q)

theorem cloneStmts (p : List Stm) (v : Value) (w : World) (h0 : 0 < p.length) (hl : p.length ≤ 100) (hv : Reads3 w v p) :
    Calls Tryd.prog 76 #[v] w fun e w' => ∃ g cap, e = .returned (.slice (some ⟨g, 0, none⟩) p.length cap) ∧ w'.ownsRow w.heap.size 48 3 (.slice (some ⟨g, 0, none⟩) p.length cap) p.length (cells3 p) ∧ Below w.heap.size w w' := by
  obtain ⟨i0, hi, hz0, hz1, hz2⟩ := info_parts infoStmt
  obtain ⟨ao, cap, rfl, hc⟩ := hv
  obtain ⟨g, off, rfl, _⟩ := hc 0 p[0] (by simp [h0])
  have hcs : Hid (∀ j u, (cells3 p)[j]? = some u → (w.alloc (.cells #[] 48)).cell? ((⟨g, off, none⟩ : Addr).add j) = some u) := by
    intro j u hu
    have hjl := (List.getElem?_eq_some_iff.1 hu).1
    rw [cells3_length] at hjl
    obtain ⟨g', off', e, q0, q1, q2⟩ := hc (j / 3) p[j / 3] (by simp)
    simp only [Option.some.injEq, Addr.mk.injEq, and_true] at e
    obtain ⟨rfl, rfl⟩ := e
    obtain ⟨a0, a1, a2⟩ := cells3_get p (j / 3) p[j / 3] (by simp)
    rw [Addr.add_lit]
    have hB := World.block_lt_of_cell? w _ q0
    have hbb : Below w.heap.size w (w.alloc (.cells #[] 48)) := Below.alloc (Below.refl _ w) (Nat.le_refl _) _
    have key : w.cell? ⟨g, off + j, none⟩ = some u := by
      rcases (by omega : j % 3 = 0 ∨ j % 3 = 1 ∨ j % 3 = 2) with h | h | h
      · have ej : j = j / 3 * 3 := by omega
        rw [← ej] at a0 q0
        rw [hu] at a0
        rw [q0, a0]
      · have ej : j = j / 3 * 3 + 1 := by omega
        rw [← ej] at a1
        rw [Nat.add_assoc, ← ej] at q1
        rw [hu] at a1
        rw [q1, a1]
      · have ej : j = j / 3 * 3 + 2 := by omega
        rw [← ej] at a2
        rw [Nat.add_assoc, ← ej] at q2
        rw [hu] at a2
        rw [q2, a2]
    exact (hbb.cell (p := ⟨g, off + j, none⟩) hB).trans key
  have heq : ∀ (W : World) (A : Addr) (n c : Nat), (binOp .eql 43 (.slice (some A) n c) (.slice none 0 0)).run Tryd.prog W = .ok (.bool false) W := fun _ _ _ _ => rfl
  have m0 : (w.alloc (.cells #[] 48)).ownsRow w.heap.size 48 3 (.slice (some ⟨w.heap.size, 0, none⟩) 0 0) 0 [] := World.ownsRow_made w #[] 0 (Nat.le_refl _) (by unfold maxLen; omega) rfl
  have B0 : Below w.heap.size w (w.alloc (.cells #[] 48)) := by go_grown
  clear hc
  go_enter Tryd.func76, Tryd.ntmps76
  go_wp2_with (first
    | (at_builtin; refine wpList_append_own _ rfl (.tmp 5) (.tmp 6) 43 rfl w.heap.size 48 i0 (.agg #[.int .i64 0, .int .i64 0, .int .i64 0]) 3 24 Tryd.underlying43 hi hz0 hz1 hz2 rfl (by decide) _ 0 [] rfl m0 ⟨g, off, none⟩ p.length _ (cells3 p) rfl (cells3_length p) hcs.out (cells3_one p) (by unfold maxLen; omega) (by omega) (by simp) ?_; intro v2 w2 own2 grow2 _)
    | go_in)
  have L2 : Below w.heap.size w w2 := B0.grown grow2 B0.size (fun q hq => Nat.le_of_eq (Option.some.inj (show some w.heap.size = some q from hq)))
  have own3 : w2.ownsRow w.heap.size 48 3 v2 p.length (cells3 p) := by simpa using own2
  rcases own3.2 with ⟨_, hn⟩ | ⟨g2, cap2, cur2, rfl, _⟩
  · omega
  go_ret
  exact ⟨g2, cap2, rfl, own3, L2⟩

end Go.Proofs.YtgpnoahmpmbgfaaDoor
