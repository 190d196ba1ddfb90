/-
  slices.Clone over int64, of a list that is not empty.
-/
import Derived.Test.YtmophdojojcpbaaLists
import Derived.ArgAppend
namespace Go.Proofs.Ytmophdojojcpbaa
open Go.RowKit
set_option linter.unusedVariables false
set_option maxHeartbeats 1000000
set_option maxRecDepth 20000

theorem sliceClone (xs : List Int) (v : Value) (w : World) (h0 : 0 < xs.length) (hl : xs.length ≤ 1000000) (hv : Reads w v (ints xs)) :
    Calls Try.prog 78 #[v] w fun e w' => ∃ g cap, e = .returned (.slice (some ⟨g, 0, none⟩) xs.length cap) ∧ w'.ownsRow w.heap.size 2 1 (.slice (some ⟨g, 0, none⟩) xs.length cap) xs.length (ints xs) ∧ Below w.heap.size w w' := by
  obtain ⟨i0, hi, hz0, hz1, hz2⟩ := info_parts infoInt
  obtain ⟨ao, cap, rfl, hc⟩ := hv
  rw [ints_length]
  obtain ⟨g, off, rfl, _⟩ := hc 0 (.int .i64 xs[0]) (by simp [ints, h0])
  have hcs : Hid (∀ j u, (ints xs)[j]? = some u → (w.alloc (.cells #[] 2)).cell? ((⟨g, off, none⟩ : Addr).add j) = some u) := by
    intro j u hu
    obtain ⟨g', off', e, hcell⟩ := hc j u hu
    simp only [Option.some.injEq, Addr.mk.injEq, and_true] at e
    obtain ⟨rfl, rfl⟩ := e
    rw [Addr.add_lit]
    exact (Below.cell (Below.alloc (Below.refl _ w) (Nat.le_refl _) _) (World.block_lt_of_cell? w _ hcell)).trans hcell
  have heq : ∀ (W : World) (A : Addr) (n c : Nat), (binOp .eql 36 (.slice (some A) n c) (.slice none 0 0)).run Try.prog W = .ok (.bool false) W := fun _ _ _ _ => rfl
  have m0 := made0 w
  have B0 : Below w.heap.size w (w.alloc (.cells #[] 2)) := by go_grown
  clear hc
  go_enter Try.func78, Try.ntmps78
  go_wp2_with (first
    | (at_builtin; refine wpList_append_own _ rfl (.tmp 5) (.tmp 6) 36 rfl w.heap.size 2 i0 (.int .i64 0) 1 8 Try.underlying36 hi hz0 hz1 hz2 rfl (by decide) _ 0 [] rfl m0 ⟨g, off, none⟩ xs.length _ (ints xs) rfl (by simp [ints_length]) hcs.out (ints_oneCell xs) (by unfold maxLen; omega) (by omega) (by simp) ?_; intro v2 w2 own2 grow2 _)
    | go_in)
  have L2 : Below w.heap.size w w2 := below_app B0 grow2 (fun q hq => Nat.le_of_eq (Option.some.inj (show some w.heap.size = some q from hq)))
  have own3 : w2.ownsRow w.heap.size 2 1 v2 xs.length (ints xs) := by simpa using own2
  rcases own3.2 with ⟨_, hn⟩ | ⟨g2, cap2, cur2, rfl, _⟩
  · omega
  go_ret
  exact ⟨g2, cap2, rfl, own3, L2⟩

/-- Lists of numbers as Go's. -/
def castLL (c : List (List Nat)) : List (List Int) := c.map (fun g => g.map (fun x : Nat => (x : Int)))

end Go.Proofs.Ytmophdojojcpbaa
