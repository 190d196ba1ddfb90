/-
  impl.comingOrder, spec.l14Numbers: the order in which one comes to procedures.
-/
import Derived.Test.YtbbcbfhijmhnkaaDoorOrd14M
import Derived.BigRegion
namespace Go.Proofs.YtbbcbfhijmhnkaaDoor
open Go.RowKit
set_option linter.unusedVariables false
set_option linter.unusedSimpArgs false
set_option maxHeartbeats 4000000
set_option maxRecDepth 20000

theorem come14_no {out : List Int} {s : Stm} (h : ¬ s.k = 8) : come14 out s = out := if_neg (fun hh => h hh.1)
theorem come14_old {out : List Int} {s : Stm} (h : hasI out s.y = true) : come14 out s = out := if_neg (fun hh => by rw [h] at hh; exact absurd hh.2 (by decide))
theorem come14_new {out : List Int} {s : Stm} (hk : s.k = 8) (h : hasI out s.y = false) : come14 out s = out ++ [s.y] := if_pos ⟨hk, h⟩
theorem scan14_all (out : List Int) (p : List Stm) : scan14 out (p.take p.length) = scan14 out p := by rw [List.take_length]
theorem scan14_zero (out : List Int) (p : List Stm) : scan14 out (p.take 0) = out := rfl
theorem go14_step {ps : List (List Stm)} {f i : Nat} {out : List Int} {R : List Int} (h : go14 ps f i out = R) (hi : i < out.length) (hf : f + i = 5) (h4 : out.length ≤ 4) : ∃ f', f' + (i + 1) = 5 ∧ go14 ps f' (i + 1) (scan14 out (ps.getD (out.getD i 0).toNat [])) = R := by
  cases f with
  | zero => omega
  | succ f =>
    refine ⟨f, by omega, ?_⟩
    rw [← h]
    conv => rhs; unfold go14
    rw [if_pos hi]
theorem go14_end {ps : List (List Stm)} {f i : Nat} {out : List Int} {R : List Int} (h : go14 ps f i out = R) (hi : ¬ i < out.length) : out = R := by
  cases f with
  | zero => exact h
  | succ f =>
    unfold go14 at h
    rw [if_neg hi] at h
    exact h

theorem lit14 (W : World) (b : Nat) (hb : b ≤ W.heap.size) (i : Int) : (W.alloc (.cells #[.int .i64 i] 2)).ownsRow b 2 1 (.slice (some ⟨W.heap.size, 0, none⟩) 1 1) 1 (ints [i]) :=
  own_mono (World.ownsRow_lit W (e := 2) #[.int .i64 i] 1 (size := 1) (Nat.le_refl _) (by decide) (by simp)) hb

theorem own_pos {w : World} {base : Nat} {e : TypeId} {v : Value} {n : Nat} {xs : List Value} (h : w.ownsRow base e 1 v n xs) (h0 : 0 < n) : ∃ g cap, v = .slice (some ⟨g, 0, none⟩) n cap := by
  rcases h.2 with ⟨rfl, hn⟩ | ⟨g, cap, cur, rfl, _⟩
  · omega
  · exact ⟨g, cap, rfl⟩



end Go.Proofs.YtbbcbfhijmhnkaaDoor
