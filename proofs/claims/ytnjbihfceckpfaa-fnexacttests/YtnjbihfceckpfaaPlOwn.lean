/-
  Slices of Places that a function has made.
-/
import Derived.Test.YtnjbihfceckpfaaPlaceS
import Derived.Test.YtnjbihfceckpfaaSpecRel
namespace Go.Proofs.Ytnjbihfceckpfaa
open Go.RowKit
set_option linter.unusedVariables false
set_option maxHeartbeats 1000000

/-- The state: X places in hand. -/
structure OwnPl (w : World) (base : Nat) (v : Value) (X : List Int) : Prop where
  ex : ∃ n, X.length = 2 * n ∧ w.ownsRow base 56 2 v n (ints X)
theorem OwnPl.below {w w' : World} {base : Nat} {v : Value} {X : List Int} (h : OwnPl w base v X) (hb : Below w.heap.size w w') : OwnPl w' base v X := by
  obtain ⟨n, h1, h2⟩ := h.ex
  exact ⟨n, h1, own_kept h2 hb⟩
theorem OwnPl.mono {w : World} {base base' : Nat} {v : Value} {X : List Int} (h : OwnPl w base v X) (hb : base' ≤ base) : OwnPl w base' v X := by
  obtain ⟨n, h1, h2⟩ := h.ex
  exact ⟨n, h1, own_mono h2 hb⟩

theorem infoPlace : (Try.prog.info? 56).map (fun i => (i.zero, i.size, i.bytes)) = some (some (.agg #[.int .i64 0, .int .i64 0]), 2, 16) := by kernel_rfl

theorem made0P (w : World) : OwnPl (w.alloc (.cells #[] 56)) w.heap.size (.slice (some ⟨w.heap.size, 0, none⟩) 0 0) [] :=
  ⟨0, rfl, World.ownsRow_made w #[] 0 (Nat.le_refl _) (by unfold maxLen; omega) rfl⟩
theorem nilP (w : World) (base : Nat) : OwnPl w base (.slice none 0 0) [] := ⟨0, rfl, World.ownsRow_nil _ _ _ _⟩

theorem OwnPl.app {w' : World} {base n : Nat} {v' : Value} {X : List Int} {i k : Nat} (hX : X.length = 2 * n) (h : w'.ownsRow base 56 2 v' (n + 1) (ints X ++ [.int .i64 (i : Int), .int .i64 (k : Int)])) : OwnPl w' base v' (X ++ [(i : Int), (k : Int)]) :=
  ⟨n + 1, by simp [hX]; omega, by rw [ints_append]; exact h⟩

theorem two_one (x y : Int) : ∀ u ∈ [Value.int .i64 x, Value.int .i64 y], u.oneCell' = true := by simp [Value.oneCell']

end Go.Proofs.Ytnjbihfceckpfaa
