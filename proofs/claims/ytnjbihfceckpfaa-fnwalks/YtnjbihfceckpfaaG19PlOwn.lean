/-
 Put together out of: PlaceS, PlOwn.
-/
import Derived.Test.YtnjbihfceckpfaaG04IntS
import Derived.Deep.RegionHeld3
import Derived.Test.YtnjbihfceckpfaaG06RelA
/-
 Slices of Places: eqPlaceS, markPlaceS, heldPlaceS.
-/
namespace Go.Proofs.Ytnjbihfceckpfaa
open Go.RowKit
set_option linter.unusedVariables false
set_option linter.unusedSimpArgs false
set_option maxHeartbeats 4000000
set_option maxRecDepth 20000

/-- A slice of n Places (two cells each) that hold xs. -/
def Reads2 (w : World) (v : Value) (n : Nat) (xs : List Value) : Prop :=
 ∃ ao cap, v = .slice ao n cap ∧ ∀ j x, xs[j]? = some x → ∃ g off, ao = some ⟨g, off, none⟩ ∧ w.cell? ⟨g, off + j, none⟩ = some x

theorem reads2_own {w : World} {base : Nat} {e : TypeId} {v : Value} {n : Nat} {xs : List Value} (h : w.ownsRow base e 2 v n xs) : Reads2 w v n xs := by
 have hl := h.1
 rcases h.2 with ⟨rfl, hn⟩ | ⟨g, cap, cur, rfl, hr⟩
 · subst hn
   exact ⟨none, 0, rfl, fun j x hx => by rw [List.eq_nil_of_length_eq_zero (by omega : xs.length = 0)] at hx; simp at hx⟩
 · refine ⟨some ⟨g, 0, none⟩, cap, rfl, fun j x hx => ⟨g, 0, rfl, ?_⟩⟩
   have hj : j < xs.length := (List.getElem?_eq_some_iff.1 hx).1
   have := h.cellAt j (by omega)
   rw [Nat.zero_add, this, hx]

theorem reads2_below {w w' : World} {v : Value} {n : Nat} {xs : List Value} (h : Reads2 w v n xs) (hb : Below w.heap.size w w') : Reads2 w' v n xs := by
 obtain ⟨ao, cap, rfl, hc⟩ := h
 refine ⟨ao, cap, rfl, fun j x hx => ?_⟩
 obtain ⟨g, off, hg, hcell⟩ := hc j x hx
 exact ⟨g, off, hg, (hb.cell (World.block_lt_of_cell? w _ hcell)).trans hcell⟩

end Go.Proofs.Ytnjbihfceckpfaa

/-
 Slices of Places that a function has made.
-/
namespace Go.Proofs.Ytnjbihfceckpfaa
open Go.RowKit
set_option linter.unusedVariables false
set_option maxHeartbeats 1000000

/-- The state: X places in hand. -/
structure OwnPl (w : World) (base : Nat) (v : Value) (X : List Int) : Prop where
 ex : ∃ n, X.length = 2 * n ∧ w.ownsRow base 56 2 v n (ints X)
theorem OwnPl.below {w w' : World} {base : Nat} {v : Value} {X : List Int} (h : OwnPl w base v X) (hb : Below w.heap.size w w') : OwnPl w' base v X := by
 obtain ⟨n, h1, h2⟩ := h.ex
 exact ⟨n, h1, own_kept h2 hb⟩
theorem OwnPl.mono {w : World} {base base' : Nat} {v : Value} {X : List Int} (h : OwnPl w base v X) (hb : base' ≤ base) : OwnPl w base' v X := by
 obtain ⟨n, h1, h2⟩ := h.ex
 exact ⟨n, h1, own_mono h2 hb⟩

theorem infoPlace : (Try.prog.info? 56).map (fun i => (i.zero, i.size, i.bytes)) = some (some (.agg #[.int .i64 0, .int .i64 0]), 2, 16) := by kernel_rfl

theorem made0P (w : World) : OwnPl (w.alloc (.cells #[] 56)) w.heap.size (.slice (some ⟨w.heap.size, 0, none⟩) 0 0) [] :=
 ⟨0, rfl, World.ownsRow_made w #[] 0 (Nat.le_refl _) (by unfold maxLen; omega) rfl⟩
theorem nilP (w : World) (base : Nat) : OwnPl w base (.slice none 0 0) [] := ⟨0, rfl, World.ownsRow_nil _ _ _ _⟩

theorem OwnPl.app {w' : World} {base n : Nat} {v' : Value} {X : List Int} {i k : Nat} (hX : X.length = 2 * n) (h : w'.ownsRow base 56 2 v' (n + 1) (ints X ++ [.int .i64 (i : Int), .int .i64 (k : Int)])) : OwnPl w' base v' (X ++ [(i : Int), (k : Int)]) :=
 ⟨n + 1, by simp [hX]; omega, by rw [ints_append]; exact h⟩

theorem two_one (x y : Int) : ∀ u ∈ [Value.int .i64 x, Value.int .i64 y], u.oneCell' = true := by simp [Value.oneCell']

end Go.Proofs.Ytnjbihfceckpfaa
