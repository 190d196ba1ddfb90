/-
  Put together out of: Spl, Spl2, Ren14, Need14.
-/
import Derived.Test.YtbbcbfhijmhnkaaDoorIns
import Derived.Test.YtbbcbfhijmhnkaaDoorEditM
import Derived.ArgAppend
import Derived.Test.YtbbcbfhijmhnkaaDoorOrd14
import Derived.Defers
import Derived.Recover
import Derived.WalkLawsBesides
/-
  impl.spliced: jumps moved, then slices.Replace.
-/
namespace Go.Proofs.YtbbcbfhijmhnkaaDoor
open Go.RowKit
set_option linter.unusedVariables false
set_option linter.unusedSimpArgs false
set_option maxHeartbeats 4000000
set_option maxRecDepth 20000

/-- What slices.Replace makes of a row in block g. -/
def RepAt (g base n' : Nat) (R : List Stm) (W : World) (e : Ending) (w' : World) : Prop :=
  ∃ q c', e = .returned (.slice (some ⟨q, 0, none⟩) n' c') ∧ w'.ownsRow base 36 3 (.slice (some ⟨q, 0, none⟩) n' c') n' (cells3 R) ∧ W.grownBy w' (some g) ∧ (q = g ∨ W.heap.size ≤ q)

theorem grown_setRow13 (w : World) (b o : Nat) (v : Value) : w.grownBy (w.setCell ⟨b, o, none⟩ v) (some b) :=
  ⟨rfl, rfl, rfl, by simp [World.setCell], fun k _ hk => Below.heap_setCell w ⟨b, o, none⟩ v k (fun e => hk (by rw [e]))⟩

end Go.Proofs.YtbbcbfhijmhnkaaDoor

/-
  impl.spliced: one in place of one, one more, one that goes; slices.Clone of statements and of procedures; impl.clonedProcs.
-/
namespace Go.Proofs.YtbbcbfhijmhnkaaDoor
open Go.RowKit
set_option linter.unusedVariables false
set_option linter.unusedSimpArgs false
set_option maxHeartbeats 4000000
set_option maxRecDepth 20000

/-- What spliced answers. -/
def SplAt (g base : Nat) (R : List Stm) (w : World) (e : Ending) (w' : World) : Prop :=
  ∃ q c', e = .returned (.agg #[.slice (some ⟨q, 0, none⟩) R.length c']) ∧ w'.ownsRow base 36 3 (.slice (some ⟨q, 0, none⟩) R.length c') R.length (cells3 R) ∧ w.grownBy w' (some g) ∧ (q = g ∨ w.heap.size ≤ q)

end Go.Proofs.YtbbcbfhijmhnkaaDoor

/-
  slices.Index where the number is there; impl.renumbered.
-/
namespace Go.Proofs.YtbbcbfhijmhnkaaDoor
open Go.RowKit
set_option linter.unusedVariables false
set_option linter.unusedSimpArgs false
set_option maxHeartbeats 4000000
set_option maxRecDepth 20000

end Go.Proofs.YtbbcbfhijmhnkaaDoor

/-
  impl.need, impl.cameThrough's deferred closure.
-/
namespace Go.Proofs.YtbbcbfhijmhnkaaDoor
open Go.RowKit
set_option linter.unusedVariables false
set_option linter.unusedSimpArgs false
set_option maxHeartbeats 4000000
set_option maxRecDepth 20000

/-- What need gives up with. -/
def notTold : Value := .iface 9 (.string ⟨#[110, 111, 116, 32, 97, 115, 32, 116, 111, 108, 100]⟩)

/-- A world that only grows, whatever the two sizes. -/
theorem below_le {a w w' : World} {B : Nat} (h : Below B a w) (k : Below w.heap.size w w') (hB : B ≤ w.heap.size) : Below B a w' := h.trans (k.mono hB)

end Go.Proofs.YtbbcbfhijmhnkaaDoor
