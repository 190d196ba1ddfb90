/-
  impl.spliced: jumps moved, then slices.Replace.
-/
import Derived.Test.YtgpnoahmpmbgfaaDoorIns
import Derived.Test.YtgpnoahmpmbgfaaDoorEditM
namespace Go.Proofs.YtgpnoahmpmbgfaaDoor
open Go.RowKit
set_option linter.unusedVariables false
set_option linter.unusedSimpArgs false
set_option maxHeartbeats 4000000
set_option maxRecDepth 20000

/-- What slices.Replace makes of a row in block g. -/
def RepAt (g base n' : Nat) (R : List Stm) (W : World) (e : Ending) (w' : World) : Prop :=
  ∃ q c', e = .returned (.slice (some ⟨q, 0, none⟩) n' c') ∧ w'.ownsRow base 48 3 (.slice (some ⟨q, 0, none⟩) n' c') n' (cells3 R) ∧ W.grownBy w' (some g) ∧ (q = g ∨ W.heap.size ≤ q)

theorem grown_setRow13 (w : World) (b o : Nat) (v : Value) : w.grownBy (w.setCell ⟨b, o, none⟩ v) (some b) :=
  ⟨rfl, rfl, rfl, by simp [World.setCell], fun k _ hk => Below.heap_setCell w ⟨b, o, none⟩ v k (fun e => hk (by rw [e]))⟩

end Go.Proofs.YtgpnoahmpmbgfaaDoor
