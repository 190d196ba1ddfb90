/-
  Put together out of: DoAdd, DoDrop, DoProc, SpecEd.
-/
import Derived.Test.YtbbcbfhijmhnkaaDoorDo13N
import Derived.BigRegion
import Derived.Test.YtbbcbfhijmhnkaaDoorDoSet
/-
  spec.l13Do: one statement more.
-/
namespace Go.Proofs.YtbbcbfhijmhnkaaDoor
open Go.RowKit
set_option linter.unusedVariables false
set_option linter.unusedSimpArgs false
set_option maxHeartbeats 8000000
set_option maxRecDepth 20000

end Go.Proofs.YtbbcbfhijmhnkaaDoor

/-
  spec.l13Do: one statement goes.
-/
namespace Go.Proofs.YtbbcbfhijmhnkaaDoor
open Go.RowKit
set_option linter.unusedVariables false
set_option linter.unusedSimpArgs false
set_option maxHeartbeats 8000000
set_option maxRecDepth 20000

end Go.Proofs.YtbbcbfhijmhnkaaDoor

/-
  spec.l13Do: a procedure more; where there is no such place.
-/
namespace Go.Proofs.YtbbcbfhijmhnkaaDoor
open Go.RowKit
set_option linter.unusedVariables false
set_option linter.unusedSimpArgs false
set_option maxHeartbeats 8000000
set_option maxRecDepth 20000

end Go.Proofs.YtbbcbfhijmhnkaaDoor

/-
  spec.l13Do, all of it; spec.Edited.
-/
namespace Go.Proofs.YtbbcbfhijmhnkaaDoor
open Go.RowKit
set_option linter.unusedVariables false
set_option linter.unusedSimpArgs false
set_option maxHeartbeats 4000000
set_option maxRecDepth 20000

theorem own13_form {w : World} {base : Nat} {u : Value} {us : List Value} {ps : List (List Stm)} (h : Own13 w base u us ps) (h0 : 0 < ps.length) : ∃ G cap, u = .slice (some ⟨G, 0, none⟩) ps.length cap := by
  rcases h.row.2 with ⟨_, hn⟩ | ⟨g, cap, cur, rfl, _⟩
  · omega
  · exact ⟨g, cap, rfl⟩

end Go.Proofs.YtbbcbfhijmhnkaaDoor
