/-
  slices.Replace over statements: one in place of one, one that goes.
-/
import Derived.Test.YtbbcbfhijmhnkaaDoorCopyS
import Derived.BigRegion
import Derived.Deep.RegionHeld3
namespace Go.Proofs.YtbbcbfhijmhnkaaDoor
open Go.RowKit
set_option linter.unusedVariables false
set_option linter.unusedSimpArgs false
set_option maxHeartbeats 4000000
set_option maxRecDepth 20000

theorem lit_cells {w : World} {b : Nat} {k x y : Int} (h : w.heap[b]? = some (.cells #[.int .i64 k, .int .i64 x, .int .i64 y] 36 (0, 0))) : ∀ j u, (cells3 [⟨k, x, y⟩])[j]? = some u → w.cell? ((⟨b, 0, none⟩ : Addr).add j) = some u := by
  intro j u hj
  rw [Addr.add_lit, Nat.zero_add, cell_of_row w b j _ _ (0, 0) h, ← hj]
  simp [cells3]

theorem lit_kept {w w' : World} {b g : Nat} {o : Obj} (h : w.heap[b]? = some o) (hg : w.grownBy w' (some g)) (hne : b ≠ g) : w'.heap[b]? = some o :=
  (hg.block b (Array.getElem?_eq_some_iff.1 h).1 (fun e => hne (Option.some.inj e))).trans h

theorem clear0 (x : Option Addr) (c : Nat) (ty : TypeId) (W : World) : (Builtin.clear_ #[32] ty #[.slice x 0 c]).run Tryd.prog W = .ok (.tuple #[]) W := by
  cases x <;> simp [Builtin.clear_, run_underlying Tryd.underlying32]

theorem zero_stmt (W : World) : (zeroValue 36).run Tryd.prog W = .ok (.agg #[.int .i64 0, .int .i64 0, .int .i64 0]) W := by
  obtain ⟨i0, hi, hz0, hz1, hz2⟩ := info_parts infoStmt
  simp [zeroValue, typeInfo, hi, hz0]

end Go.Proofs.YtbbcbfhijmhnkaaDoor
