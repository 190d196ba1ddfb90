/-
  The law FnExactValueOk: at every argument ValueOk answers as the specification and writes into no argument.
-/
import Derived.Test.YtepahapocgmhiaaValTop
import Derived.Test.YtepahapocgmhiaaEqVal
import Derived.Test.YtepahapocgmhiaaOpenProc
import Derived.Test.YtepahapocgmhiaaLift
namespace Go.Proofs.Ytepahapocgmhiaa
open Go.ChangeShapes Go.WideShapes Go.ChangeAt Go.RowKit
set_option linter.unusedVariables false
set_option linter.unusedSimpArgs false
set_option maxHeartbeats 8000000
set_option maxRecDepth 20000

theorem RdV.form {d : Nat} {w : World} {cs : List Value} {x : Val d} (h : RdV d w cs x) : ∃ (k n : Int) (t : ByteArray) (a1 : Option Addr) (n1 c1 : Nat) (a2 : Option Addr) (n2 c2 : Nat), cs = [.int .i64 k, .int .i64 n, .string t, .slice a1 n1 c1, .slice a2 n2 c2] := by
  cases d with
  | zero => exact h.elim
  | succ d =>
    obtain ⟨k, n, t, its, ks⟩ := x
    obtain ⟨iv, kv, rfl, ⟨ia, ic, rfl, _⟩, _, ⟨ka, kc, rfl, _⟩, _⟩ := h
    exact ⟨_, _, _, _, _, _, _, _, _, rfl⟩
theorem ok_same {d : Nat} {x : Val d} {b1 b2 : Bool} (h1 : b1 = true ↔ RightV d x 6 ∧ cntV d x ≤ 100) (h2 : b2 = true ↔ RightV d x 6 ∧ cntV d x ≤ 100) : b2 = b1 := by
  cases b1 <;> cases b2
  · rfl
  · exact absurd (h1.2 (h2.1 rfl)) (by decide)
  · exact absurd (h2.2 (h1.1 rfl)) (by decide)
  · rfl


theorem cellsLValue : Try.prog.cellsOf 25 = 5 := by kernel_rfl
theorem valT : ValT Try.prog 25 := ⟨_, _, _, _, _, 2, 9, 22, 23, Try.underlying25, cellsLValue, rfl, rfl, rfl, rfl, rfl, rfl, rfl, rfl, rfl, rfl, Try.underlying2, by kernel_rfl, Try.underlying9, by kernel_rfl, Try.underlying22, by kernel_rfl, Try.underlying23, by kernel_rfl⟩

/-- A Value that came in. -/
theorem open_valueL {H : Type} {enc : TypeId × Value → H} {W : World} {base : Nat} {held : Bool} {r : Reach} {b0 : Nat} {v0 : Value} {dd : DataW H} {p : List MemPlace}
    (hv : Value.okWide Try.prog W r b0 25 v0) (h : DataW.Trod enc Try.prog W base (fun _ => true) held 25 v0 dd p) :
    ∃ (d : Nat) (x : Val d) (cs : List Value), v0 = .agg cs.toArray ∧ RdV d W cs x := by
  obtain ⟨cs, rfl, hsz⟩ := okWide_struct Try.underlying25 hv
  obtain ⟨fuel, hf⟩ := h
  obtain ⟨y, hy⟩ := open_value valT fuel fuel (Nat.le_refl _) hf
  exact ⟨fuel + 1, y, _, by simp [Value.cells], hy⟩


end Go.Proofs.Ytepahapocgmhiaa
