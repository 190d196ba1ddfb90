/-
  Programs: toProcS, toProgram, szProcS, szProgram, eqProcS, eqProgram.
-/
import Derived.Test.YtjlpjjddnkceoaaOpenProc
namespace Go.Proofs.Ytjlpjjddnkceoaa
open Go.RowKit
set_option linter.unusedVariables false
set_option maxHeartbeats 1000000

theorem set_snoc (us zs : List Value) (u : Value) (k : Nat) (hk : us.length = k) (hz : k < zs.length) : (us ++ zs.drop k).set k u = (us ++ [u]) ++ zs.drop (k + 1) := by
  subst hk
  rw [List.set_append_right _ _ (Nat.le_refl _), Nat.sub_self, List.drop_eq_getElem_cons hz, List.set_cons_zero, List.append_assoc]
  rfl

end Go.Proofs.Ytjlpjjddnkceoaa
