/-
 Chapter 11, the specification's side: l11Facts, Facts.
-/
import Derived.Test.YtnjbihfceckpfaaG46SpecEntT
namespace Go.Proofs.Ytnjbihfceckpfaa
open Go.RowKit
set_option linter.unusedVariables false
set_option linter.unusedSimpArgs false
set_option maxHeartbeats 4000000
set_option maxRecDepth 20000

theorem rowF_len (I : Nat → Nat → List Int) (E : List Int) (i n : Nat) : (rowF I E i n).length = n := by simp [rowF]
theorem rowF_take (I : Nat → Nat → List Int) (E : List Int) (i n : Nat) {k : Nat} (hk : k < n) : (rowF I E i n).take (k + 1) = (rowF I E i n).take k ++ [img (I i k) (E.getD i 0)] := by
 rw [List.take_succ_eq_append_getElem (by rw [rowF_len]; exact hk)]
 simp [rowF]
theorem factL_len (ps : List (List Stm)) (I : Nat → Nat → List Int) (E : List Int) : (factL ps I E).length = ps.length := by simp [factL]
end Go.Proofs.Ytnjbihfceckpfaa
