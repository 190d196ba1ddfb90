/-
  Chapter 6: RelOk, both sides.
-/
import Derived.Test.YtmloeldgeegddaaPut
namespace Go.Proofs.Ytmloeldgeegddaa
open Go.RowKit
set_option linter.unusedVariables false
set_option maxHeartbeats 1000000

/-- Is it a relation: seven sets, each from 0 to 127? -/
def relOk (xs : List Int) : Bool := xs.all (fun x => inB x 0 127) && decide (xs.length = 7)

theorem wiB_inB (x : Int) : wiB x 128 = inB x 0 127 := by
  unfold wiB inB
  congr 1
  simp only [decide_eq_decide]
  omega

theorem take_all {xs : List Int} {k : Nat} (hk : k < xs.length) (h : (xs.take k).all (fun x => inB x 0 127) = true) (hx : inB xs[k] 0 127 = true) : (xs.take (k + 1)).all (fun x => inB x 0 127) = true := by
  rw [List.take_add_one, List.getElem?_eq_getElem hk]
  simp only [Option.toList_some, List.all_append, h, List.all_cons, hx, List.all_nil, Bool.and_self]

theorem all_not {xs : List Int} {k : Nat} (hk : k < xs.length) (hx : inB xs[k] 0 127 = false) : xs.all (fun x => inB x 0 127) = false := by
  rw [List.all_eq_false]
  exact ⟨xs[k], List.getElem_mem hk, by simp [hx]⟩



end Go.Proofs.Ytmloeldgeegddaa
