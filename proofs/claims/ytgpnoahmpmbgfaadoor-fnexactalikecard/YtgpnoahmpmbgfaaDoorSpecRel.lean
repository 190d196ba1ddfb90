/-
  Chapter 6, the specification's side: l6Image, Image, l6Compose, l6Join, Compose, Join, Within, Unit.
-/
import Derived.Test.YtgpnoahmpmbgfaaDoorRelM
import Derived.Deep.AppendLies
import Derived.Deep.RegionHeld3
namespace Go.Proofs.YtgpnoahmpmbgfaaDoor
open Go.RowKit
set_option linter.unusedVariables false
set_option maxHeartbeats 1000000



theorem comp_take {xs ys : List Int} {k : Nat} (h : k < xs.length) : (comp xs ys).take (k + 1) = (comp xs ys).take k ++ [img ys (xs.getD k 0)] := by
  rw [List.take_add_one]
  simp [comp, List.getD, h]

theorem joi_take {xs ys : List Int} {k : Nat} (h : k < xs.length) (h' : k < ys.length) : (joi xs ys).take (k + 1) = (joi xs ys).take k ++ [lor (xs.getD k 0) (ys.getD k 0)] := by
  rw [List.take_add_one]
  simp [joi, List.getD, h, h', List.getElem?_zipWith]

theorem ints_append (xs ys : List Int) : ints (xs ++ ys) = ints xs ++ ints ys := by simp [ints]

theorem getD_int {w : World} {ao : Option Addr} {xs : List Int} (hc : ∀ (j : Nat) (x : Value), (ints xs)[j]? = some x → ∃ g off, ao = some ⟨g, off, none⟩ ∧ w.cell? ⟨g, off + j, none⟩ = some x) {k : Nat} (h : k < xs.length) :
    ∃ g off, ao = some ⟨g, off, none⟩ ∧ w.cell? ⟨g, off + k, none⟩ = some (.int .i64 (xs.getD k 0)) := hc k _ (by simp [ints, List.getD, h])





theorem list_ext_take {xs ys : List Int} {k : Nat} (hk : k < xs.length) (hl : xs.length = ys.length) (h : xs.take k = ys.take k) (hx : xs.getD k 0 = ys.getD k 0) : xs.take (k + 1) = ys.take (k + 1) := by
  have hk' : k < ys.length := by omega
  rw [List.take_add_one, List.take_add_one, h, List.getElem?_eq_getElem hk, List.getElem?_eq_getElem hk']
  simp [List.getD, hk, hk'] at hx
  rw [hx]

theorem list_ne_get {xs ys : List Int} {k : Nat} (hx : ¬ xs.getD k 0 = ys.getD k 0) : ¬ xs = ys := fun h => hx (by rw [h])




end Go.Proofs.YtgpnoahmpmbgfaaDoor
