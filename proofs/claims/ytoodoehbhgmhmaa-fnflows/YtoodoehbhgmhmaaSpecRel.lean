/-
  Chapter 6, the specification's side: l6Image, Image, l6Compose, l6Join, Compose, Join, Within, Unit.
-/
import Derived.Test.YtoodoehbhgmhmaaRelM
import Derived.Deep.AppendLies
import Derived.Deep.RegionHeld3
namespace Go.Proofs.Ytoodoehbhgmhmaa
open Go.RowKit
set_option linter.unusedVariables false
set_option maxHeartbeats 1000000



theorem comp_take {xs ys : List Int} {k : Nat} (h : k < xs.length) : (comp xs ys).take (k + 1) = (comp xs ys).take k ++ [img ys (xs.getD k 0)] := by
  rw [List.take_add_one]
  simp [comp, List.getD, h]

theorem joi_take {xs ys : List Int} {k : Nat} (h : k < xs.length) (h' : k < ys.length) : (joi xs ys).take (k + 1) = (joi xs ys).take k ++ [lor (xs.getD k 0) (ys.getD k 0)] := by
  rw [List.take_add_one]
  simp [joi, List.getD, h, h', List.getElem?_zipWith]

theorem ints_append (xs ys : List Int) : ints (xs ++ ys) = ints xs ++ ints ys := by simp [ints]

theorem getD_int {w : World} {ao : Option Addr} {xs : List Int} (hc : ∀ (j : Nat) (x : Value), (ints xs)[j]? = some x → ∃ g off, ao = some ⟨g, off, none⟩ ∧ w.cell? ⟨g, off + j, none⟩ = some x) {k : Nat} (h : k < xs.length) :
    ∃ g off, ao = some ⟨g, off, none⟩ ∧ w.cell? ⟨g, off + k, none⟩ = some (.int .i64 (xs.getD k 0)) := hc k _ (by simp [ints, List.getD, h])





theorem list_ext_take {xs ys : List Int} {k : Nat} (hk : k < xs.length) (hl : xs.length = ys.length) (h : xs.take k = ys.take k) (hx : xs.getD k 0 = ys.getD k 0) : xs.take (k + 1) = ys.take (k + 1) := by
  have hk' : k < ys.length := by omega
  rw [List.take_add_one, List.take_add_one, h, List.getElem?_eq_getElem hk, List.getElem?_eq_getElem hk']
  simp [List.getD, hk, hk'] at hx
  rw [hx]

theorem list_ne_get {xs ys : List Int} {k : Nat} (hx : ¬ xs.getD k 0 = ys.getD k 0) : ¬ xs = ys := fun h => hx (by rw [h])



theorem specUnit (w : World) : Calls Try.prog 43 #[] w fun e w' => ∃ a, e = .returned a ∧ w'.ownsRow w.heap.size 2 1 a unitL.length (ints unitL) ∧ Below w.heap.size w w' := by
  go_enter Try.func43, Try.ntmps43
  go_wp2
  go_ret
  refine ⟨_, rfl, ?_, by go_grown⟩
  exact World.ownsRow_lit (base := w.heap.size) (e := 2) (size := 1) w #[.int .i64 1, .int .i64 2, .int .i64 4, .int .i64 8, .int .i64 16, .int .i64 32, .int .i64 64] 7 (Nat.le_refl _) (by decide) (by simp)

end Go.Proofs.Ytoodoehbhgmhmaa
