/-
  Chapter 17: what is right of a Queue; a Queue in memory.
-/
import Derived.Test.YtggglcjdnllnjaaGreatDoorMarkedB
import Derived.Test.YtggglcjdnllnjaaGreatDoorProc
namespace Go.Proofs.YtggglcjdnllnjaaGreatDoor
open Go.RowKit
set_option linter.unusedVariables false
set_option maxHeartbeats 1000000

theorem two_cellsQ {w : World} {b : Nat} {x y : Value} {t : TypeId} (h : w.heap[b]? = some (.cells #[x, y] t (0, 0))) :
    w.cell? ⟨b, 0, none⟩ = some x ∧ w.cell? ⟨b, 1, none⟩ = some y ∧ w.frozen? ⟨b, 0, none⟩ = false ∧ w.frozen? ⟨b, 1, none⟩ = false := by
  refine ⟨?_, ?_, ?_, ?_⟩ <;> simp [World.cell?, World.frozen?, h]

/-- A number that may wait. -/
def nwB (x : Int) : Bool := inB x 1 1000000

/-- A right Line. -/
def lnB (xs : List Int) : Bool := decide (xs.length ≤ 5) && xs.all nwB

/-- A right Queue. -/
def queB (t : Int) (X : List (List Int)) : Bool := inB t 0 7 && (decide (X.length = 8) && X.all lnB)

theorem all_takeQ {α : Type} {p : α → Bool} {xs : List α} {k : Nat} (hk : k < xs.length) (h : (xs.take k).all p = true) (hx : p xs[k] = true) : (xs.take (k + 1)).all p = true := by
  rw [List.take_add_one, List.getElem?_eq_getElem hk]
  simp only [Option.toList_some, List.all_append, h, List.all_cons, hx, List.all_nil, Bool.and_self]

theorem all_notQ {α : Type} {p : α → Bool} {xs : List α} {k : Nat} (hk : k < xs.length) (hx : p xs[k] = false) : xs.all p = false := by
  rw [List.all_eq_false]
  exact ⟨xs[k], List.getElem_mem hk, by simp [hx]⟩

theorem wiB_inQ (x : Int) : wiB x 8 = inB x 0 7 := by
  unfold wiB inB
  congr 1
  simp only [decide_eq_decide]
  omega

theorem inB_iffQ {x lo hi : Int} : inB x lo hi = true ↔ lo ≤ x ∧ x ≤ hi := by
  unfold inB
  simp

theorem queB_parts {t : Int} {X : List (List Int)} (h : queB t X = true) : 0 ≤ t ∧ t ≤ 7 ∧ X.length = 8 ∧ (∀ x ∈ X, x.length ≤ 5) ∧ (∀ x ∈ X, ∀ y ∈ x, 1 ≤ y ∧ y ≤ 1000000) := by
  unfold queB at h
  simp only [Bool.and_eq_true, decide_eq_true_eq, List.all_eq_true] at h
  obtain ⟨h1, h2, h3⟩ := h
  obtain ⟨h4, h5⟩ := inB_iffQ.1 h1
  refine ⟨h4, h5, h2, fun x hx => ?_, fun x hx y hy => ?_⟩
  · have := h3 x hx
    unfold lnB at this
    simp only [Bool.and_eq_true, decide_eq_true_eq] at this
    exact this.1
  · have := h3 x hx
    unfold lnB at this
    simp only [Bool.and_eq_true, List.all_eq_true] at this
    exact inB_iffQ.1 (this.2 y hy)

end Go.Proofs.YtggglcjdnllnjaaGreatDoor
