/-
  Slices of slices of numbers that came in: szInt64SS, toInt64SS, opened; szProgram with its upper bound.
-/
import Derived.Test.YtggglcjdnllnjaaGreatDoorToInts
import Derived.Test.YtggglcjdnllnjaaGreatDoorSzProg
import Derived.Test.YtggglcjdnllnjaaGreatDoorListsLaw
namespace Go.Proofs.YtggglcjdnllnjaaGreatDoor
set_option maxRecDepth 100000
open Go.ChangeShapes Go.WideShapes Go.ChangeAt Go.RowKit
set_option linter.unusedVariables false
set_option maxHeartbeats 4000000


section
variable {H : Type} {enc : TypeId × Value → H} {P : Program} {w : World} {base : Nat} {spare : Nat → Bool} {held : Bool}

theorem open_lists {t e ti : TypeId} {fuel : Nat} {cs : List Value} {x : DataW H × List MemPlace} (ht : P.underlying t = some (.slice e)) (he : P.underlying e = some (.slice ti)) (hce : P.cellsOf e = 1) (hi : P.underlying ti = some (.int .i64)) (hci : P.cellsOf ti = 1)
    (h : DataW.trod enc P w base spare held fuel t cs = some x) : ∃ v X, cs = [v] ∧ ReadsSS w v X ∧ X.length ≤ maxLen ∧ ∀ p ∈ X, p.length ≤ maxLen := by
  obtain ⟨ao, len, cap, rfl, hm, hel⟩ := open_slice ht h
  rw [hce] at hel
  have each : ∀ i, i < len → ∃ p : List Int, (∃ g off u, ao = some ⟨g, off, none⟩ ∧ w.cell? ⟨g, off + i, none⟩ = some u ∧ Reads w u (ints p)) ∧ p.length ≤ maxLen := by
    intro i hi'
    obtain ⟨a, cs0, _, _, ea, h0, _⟩ := hel 0 (by omega)
    have hn := head_none (len := len) (by omega) h0
    obtain ⟨a', cs', n, y, ea', h1, h2⟩ := hel i hi'
    rw [ea] at ea'
    obtain rfl := Option.some.inj ea'
    obtain ⟨b, off, spot⟩ := a
    simp only at hn
    subst hn
    rw [addr_add, Nat.mul_one] at h1
    obtain ⟨_, hl, hg⟩ := World.cells?_some h1
    match cs', hl with
    | [c0], _ =>
      obtain ⟨u, p, e0, hr, hpl⟩ := Go.Proofs.YtggglcjdnllnjaaGreatDoor.open_ints he hi hci h2
      simp at e0
      subst e0
      have g0 := hg 0 (by omega)
      rw [addr_add] at g0
      exact ⟨p, ⟨b, off, _, ea, g0, hr⟩, hpl⟩
  obtain ⟨X, hlen, hp⟩ := list_of len each
  refine ⟨_, X, rfl, ⟨ao, cap, by rw [hlen], fun j p hj => (hp j p hj).1⟩, by omega, fun p hpm => ?_⟩
  obtain ⟨j, hj⟩ := List.getElem?_of_mem hpm
  exact (hp j p hj).2

end


end Go.Proofs.YtggglcjdnllnjaaGreatDoor
