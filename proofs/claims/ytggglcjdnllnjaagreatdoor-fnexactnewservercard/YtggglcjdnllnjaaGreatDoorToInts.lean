/-
  laws.toInt64S; a slice of int64 that came in, opened.
-/
import Derived.Test.YtggglcjdnllnjaaGreatDoorPut
import Derived.Test.YtggglcjdnllnjaaGreatDoorOpenProc
namespace Go.Proofs.YtggglcjdnllnjaaGreatDoor
set_option maxRecDepth 100000
open Go.ChangeShapes Go.WideShapes Go.ChangeAt Go.RowKit
set_option linter.unusedVariables false
set_option maxHeartbeats 1000000


section
variable {H : Type} {enc : TypeId × Value → H} {P : Program} {w : World} {base : Nat} {spare : Nat → Bool} {held : Bool}

theorem open_ints {t ti : TypeId} {fuel : Nat} {cs : List Value} {x : DataW H × List MemPlace} (ht : P.underlying t = some (.slice ti)) (hi : P.underlying ti = some (.int .i64)) (hci : P.cellsOf ti = 1)
    (h : DataW.trod enc P w base spare held fuel t cs = some x) : ∃ v ys, cs = [v] ∧ Reads w v (ints ys) ∧ ys.length ≤ maxLen := by
  obtain ⟨ao, len, cap, rfl, hm, hel⟩ := open_slice ht h
  rw [hci] at hel
  have each : ∀ i, i < len → ∃ y : Int, ∃ g off, ao = some ⟨g, off, none⟩ ∧ w.cell? ⟨g, off + i, none⟩ = some (.int .i64 y) := by
    intro i hi'
    obtain ⟨a, cs0, _, _, ea, h0, _⟩ := hel 0 (by omega)
    have hn := head_none (len := len) (by omega) h0
    obtain ⟨a', cs', n, y, ea', h1, h2⟩ := hel i hi'
    rw [ea] at ea'
    obtain rfl := Option.some.inj ea'
    obtain ⟨b, off, spot⟩ := a
    simp only at hn
    subst hn
    rw [addr_add, Nat.mul_one] at h1
    obtain ⟨_, hl, hg⟩ := World.cells?_some h1
    match cs', hl with
    | [c0], _ =>
      obtain ⟨kk, e0, _, _⟩ := DataW.trod_int hi h2
      simp at e0
      subst e0
      have g0 := hg 0 (by omega)
      rw [addr_add] at g0
      exact ⟨kk, b, off, ea, g0⟩
  obtain ⟨ys, hlen, hp⟩ := list_of len each
  refine ⟨_, ys, rfl, ⟨ao, cap, by rw [ints_length, hlen], fun j x hx => ?_⟩, by omega⟩
  simp only [ints, List.getElem?_map, Option.map_eq_some_iff] at hx
  obtain ⟨y, hy, rfl⟩ := hx
  exact hp j y hy
end

/-- A slice of numbers that came in. -/
theorem open_ints_arg {H : Type} {enc : TypeId × Value → H} {W : World} {base : Nat} {held : Bool} {r : Reach} {b0 : Nat} {v0 : Value} {d : DataW H} {p : List MemPlace}
    (hv : Value.okWide Tryz.prog W r b0 74 v0) (h : DataW.Trod enc Tryz.prog W base (fun _ => true) held 74 v0 d p) :
    ∃ ys, Reads W v0 (ints ys) ∧ ys.length ≤ maxLen := by
  obtain ⟨fuel, hf⟩ := h
  obtain ⟨a, n, c, rfl⟩ := okWide_slice Tryz.underlying74 hv
  obtain ⟨u, ys, e0, hr, hl⟩ := open_ints (ti := 2) Tryz.underlying74 Tryz.underlying2 cellsInt hf
  simp [Value.cells] at e0
  subst e0
  exact ⟨ys, hr, hl⟩

end Go.Proofs.YtggglcjdnllnjaaGreatDoor
