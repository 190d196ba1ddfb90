/-
  laws.toInt64S; a slice of int64 that came in, opened.
-/
import Derived.Test.YtmophdojojcpbaaPut
import Derived.Test.YtmophdojojcpbaaOpenProc
namespace Go.Proofs.Ytmophdojojcpbaa
set_option maxRecDepth 100000
open Go.ChangeShapes Go.WideShapes Go.ChangeAt Go.RowKit
set_option linter.unusedVariables false
set_option maxHeartbeats 1000000

theorem toInt64S (ys : List Int) (v : Value) (w : World) (hl : ys.length ≤ 1048576) (hv : Reads w v (ints ys)) :
    Calls Try.prog 66 #[v] w fun e w' => ∃ g, e = .returned (.slice (some ⟨g, 0, none⟩) ys.length ys.length) ∧ w'.ownsRow w.heap.size 2 1 (.slice (some ⟨g, 0, none⟩) ys.length ys.length) ys.length (ints ys) ∧ Below w.heap.size w w' := by
  obtain ⟨i0, hi, hz0, hz1, hz2⟩ := info_parts infoInt
  obtain ⟨ao, cap, rfl, hc⟩ := hv
  rw [ints_length]
  have cl := ints_length ys
  go_enter Try.func66, Try.ntmps66
  go_wp2_with (refine wpList_make_full _ rfl (.tmp 6) (.tmp 6) 36 rfl w.heap.size 2 i0 (.int .i64 0) 1 Try.underlying36 hi hz0 hz1 .i64 .i64 _ _ ys.length rfl rfl rfl rfl (by rw [hz2]; omega) (by unfold maxLen; omega) (Nat.le_refl _) ?_; intro w1 own1 grow1)
  have zl : (madeCells (Value.int .i64 0).cells (ys.length * 1)).toList.length = ys.length := by simpa using own1.1
  generalize (madeCells (Value.int .i64 0).cells (ys.length * 1)).toList = zs at own1 zl
  have hb1 : Below w.heap.size w w1 := (Below.refl _ _).grown grow1 (Nat.le_refl _) (by simp)
  go_loopw [4] (fun i wr => ∃ k : Nat, k ≤ ys.length ∧ i = .int .i64 k ∧ wr.ownsRow w.heap.size 2 1 (.slice (some ⟨w.heap.size, 0, none⟩) ys.length ys.length) ys.length (filled (ints ys) zs k) ∧ Below w.heap.size w wr) (fun i _ => ys.length - (intOf i).toNat)
  case atStart => exact ⟨0, Nat.zero_le _, rfl, by simpa [filled] using own1, hb1⟩
  case round =>
    obtain ⟨k, hk, rfl, hown, hb⟩ := hrel
    by_cases hlt : k < ys.length
    · have hsk : (ints ys)[k]? = some (.int .i64 ys[k]) := by simp [ints, hlt]
      obtain ⟨g, off, rfl, p0⟩ := hc k _ hsk
      have pB := World.block_lt_of_cell? w _ p0
      have p0 := (hb.cell pB).trans p0
      have hlt' : (k : Int) < (ys.length : Int) := by omega
      have e1 := filled_set (ints ys) zs k _ (by omega) hsk
      clear hc hsk
      generalize ys[k] = y at *
      have f0 := hown.frozenAt k
      obtain ⟨y0, c0⟩ := own_cell hown k (by omega)
      have HO : Hid ((wr.setCell ⟨w.heap.size, k, none⟩ (.int .i64 y)).ownsRow w.heap.size 2 1 (.slice (some ⟨w.heap.size, 0, none⟩) ys.length ys.length) ys.length (filled (ints ys) zs (k + 1))) := by
        have h3 := (hown.stored k (.int .i64 y)).1
        rw [e1] at h3
        exact h3
      clear e1
      go_wp2
      go_roundw
      case rel => exact ⟨k + 1, by omega, by go_num, HO.out, hb.setCell (Nat.le_refl _) _⟩
      case measure => simp [intOf]; omega
    · have hkk : k = ys.length := by omega
      subst hkk
      go_wp2
      go_ret
      refine ⟨w.heap.size, rfl, ?_, hb⟩
      rw [filled_all _ _ _ (by omega) (by omega)] at hown
      exact hown

section
variable {H : Type} {enc : TypeId × Value → H} {P : Program} {w : World} {base : Nat} {spare : Nat → Bool} {held : Bool}

theorem open_ints {t ti : TypeId} {fuel : Nat} {cs : List Value} {x : DataW H × List MemPlace} (ht : P.underlying t = some (.slice ti)) (hi : P.underlying ti = some (.int .i64)) (hci : P.cellsOf ti = 1)
    (h : DataW.trod enc P w base spare held fuel t cs = some x) : ∃ v ys, cs = [v] ∧ Reads w v (ints ys) ∧ ys.length ≤ maxLen := by
  obtain ⟨ao, len, cap, rfl, hm, hel⟩ := open_slice ht h
  rw [hci] at hel
  have each : ∀ i, i < len → ∃ y : Int, ∃ g off, ao = some ⟨g, off, none⟩ ∧ w.cell? ⟨g, off + i, none⟩ = some (.int .i64 y) := by
    intro i hi'
    obtain ⟨a, cs0, _, _, ea, h0, _⟩ := hel 0 (by omega)
    have hn := head_none (len := len) (by omega) h0
    obtain ⟨a', cs', n, y, ea', h1, h2⟩ := hel i hi'
    rw [ea] at ea'
    obtain rfl := Option.some.inj ea'
    obtain ⟨b, off, spot⟩ := a
    simp only at hn
    subst hn
    rw [addr_add, Nat.mul_one] at h1
    obtain ⟨_, hl, hg⟩ := World.cells?_some h1
    match cs', hl with
    | [c0], _ =>
      obtain ⟨kk, e0, _, _⟩ := DataW.trod_int hi h2
      simp at e0
      subst e0
      have g0 := hg 0 (by omega)
      rw [addr_add] at g0
      exact ⟨kk, b, off, ea, g0⟩
  obtain ⟨ys, hlen, hp⟩ := list_of len each
  refine ⟨_, ys, rfl, ⟨ao, cap, by rw [ints_length, hlen], fun j x hx => ?_⟩, by omega⟩
  simp only [ints, List.getElem?_map, Option.map_eq_some_iff] at hx
  obtain ⟨y, hy, rfl⟩ := hx
  exact hp j y hy
end

/-- A slice of numbers that came in. -/
theorem open_ints_arg {H : Type} {enc : TypeId × Value → H} {W : World} {base : Nat} {held : Bool} {r : Reach} {b0 : Nat} {v0 : Value} {d : DataW H} {p : List MemPlace}
    (hv : Value.okWide Try.prog W r b0 36 v0) (h : DataW.Trod enc Try.prog W base (fun _ => true) held 36 v0 d p) :
    ∃ ys, Reads W v0 (ints ys) ∧ ys.length ≤ maxLen := by
  obtain ⟨fuel, hf⟩ := h
  obtain ⟨a, n, c, rfl⟩ := okWide_slice Try.underlying36 hv
  obtain ⟨u, ys, e0, hr, hl⟩ := open_ints (ti := 2) Try.underlying36 Try.underlying2 cellsInt hf
  simp [Value.cells] at e0
  subst e0
  exact ⟨ys, hr, hl⟩

end Go.Proofs.Ytmophdojojcpbaa
