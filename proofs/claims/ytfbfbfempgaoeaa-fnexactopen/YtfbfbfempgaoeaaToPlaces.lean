/-
  Slices of Places that came in: szPlaceS, toPlaceS, opened.
-/
import Derived.Test.YtfbfbfempgaoeaaSzProg
import Derived.Test.YtfbfbfempgaoeaaPlOwn
namespace Go.Proofs.Ytfbfbfempgaoeaa
set_option maxRecDepth 100000
open Go.ChangeShapes Go.WideShapes Go.ChangeAt Go.RowKit
set_option linter.unusedVariables false
set_option maxHeartbeats 4000000

theorem szPlaceS (n : Nat) (a : Option Addr) (cap : Nat) (l : Int) (w : World) (hn : n ≤ maxLen) (h0 : 0 ≤ l) (hl : l ≤ 1048576) :
    Calls Try.prog 8 #[.slice a n cap, .int .i64 l] w fun e w' => e = .returned (.int .i64 (if l < n then -1 else l - n)) ∧ w = w' := by
  unfold maxLen at hn
  by_cases h : l < (n : Int)
  · rw [if_pos h]
    have hx : (decide (l - (n : Int) < 0)) = true := by simp; omega
    go_enter Try.func8, Try.ntmps8
    go_wp2
    go_ret
    exact ⟨rfl, rfl⟩
  · rw [if_neg h]
    have hx : (decide (l - (n : Int) < 0)) = false := by simp; omega
    go_enter Try.func8, Try.ntmps8
    go_wp2
    go_ret
    exact ⟨rfl, rfl⟩

theorem toPlace (x y : Int) (w : World) :
    Calls Try.prog 27 #[.agg #[.int .i64 x, .int .i64 y]] w fun e w' => e = .returned (.agg #[.int .i64 x, .int .i64 y]) ∧ Below w.heap.size w w' := by
  go_enter Try.func27, Try.ntmps27
  go_wp2
  go_returns
  exact ⟨rfl, by go_grown⟩

theorem toPlaceS (n : Nat) (ys : List Int) (v : Value) (w : World) (hy : ys.length = 2 * n) (hl : n ≤ 1048576) (hv : Reads2 w v n (ints ys)) :
    Calls Try.prog 11 #[v] w fun e w' => ∃ u, e = .returned u ∧ w'.ownsRow w.heap.size 49 2 u n (ints ys) ∧ Below w.heap.size w w' := by
  obtain ⟨i0, hi, hz0, hz1, hz2⟩ := info_parts infoPlace
  obtain ⟨ao, cap, rfl, hc⟩ := hv
  have cl := ints_length ys
  go_enter Try.func11, Try.ntmps11
  go_wp2_with (refine wpList_make_full _ rfl (.tmp 6) (.tmp 6) 33 rfl w.heap.size 49 i0 (.agg #[.int .i64 0, .int .i64 0]) 2 Try.underlying33 hi hz0 hz1 .i64 .i64 _ _ n rfl rfl rfl rfl (by rw [hz2]; omega) (by unfold maxLen; omega) (Nat.le_refl _) ?_; intro w1 own1 grow1)
  have zl : (madeCells (Value.agg #[.int .i64 0, .int .i64 0]).cells (n * 2)).toList.length = n * 2 := by simpa using own1.1
  generalize (madeCells (Value.agg #[.int .i64 0, .int .i64 0]).cells (n * 2)).toList = zs at own1 zl
  have hb1 : Below w.heap.size w w1 := (Below.refl _ _).grown grow1 (Nat.le_refl _) (by simp)
  go_loopw [4] (fun i wr => ∃ k : Nat, k ≤ n ∧ i = .int .i64 k ∧ wr.ownsRow w.heap.size 49 2 (.slice (some ⟨w.heap.size, 0, none⟩) n n) n (filled (ints ys) zs (k * 2)) ∧ Below w.heap.size w wr) (fun i _ => n - (intOf i).toNat)
  case atStart => exact ⟨0, Nat.zero_le _, rfl, by simpa [filled] using own1, hb1⟩
  case round =>
    obtain ⟨k, hk, rfl, hown, hb⟩ := hrel
    by_cases hlt : k < n
    · have k1 : k * 2 < ys.length := by omega
      have k2 : k * 2 + 1 < ys.length := by omega
      have a0 : (ints ys)[k * 2]? = some (.int .i64 ys[k * 2]) := by simp [ints, k1]
      have a1 : (ints ys)[k * 2 + 1]? = some (.int .i64 ys[k * 2 + 1]) := by simp [ints, k2]
      obtain ⟨g, off, rfl, p0⟩ := hc (k * 2) _ a0
      obtain ⟨g9, off9, e9, p1⟩ := hc (k * 2 + 1) _ a1
      cases e9
      have pB := World.block_lt_of_cell? w _ p0
      have p0 := (hb.cell pB).trans p0
      have p1 := (hb.cell (p := ⟨g, off + (k * 2 + 1), none⟩) pB).trans p1
      rw [← Nat.add_assoc] at p1
      have hlt' : (k : Int) < (n : Int) := by omega
      have he := toPlace ys[k * 2] ys[k * 2 + 1]
      have e1 := filled_set (ints ys) zs (k * 2) _ (by omega) a0
      have e2 := filled_set (ints ys) zs (k * 2 + 1) _ (by omega) a1
      clear hc a0 a1
      generalize ys[k * 2] = x at *
      generalize ys[k * 2 + 1] = y at *
      go_wp2_with fail
      go_at_call 27
      refine (he wr).mono ?_
      rintro e w2 ⟨rfl, b2⟩
      have own2 := own_kept hown b2
      have hb2 := hb.trans (b2.mono hb.size)
      have f0 := own2.frozenAt (k * 2)
      have f1 := own2.frozenAt (k * 2 + 1)
      obtain ⟨y0, c0⟩ := own_cell own2 (k * 2) (by omega)
      obtain ⟨y1, c1⟩ := own_cell own2 (k * 2 + 1) (by omega)
      have HO : Hid ((((w2.setCell ⟨w.heap.size, k * 2, none⟩ (.int .i64 x)).setCell ⟨w.heap.size, k * 2 + 1, none⟩ (.int .i64 y))).ownsRow w.heap.size 49 2 (.slice (some ⟨w.heap.size, 0, none⟩) n n) n (filled (ints ys) zs ((k + 1) * 2))) := by
        have h3 := ((own2.stored (k * 2) (.int .i64 x)).1.stored (k * 2 + 1) (.int .i64 y)).1
        rw [e1, e2] at h3
        have : (k + 1) * 2 = k * 2 + 1 + 1 := by omega
        rw [this]
        exact h3
      clear e1 e2
      go_wp2
      go_roundw
      case rel => exact ⟨k + 1, by omega, by go_num, HO.out, (hb2.setCell (Nat.le_refl _) _).setCell (Nat.le_refl _) _⟩
      case measure => simp [intOf]; omega
    · have hkk : k = n := by omega
      subst hkk
      go_wp2
      go_ret
      refine ⟨_, rfl, ?_, hb⟩
      rw [filled_all _ _ _ (by omega) (by omega)] at hown
      exact hown

section
variable {H : Type} {enc : TypeId × Value → H} {P : Program} {w : World} {base : Nat} {spare : Nat → Bool} {held : Bool}

/-- Pairs, flat. -/
def flat2 : List (Int × Int) → List Int
  | [] => []
  | t :: l => t.1 :: t.2 :: flat2 l
theorem flat2_len : ∀ l, (flat2 l).length = 2 * l.length
  | [] => rfl
  | t :: l => by simp [flat2, flat2_len l]; omega
theorem flat2_get : ∀ (l : List (Int × Int)) (j : Nat) (x : Int), (flat2 l)[j]? = some x → ∃ t, l[j / 2]? = some t ∧ x = if j % 2 = 0 then t.1 else t.2
  | [], j, x, h => by simp [flat2] at h
  | t :: l, 0, x, h => by simp [flat2] at h; exact ⟨t, by simp, by simp [h]⟩
  | t :: l, 1, x, h => by simp [flat2] at h; exact ⟨t, by simp, by simp [h]⟩
  | t :: l, j + 2, x, h => by
    have h' : (flat2 l)[j]? = some x := by simpa [flat2] using h
    obtain ⟨u, h1, h2⟩ := flat2_get l j x h'
    refine ⟨u, ?_, ?_⟩
    · have : (j + 2) / 2 = j / 2 + 1 := by omega
      rw [this]; simpa using h1
    · have : (j + 2) % 2 = j % 2 := by omega
      rw [this]; exact h2

theorem open_places {t e ti : TypeId} {f0 f1 : Field} {fuel : Nat} {cs : List Value} {x : DataW H × List MemPlace} (ht : P.underlying t = some (.slice e)) (he : P.underlying e = some (.struct #[f0, f1])) (hc : P.cellsOf e = 2)
    (k0 : f0.type = ti) (k1 : f1.type = ti) (o0 : f0.offset = 0) (o1 : f1.offset = 1) (hi : P.underlying ti = some (.int .i64)) (hci : P.cellsOf ti = 1)
    (h : DataW.trod enc P w base spare held fuel t cs = some x) : ∃ v n ys, cs = [v] ∧ ys.length = 2 * n ∧ Reads2 w v n (ints ys) ∧ n ≤ maxLen := by
  obtain ⟨ao, len, cap, rfl, hm, hel⟩ := open_slice ht h
  rw [hc] at hel
  have each : ∀ i, i < len → ∃ s : Int × Int, ∃ g off, ao = some ⟨g, off, none⟩ ∧ w.cell? ⟨g, off + i * 2, none⟩ = some (.int .i64 s.1) ∧ w.cell? ⟨g, off + i * 2 + 1, none⟩ = some (.int .i64 s.2) := by
    intro i hi'
    obtain ⟨a, cs0, _, _, ea, h0, _⟩ := hel 0 (by omega)
    have hn := head_none (len := len) (by omega) h0
    obtain ⟨a', cs', n, y, ea', h1, h2⟩ := hel i hi'
    rw [ea] at ea'
    obtain rfl := Option.some.inj ea'
    obtain ⟨b, off, spot⟩ := a
    simp only at hn
    subst hn
    rw [addr_add] at h1
    obtain ⟨_, hl, hg⟩ := World.cells?_some h1
    obtain ⟨y0, y1, m, _, _, t0, t1⟩ := trod_struct2 he h2
    rw [k0, o0, hci] at t0
    rw [k1, o1, hci] at t1
    match cs', hl with
    | [c0, c1], _ =>
      simp at t0 t1
      obtain ⟨kk, e0, _, _⟩ := DataW.trod_int hi t0
      obtain ⟨xx, e1, _, _⟩ := DataW.trod_int hi t1
      simp at e0 e1
      subst e0 e1
      have g0 := hg 0 (by omega)
      have g1 := hg 1 (by omega)
      rw [addr_add] at g0 g1
      exact ⟨(kk, xx), b, off, ea, g0, g1⟩
  obtain ⟨ss, hlen, hp⟩ := list_of len each
  refine ⟨_, len, flat2 ss, rfl, by rw [flat2_len, hlen], ⟨ao, cap, rfl, fun j x hx => ?_⟩, by omega⟩
  simp only [ints, List.getElem?_map, Option.map_eq_some_iff] at hx
  obtain ⟨y, hy, rfl⟩ := hx
  obtain ⟨t, h1, h2⟩ := flat2_get ss j y hy
  obtain ⟨g, off, ea, q0, q1⟩ := hp _ _ h1
  refine ⟨g, off, ea, ?_⟩
  by_cases hj : j % 2 = 0
  · rw [if_pos hj] at h2
    have : j / 2 * 2 = j := by omega
    rw [this] at q0
    rw [h2]; exact q0
  · rw [if_neg hj] at h2
    have : off + j / 2 * 2 + 1 = off + j := by omega
    rw [this] at q1
    rw [h2]; exact q1
end

theorem cellsPlace : Try.prog.cellsOf 51 = 2 := by kernel_rfl

/-- A slice of Places that came in. -/
theorem open_places_arg {H : Type} {enc : TypeId × Value → H} {W : World} {base : Nat} {held : Bool} {r : Reach} {b0 : Nat} {v0 : Value} {d : DataW H} {p : List MemPlace}
    (hv : Value.okWide Try.prog W r b0 25 v0) (h : DataW.Trod enc Try.prog W base (fun _ => true) held 25 v0 d p) :
    ∃ n ys, ys.length = 2 * n ∧ Reads2 W v0 n (ints ys) ∧ n ≤ maxLen := by
  obtain ⟨fuel, hf⟩ := h
  obtain ⟨a, n, c, rfl⟩ := okWide_slice Try.underlying25 hv
  obtain ⟨u, m, ys, e0, hl, hr, hm⟩ := open_places (ti := 2) Try.underlying25 Try.underlying51 cellsPlace rfl rfl rfl rfl Try.underlying2 cellsInt hf
  simp [Value.cells] at e0
  subst e0
  exact ⟨m, ys, hl, hr, hm⟩

end Go.Proofs.Ytfbfbfempgaoeaa
