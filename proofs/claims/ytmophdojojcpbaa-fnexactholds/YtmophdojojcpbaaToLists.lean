/-
  Slices of slices of numbers that came in: szInt64SS, toInt64SS, opened; szProgram with its upper bound.
-/
import Derived.Test.YtmophdojojcpbaaToInts
import Derived.Test.YtmophdojojcpbaaSzProg
import Derived.Test.YtmophdojojcpbaaListsLaw
namespace Go.Proofs.Ytmophdojojcpbaa
set_option maxRecDepth 100000
open Go.ChangeShapes Go.WideShapes Go.ChangeAt Go.RowKit
set_option linter.unusedVariables false
set_option maxHeartbeats 4000000

theorem szInt64S (n : Nat) (ao : Option Addr) (cap : Nat) (r : Int) (w : World) (hl : n ≤ maxLen) (h0 : 0 ≤ r) (h1 : r ≤ 1048576) :
    Calls Try.prog 65 #[.slice ao n cap, .int .i64 r] w fun e w' => e = .returned (.int .i64 (if r < (n : Int) then -1 else r - n)) ∧ Below w.heap.size w w' := by
  unfold maxLen at hl
  by_cases h : r < (n : Int)
  · rw [if_pos h]
    have hx : (decide (r - (n : Int) < 0)) = true := by simp; omega
    go_enter Try.func65, Try.ntmps65
    go_wp2
    go_ret
    exact ⟨rfl, Below.refl _ _⟩
  · rw [if_neg h]
    have hx : (decide (r - (n : Int) < 0)) = false := by simp; omega
    go_enter Try.func65, Try.ntmps65
    go_wp2
    go_ret
    exact ⟨rfl, Below.refl _ _⟩

theorem szInt64SS (X : List (List Int)) (v : Value) (r0 : Int) (w : World) (h00 : 0 ≤ r0) (h01 : r0 ≤ 1048576) (hl : X.length ≤ maxLen) (hp : ∀ p ∈ X, p.length ≤ maxLen) (hv : ReadsSS w v X) :
    Calls Try.prog 27 #[v, .int .i64 r0] w fun e w' => ∃ r : Int, e = .returned (.int .i64 r) ∧ (0 ≤ r → X.length ≤ 1048576 ∧ ∀ p ∈ X, p.length ≤ 1048576) ∧ Below w.heap.size w w' := by
  have hl0 := hl
  unfold maxLen at hl
  obtain ⟨ao, cap, rfl, hc⟩ := hv
  by_cases h : r0 < (X.length : Int)
  · have hx : (decide (r0 - (X.length : Int) < 0)) = true := by simp; omega
    go_enter Try.func27, Try.ntmps27
    go_wp2
    go_ret
    exact ⟨-1, rfl, fun h => by omega, Below.refl _ _⟩
  have hx : (decide (r0 - (X.length : Int) < 0)) = false := by simp; omega
  go_enter Try.func27, Try.ntmps27
  go_wp2
  go_loopw [1, 5] (fun l i wr => ∃ (r : Int) (k : Nat), 0 ≤ r ∧ r ≤ 1048576 ∧ k ≤ X.length ∧ l = .int .i64 r ∧ i = .int .i64 k ∧ Below w.heap.size w wr ∧ ∀ p ∈ X.take k, p.length ≤ 1048576) (fun _ i _ => X.length - (intOf i).toNat)
  case atStart => exact ⟨r0 - X.length, 0, by omega, by omega, Nat.zero_le _, rfl, rfl, Below.refl _ _, by simp⟩
  case round =>
    obtain ⟨r, k, hr0, hr1, hk, rfl, rfl, hb, hall⟩ := hrel
    by_cases hlt : k < X.length
    · obtain ⟨g, off, u0, rfl, p0, q0⟩ := hc k X[k] (by simp [hlt])
      have pl := hp X[k] (List.getElem_mem hlt)
      have p0 := (hb.cell (World.block_lt_of_cell? w _ p0)).trans p0
      have hlt' : (k : Int) < (X.length : Int) := by omega
      obtain ⟨ua, uc, rfl, _⟩ := q0
      rw [ints_length] at p0
      have hz := szInt64S X[k].length ua uc r wr pl hr0 hr1
      have hst : ∀ p ∈ X.take (k + 1), p ∈ X.take k ∨ p = X[k] := by
        intro p hp'
        rw [List.take_succ_eq_append_getElem hlt] at hp'
        rcases List.mem_append.1 hp' with h | h
        · exact .inl h
        · exact .inr (List.mem_singleton.1 h)
      have HA : Hid _ := hall
      have HT : Hid _ := hst
      clear hc hall hst
      generalize X[k] = q at *
      by_cases hq : r < (q.length : Int)
      · rw [if_pos hq] at hz
        go_wp2_with (go_at_call 65; refine hz.mono ?_; rintro e w2 ⟨rfl, b2⟩)
        go_ret
        exact ⟨-1, rfl, fun h => by omega, hb.trans (b2.mono hb.size)⟩
      · rw [if_neg hq] at hz
        have hx2 : (decide (r - (q.length : Int) < 0)) = false := by simp; omega
        go_wp2_with (go_at_call 65; refine hz.mono ?_; rintro e w2 ⟨rfl, b2⟩)
        go_roundw
        case rel =>
          refine ⟨r - q.length, k + 1, by omega, by omega, by omega, rfl, by go_num, hb.trans (b2.mono hb.size), fun p hp' => ?_⟩
          rcases HT.out p hp' with h | rfl
          · exact HA.out p h
          · omega
        case measure => simp [intOf]; omega
    · have hkk : k = X.length := by omega
      subst hkk
      go_wp2
      go_ret
      rw [List.take_length] at hall
      exact ⟨r, rfl, fun _ => ⟨by omega, hall⟩, hb⟩

theorem toInt64SS (X : List (List Int)) (v : Value) (w : World) (hl : X.length ≤ 1048576) (hp : ∀ p ∈ X, p.length ≤ 1048576) (hv : ReadsSS w v X) :
    Calls Try.prog 28 #[v] w fun e w' => ∃ u us, e = .returned u ∧ OwnSS w' w.heap.size u us X ∧ Below w.heap.size w w' := by
  obtain ⟨i0, hi, hz0, hz1, hz2⟩ := info_parts infoSlice
  obtain ⟨ao, cap, rfl, hc⟩ := hv
  go_enter Try.func28, Try.ntmps28
  go_wp2_with (refine wpList_make_full _ rfl (.tmp 6) (.tmp 6) 29 rfl w.heap.size 36 i0 (.slice none 0 0) 1 Try.underlying29 hi hz0 hz1 .i64 .i64 _ _ X.length rfl rfl rfl rfl (by rw [hz2]; omega) (by unfold maxLen; omega) (Nat.le_refl _) ?_; intro w1 own1 grow1)
  have zl : (madeCells (Value.slice none 0 0).cells (X.length * 1)).toList.length = X.length := by simpa using own1.1
  generalize (madeCells (Value.slice none 0 0).cells (X.length * 1)).toList = zs at own1 zl
  have hb1 : Below w.heap.size w w1 := (Below.refl _ _).grown grow1 (Nat.le_refl _) (by simp)
  go_loopw [4] (fun i wr => ∃ (k : Nat) (us : List Value), k ≤ X.length ∧ us.length = k ∧ i = .int .i64 k ∧ wr.ownsRow w.heap.size 36 1 (.slice (some ⟨w.heap.size, 0, none⟩) X.length X.length) X.length (us ++ zs.drop k) ∧ Below w.heap.size w wr ∧
      ∀ (j : Nat) (u : Value) (p : List Int), us[j]? = some u → X[j]? = some p → wr.ownsRow w.heap.size 2 1 u p.length (ints p)) (fun i _ => X.length - (intOf i).toNat)
  case atStart => exact ⟨0, [], Nat.zero_le _, rfl, rfl, by simpa using own1, hb1, fun j u p h => by simp at h⟩
  case round =>
    obtain ⟨k, us, hk, hus, rfl, hown, hb, hin⟩ := hrel
    by_cases hlt : k < X.length
    · have hpk : X[k]? = some X[k] := by simp [hlt]
      obtain ⟨g, off, u0, rfl, p0, r0⟩ := hc k X[k] hpk
      have pl := hp X[k] (List.getElem_mem hlt)
      have p0 := (hb.cell (World.block_lt_of_cell? w _ p0)).trans p0
      have r0 := reads_below r0 hb
      have hlt' : (k : Int) < (X.length : Int) := by omega
      have hset := set_snoc us zs
      have ht := toInt64S X[k] u0 wr pl r0
      clear hc r0
      have HP : Hid _ := hpk
      clear hpk
      generalize X[k] = q at *
      go_wp2_with fail
      go_at_call 66
      refine ht.mono ?_
      rintro e w2 ⟨gu, rfl, ou, b2⟩
      have own2 := own_kept hown b2
      have hb2 := hb.trans (b2.mono hb.size)
      have f0 := own2.frozenAt k
      obtain ⟨y0, c0⟩ := own_cell own2 k (by omega)
      have hst := own2.stored k (.slice (some ⟨gu, 0, none⟩) q.length q.length)
      have hst1 := hst.1
      rw [hset _ k hus (by omega)] at hst1
      have HS : Hid ((w2.setCell ⟨w.heap.size, k, none⟩ (.slice (some ⟨gu, 0, none⟩) q.length q.length)).ownsRow w.heap.size 36 1 (.slice (some ⟨w.heap.size, 0, none⟩) X.length X.length) X.length ((us ++ [.slice (some ⟨gu, 0, none⟩) q.length q.length]) ++ zs.drop (k + 1))) := hst1
      have hin2 : ∀ (j : Nat) (v : Value) (p : List Int), (us ++ [Value.slice (some ⟨gu, 0, none⟩) q.length q.length])[j]? = some v → X[j]? = some p → (w2.setCell ⟨w.heap.size, k, none⟩ (.slice (some ⟨gu, 0, none⟩) q.length q.length)).ownsRow w.heap.size 2 1 v p.length (ints p) := by
        intro j v p h1 h2
        have keep : w2.ownsRow w.heap.size 2 1 v p.length (ints p) → _ := fun ho => own_same (w' := w2.setCell ⟨w.heap.size, k, none⟩ (.slice (some ⟨gu, 0, none⟩) q.length q.length)) ho (fun x hx => hst.2.block x (ho.lt x hx).2 (fun e => row_kind ho own2 (by decide) hx e.symm))
        apply keep
        by_cases hj : j < us.length
        · rw [List.getElem?_append_left hj] at h1
          exact own_kept (hin j v p h1 h2) b2
        · have hj' : j = k := by
            have := (List.getElem?_eq_some_iff.1 h1).1
            simp at this
            omega
          subst hj'
          rw [HP.out] at h2
          simp [← hus] at h1
          obtain rfl := Option.some.inj h2
          subst h1
          exact own_mono ou (by have := hb.size; omega)
      have HI : Hid _ := hin2
      clear hst hst1 hset hin hin2 ht
      go_wp2
      go_roundw
      case rel => exact ⟨k + 1, us ++ [.slice (some ⟨gu, 0, none⟩) q.length q.length], by omega, by simp [hus], by go_num, HS.out, hb2.setCell (Nat.le_refl _) _, HI.out⟩
      case measure => simp [intOf]; omega
    · have hkk : k = X.length := by omega
      go_wp2
      go_ret
      rw [List.drop_of_length_le (by omega), List.append_nil] at hown
      exact ⟨_, us, rfl, ⟨hown, hin⟩, hb⟩

section
variable {H : Type} {enc : TypeId × Value → H} {P : Program} {w : World} {base : Nat} {spare : Nat → Bool} {held : Bool}

theorem open_lists {t e ti : TypeId} {fuel : Nat} {cs : List Value} {x : DataW H × List MemPlace} (ht : P.underlying t = some (.slice e)) (he : P.underlying e = some (.slice ti)) (hce : P.cellsOf e = 1) (hi : P.underlying ti = some (.int .i64)) (hci : P.cellsOf ti = 1)
    (h : DataW.trod enc P w base spare held fuel t cs = some x) : ∃ v X, cs = [v] ∧ ReadsSS w v X ∧ X.length ≤ maxLen ∧ ∀ p ∈ X, p.length ≤ maxLen := by
  obtain ⟨ao, len, cap, rfl, hm, hel⟩ := open_slice ht h
  rw [hce] at hel
  have each : ∀ i, i < len → ∃ p : List Int, (∃ g off u, ao = some ⟨g, off, none⟩ ∧ w.cell? ⟨g, off + i, none⟩ = some u ∧ Reads w u (ints p)) ∧ p.length ≤ maxLen := by
    intro i hi'
    obtain ⟨a, cs0, _, _, ea, h0, _⟩ := hel 0 (by omega)
    have hn := head_none (len := len) (by omega) h0
    obtain ⟨a', cs', n, y, ea', h1, h2⟩ := hel i hi'
    rw [ea] at ea'
    obtain rfl := Option.some.inj ea'
    obtain ⟨b, off, spot⟩ := a
    simp only at hn
    subst hn
    rw [addr_add, Nat.mul_one] at h1
    obtain ⟨_, hl, hg⟩ := World.cells?_some h1
    match cs', hl with
    | [c0], _ =>
      obtain ⟨u, p, e0, hr, hpl⟩ := Go.Proofs.Ytmophdojojcpbaa.open_ints he hi hci h2
      simp at e0
      subst e0
      have g0 := hg 0 (by omega)
      rw [addr_add] at g0
      exact ⟨p, ⟨b, off, _, ea, g0, hr⟩, hpl⟩
  obtain ⟨X, hlen, hp⟩ := list_of len each
  refine ⟨_, X, rfl, ⟨ao, cap, by rw [hlen], fun j p hj => (hp j p hj).1⟩, by omega, fun p hpm => ?_⟩
  obtain ⟨j, hj⟩ := List.getElem?_of_mem hpm
  exact (hp j p hj).2

end

/-- A slice of slices of numbers that came in. -/
theorem open_lists_arg {H : Type} {enc : TypeId × Value → H} {W : World} {base : Nat} {held : Bool} {r : Reach} {b0 : Nat} {v0 : Value} {d : DataW H} {p : List MemPlace}
    (hv : Value.okWide Try.prog W r b0 29 v0) (h : DataW.Trod enc Try.prog W base (fun _ => true) held 29 v0 d p) :
    ∃ X, ReadsSS W v0 X ∧ X.length ≤ maxLen ∧ ∀ p ∈ X, p.length ≤ maxLen := by
  obtain ⟨fuel, hf⟩ := h
  obtain ⟨a, n, c, rfl⟩ := okWide_slice Try.underlying29 hv
  obtain ⟨u, X, e0, hr, hl, hx⟩ := open_lists (e := 36) (ti := 2) Try.underlying29 Try.underlying36 (by kernel_rfl) Try.underlying2 cellsInt hf
  simp [Value.cells] at e0
  subst e0
  exact ⟨X, hr, hl, hx⟩

end Go.Proofs.Ytmophdojojcpbaa
