/-
  spec.l6Draw, l6DrawSet, DrawCompose, DrawWithin, DrawImage: relations that are drawn.
-/
import Derived.Test.YtciccbbgamklbaaG01FlowTop
import Derived.Test.YtciccbbgamklbaaDrawKit
namespace Go.Proofs.Ytciccbbgamklbaa
open Go.RowKit
set_option linter.unusedVariables false
set_option maxRecDepth 20000
set_option maxHeartbeats 2000000

/-- The slice v holds xs, in blocks from base on. -/
def ReadsFrom (w : World) (base : Nat) (v : Value) (xs : List Value) : Prop :=
  ∃ ao cap, v = .slice ao xs.length cap ∧ ∀ j x, xs[j]? = some x → ∃ g off, ao = some ⟨g, off, none⟩ ∧ base ≤ g ∧ w.cell? ⟨g, off + j, none⟩ = some x

theorem ReadsFrom.reads {w : World} {base : Nat} {v : Value} {xs : List Value} (h : ReadsFrom w base v xs) : Reads w v xs := by
  obtain ⟨ao, cap, rfl, hc⟩ := h
  exact ⟨ao, cap, rfl, fun j x hx => by obtain ⟨g, off, h1, _, h3⟩ := hc j x hx; exact ⟨g, off, h1, h3⟩⟩

theorem ReadsFrom.grown {w w' : World} {base : Nat} {v : Value} {xs : List Value} (h : ReadsFrom w base v xs) {g : Nat} (hg : w.grownBy w' (some g)) (hlt : g < base) : ReadsFrom w' base v xs := by
  obtain ⟨ao, cap, rfl, hc⟩ := h
  refine ⟨ao, cap, rfl, fun j x hx => ?_⟩
  obtain ⟨b, off, h1, h2, h3⟩ := hc j x hx
  exact ⟨b, off, h1, h2, hg.cell h3 (by simp; omega)⟩

theorem ReadsFrom.below {w w' : World} {base : Nat} {v : Value} {xs : List Value} (h : ReadsFrom w base v xs) (hb : Below w.heap.size w w') : ReadsFrom w' base v xs := by
  obtain ⟨ao, cap, rfl, hc⟩ := h
  refine ⟨ao, cap, rfl, fun j x hx => ?_⟩
  obtain ⟨b, off, h1, h2, h3⟩ := hc j x hx
  exact ⟨b, off, h1, h2, (hb.cell (World.block_lt_of_cell? w _ h3)).trans h3⟩

theorem ReadsFrom.mono {w : World} {base base' : Nat} {v : Value} {xs : List Value} (h : ReadsFrom w base v xs) (hb : base' ≤ base) : ReadsFrom w base' v xs := by
  obtain ⟨ao, cap, rfl, hc⟩ := h
  exact ⟨ao, cap, rfl, fun j x hx => by obtain ⟨g, off, h1, h2, h3⟩ := hc j x hx; exact ⟨g, off, h1, by omega, h3⟩⟩

theorem readsFrom_own {w : World} {base : Nat} {e : TypeId} {v : Value} {n : Nat} {xs : List Value} (h : w.ownsRow base e 1 v n xs) : ReadsFrom w base v xs := by
  obtain ⟨ao, cap, rfl, hc⟩ := reads_own h
  refine ⟨ao, cap, rfl, fun j x hx => ?_⟩
  obtain ⟨g, off, rfl, h3⟩ := hc j x hx
  exact ⟨g, off, rfl, (h.lt g rfl).1, h3⟩

/-- What grows a row of its own has grown by the cursor alone. -/
theorem grownRow {a w w' : World} {row row' : Option Nat} (h : a.grownBy w row) (hg : w.grownBy w' row') (hr : ∀ k, row' = some k → a.heap.size ≤ k) : a.grownBy w' row :=
  ⟨hg.os.trans h.os, hg.tape.trans h.tape, hg.output.trans h.output, Nat.le_trans h.size hg.size, fun i hi hne => (hg.block i (Nat.lt_of_lt_of_le hi h.size) (fun e => by have := hr i e.symm; omega)).trans (h.block i hi hne)⟩

theorem l6DrawSet (g : Nat) (bs : List Int) (w : World) (hl : bs.length ≤ 1048576) (hc : Cur w g bs) :
    Calls Try.prog 63 #[.pointer (some ⟨g, 0, none⟩)] w fun e w' => ∃ s : Int, e = .returned (.int .i64 s) ∧ Cur w' g bs ∧ w.grownBy w' (some g) := by
  go_enter Try.func63, Try.ntmps63
  go_wp2_with fail
  go_at_call 60
  refine (l1Once g bs 20 (by omega) _ hl hc).mono ?_
  rintro e w1 ⟨b, rfl, hc1, hg1⟩
  cases b with
  | false =>
    go_wp2_with fail
    go_at_call 39
    refine (l1Below g bs 128 (by omega) _ hl hc1).mono ?_
    rintro e w2 ⟨y, rfl, hy0, hy1, _, hc2, hg2⟩
    go_wp2
    go_ret
    exact ⟨y, rfl, hc2, grown_trans hg1 hg2⟩
  | true =>
    have ha := heap_alloc_new w1 (.cells #[.int .i64 (-1), .int .i64 127, .int .i64 128, .int .i64 4611686018427387904] 2)
    have ga := World.grownBy_alloc w1 (.cells #[.int .i64 (-1), .int .i64 127, .int .i64 128, .int .i64 4611686018427387904] 2) (some g)
    go_wp2_with fail
    go_at_call 39
    refine (l1Below g bs 4 (by omega) _ hl (curAlloc hc1 _)).mono ?_
    rintro e w2 ⟨y, rfl, hy0, hy1, _, hc2, hg2⟩
    have hy1 := hy1 (by omega)
    have h3 := blockGrown ha hg2 (curLt hc1)
    obtain ⟨j, rfl⟩ : ∃ j : Nat, y = j := ⟨y.toNat, by omega⟩
    obtain ⟨z, hz⟩ : ∃ z : Int, w2.cell? ⟨w1.heap.size, j, none⟩ = some (.int .i64 z) := by
      rw [cell_of_row w2 _ j _ _ (0, 0) h3]
      have hj : j = 0 ∨ j = 1 ∨ j = 2 ∨ j = 3 := by omega
      rcases hj with rfl | rfl | rfl | rfl <;> exact ⟨_, rfl⟩
    have gr := grown_trans hg1 (grown_trans ga hg2)
    clear h3 ha ga hg1 hg2
    go_wp2
    go_ret
    exact ⟨z, rfl, hc2, gr⟩



theorem lawLike (xs ys : List Int) (v u : Value) (w : World) (hx : xs.length ≤ maxLen) (hy : ys.length ≤ maxLen) (hv : Reads w v (ints xs)) (hu : Reads w u (ints ys)) :
    Calls Try.prog 16 #[v, u] w fun e w' => e = .returned (.bool (decide (xs = ys))) ∧ Below w.heap.size w w' := by
  unfold maxLen at hx hy
  obtain ⟨ao, cap, rfl, hc⟩ := hv
  obtain ⟨bo, cap', rfl, hd⟩ := hu
  simp only [ints_length]
  by_cases hlen : (xs.length : Int) = ys.length
  · have hlen' : xs.length = ys.length := by omega
    rw [← hlen']
    have HL : Hid _ := hlen'
    clear hlen hlen'
    go_enter Try.func16, Try.ntmps16
    go_wp2
    go_loopw [5] (fun i wr => ∃ k : Nat, k ≤ xs.length ∧ i = .int .i64 k ∧ xs.take k = ys.take k ∧ Below w.heap.size w wr) (fun i _ => xs.length - (intOf i).toNat)
    case atStart => exact ⟨0, Nat.zero_le _, rfl, by simp, Below.refl _ _⟩
    case round =>
      obtain ⟨k, hk, rfl, htk, hb⟩ := hrel
      by_cases hlt : k < xs.length
      · obtain ⟨g, off, rfl, hg⟩ := getD_int hc hlt
        obtain ⟨g', off', rfl, hg'⟩ := getD_int hd (k := k) (by have := HL.out; omega)
        have hg := (hb.cell (World.block_lt_of_cell? w _ hg)).trans hg
        have hg' := (hb.cell (World.block_lt_of_cell? w _ hg')).trans hg'
        have hlt' : (k : Int) < (xs.length : Int) := by omega
        have HE : Hid _ := list_ext_take hlt HL.out htk
        have HN : Hid _ := @list_ne_get xs ys k
        clear hc hd htk
        generalize xs.getD k 0 = x at *
        generalize ys.getD k 0 = y at *
        by_cases hxy : x = y
        · subst hxy
          go_wp2
          go_quiet (fail)
          go_wp2
          go_roundw
          case rel => exact ⟨k + 1, by omega, by go_num, HE.out trivial, below_drewN hb _⟩
          case measure => simp [intOf]; omega
        · go_wp2
          go_quiet (fail)
          go_wp2
          go_ret
          exact ⟨by rw [decide_eq_false (HN.out hxy)]; rfl, below_drewN hb _⟩
      · have hkk : k = xs.length := by omega
        subst hkk
        rw [List.take_length, HL.out, List.take_length] at htk
        have HE : Hid _ := htk
        clear htk
        go_wp2
        go_ret
        exact ⟨by rw [decide_eq_true HE.out]; rfl, hb⟩
  · have hne : ¬ xs = ys := fun h => hlen (by rw [h])
    go_enter Try.func16, Try.ntmps16
    go_wp2
    go_ret
    exact ⟨by rw [decide_eq_false hne]; rfl, Below.refl _ _⟩

end Go.Proofs.Ytciccbbgamklbaa
