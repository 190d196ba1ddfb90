/-
  spec.l6Draw, l6DrawSet, DrawCompose, DrawWithin, DrawImage: relations that are drawn.
-/
import Derived.Test.YtnkalhdhmmdofaaRelTop
import Derived.Test.YtnkalhdhmmdofaaDrawKit
namespace Go.Proofs.Ytnkalhdhmmdofaa
open Go.RowKit
set_option linter.unusedVariables false
set_option maxHeartbeats 2000000

/-- The slice v holds xs, in blocks from base on. -/
def ReadsFrom (w : World) (base : Nat) (v : Value) (xs : List Value) : Prop :=
  ∃ ao cap, v = .slice ao xs.length cap ∧ ∀ j x, xs[j]? = some x → ∃ g off, ao = some ⟨g, off, none⟩ ∧ base ≤ g ∧ w.cell? ⟨g, off + j, none⟩ = some x

theorem ReadsFrom.reads {w : World} {base : Nat} {v : Value} {xs : List Value} (h : ReadsFrom w base v xs) : Reads w v xs := by
  obtain ⟨ao, cap, rfl, hc⟩ := h
  exact ⟨ao, cap, rfl, fun j x hx => by obtain ⟨g, off, h1, _, h3⟩ := hc j x hx; exact ⟨g, off, h1, h3⟩⟩

theorem ReadsFrom.grown {w w' : World} {base : Nat} {v : Value} {xs : List Value} (h : ReadsFrom w base v xs) {g : Nat} (hg : w.grownBy w' (some g)) (hlt : g < base) : ReadsFrom w' base v xs := by
  obtain ⟨ao, cap, rfl, hc⟩ := h
  refine ⟨ao, cap, rfl, fun j x hx => ?_⟩
  obtain ⟨b, off, h1, h2, h3⟩ := hc j x hx
  exact ⟨b, off, h1, h2, hg.cell h3 (by simp; omega)⟩

theorem ReadsFrom.below {w w' : World} {base : Nat} {v : Value} {xs : List Value} (h : ReadsFrom w base v xs) (hb : Below w.heap.size w w') : ReadsFrom w' base v xs := by
  obtain ⟨ao, cap, rfl, hc⟩ := h
  refine ⟨ao, cap, rfl, fun j x hx => ?_⟩
  obtain ⟨b, off, h1, h2, h3⟩ := hc j x hx
  exact ⟨b, off, h1, h2, (hb.cell (World.block_lt_of_cell? w _ h3)).trans h3⟩

theorem ReadsFrom.mono {w : World} {base base' : Nat} {v : Value} {xs : List Value} (h : ReadsFrom w base v xs) (hb : base' ≤ base) : ReadsFrom w base' v xs := by
  obtain ⟨ao, cap, rfl, hc⟩ := h
  exact ⟨ao, cap, rfl, fun j x hx => by obtain ⟨g, off, h1, h2, h3⟩ := hc j x hx; exact ⟨g, off, h1, by omega, h3⟩⟩

theorem readsFrom_own {w : World} {base : Nat} {e : TypeId} {v : Value} {n : Nat} {xs : List Value} (h : w.ownsRow base e 1 v n xs) : ReadsFrom w base v xs := by
  obtain ⟨ao, cap, rfl, hc⟩ := reads_own h
  refine ⟨ao, cap, rfl, fun j x hx => ?_⟩
  obtain ⟨g, off, rfl, h3⟩ := hc j x hx
  exact ⟨g, off, rfl, (h.lt g rfl).1, h3⟩

/-- What grows a row of its own has grown by the cursor alone. -/
theorem grownRow {a w w' : World} {row row' : Option Nat} (h : a.grownBy w row) (hg : w.grownBy w' row') (hr : ∀ k, row' = some k → a.heap.size ≤ k) : a.grownBy w' row :=
  ⟨hg.os.trans h.os, hg.tape.trans h.tape, hg.output.trans h.output, Nat.le_trans h.size hg.size, fun i hi hne => (hg.block i (Nat.lt_of_lt_of_le hi h.size) (fun e => by have := hr i e.symm; omega)).trans (h.block i hi hne)⟩

theorem lawPick (bs : List Int) (v : Value) (seed n : Int) (w : World) (hl : bs.length ≤ 1048576) (hb : ∀ x ∈ bs, 0 ≤ x ∧ x ≤ 255) (hv : Reads w v (bs.map (Value.int .u8))) (h0 : 0 ≤ seed) (h1 : seed ≤ 1000) (hn : 0 < n) :
    Calls Try.prog 13 #[v, .int .i64 seed, .int .i64 n] w fun e w' => ∃ x : Int, e = .returned (.int .i64 x) ∧ 0 ≤ x ∧ x < n ∧ Below w.heap.size w w' := by
  obtain ⟨ao, cap, rfl, hc⟩ := hv
  simp only [List.length_map]
  have hn0 : (n == 0) = false := by simp; omega
  go_enter Try.func13, Try.ntmps13
  go_wp2
  go_loopw [7, 8] (fun q i wr => ∃ (j : Nat) (kk : Int), j ≤ bs.length ∧ i = .int .i64 j ∧ q = .int .i64 kk ∧ 0 ≤ kk ∧ kk ≤ 9000000 ∧ w = wr) (fun _ i _ => bs.length - (intOf i).toNat)
  case atStart => exact ⟨0, _, Nat.zero_le _, rfl, rfl, by omega, by omega, rfl⟩
  case round =>
    obtain ⟨j, kk, hj, rfl, rfl, hk0, hk1, rfl⟩ := hrel
    by_cases hlt : j < bs.length
    · obtain ⟨g, off, rfl, hg⟩ := hc j (.int .u8 bs[j]) (by simp [hlt])
      obtain ⟨p0, p1⟩ := hb bs[j] (List.getElem_mem hlt)
      have hlt' : (j : Int) < (bs.length : Int) := by omega
      clear hc
      generalize bs[j] = x at *
      have hr := rem_range (kk * 167 + x + seed) 1000003 (by omega) (by omega)
      go_wp2
      go_roundw
      case rel => exact ⟨j + 1, _, by omega, by go_num, rfl, hr.1, by omega, trivial⟩
      case measure => simp [intOf]; omega
    · have hr := rem_range kk n hk0 hn
      go_wp2
      go_ret
      exact ⟨_, rfl, hr.1, hr.2, Below.refl _ _⟩


end Go.Proofs.Ytnkalhdhmmdofaa
