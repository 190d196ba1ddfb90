/-
  Chapter 6, the program's side: relation's methods; Image, Compose, Join, Within, Unit.
-/
import Derived.Test.YtmloeldgeegddaaRelA
namespace Go.Proofs.Ytmloeldgeegddaa
open Go.RowKit
set_option linter.unusedVariables false
set_option maxHeartbeats 1000000

theorem relImage (rs : List Int) (s : Int) (w : World) (hr : Smalls rs) (hs : Small s) :
    Calls Try.prog 73 #[relV rs, .int .i64 s] w fun e w' => e = .returned (.int .i64 (img rs s)) ∧ Below w.heap.size w w' := by
  have h7 := hr.1
  obtain ⟨cs, hcs⟩ : ∃ cs, ints rs = cs := ⟨_, rfl⟩
  unfold relV
  rw [hcs]
  go_enter Try.func73, Try.ntmps73
  subst hcs
  have HR := rangeR_new w (ints rs) 95
  go_wp2_with (refine wpList_loadRel rfl (.tmp 2) rfl w.heap.size 0 rs rfl h7 HR ?_)
  have B0 : Below w.heap.size w (w.alloc (.cells (ints rs).toArray 95)) := by go_grown
  go_loopw [5, 9] (fun n i wr => ∃ k : Nat, k ≤ 7 ∧ i = .int .i64 k ∧ n = .int .i64 (imgK rs s k) ∧ Below w.heap.size w wr) (fun _ i _ => 7 - (intOf i).toNat)
  case atStart => exact ⟨0, by omega, rfl, rfl, B0⟩
  case round =>
    obtain ⟨k, hk, rfl, rfl, hb⟩ := hrel
    by_cases hlt : k < 7
    · have hlt' : (k : Int) < 7 := by omega
      have hbt := bit_and k hs
      have HI : Hid (imgK rs s (k + 1) = if bit s k = true then lor (imgK rs s k) (rs.getD k 0) else imgK rs s k) := by exact rfl
      clear HR B0
      obtain ⟨y, hy⟩ : ∃ y, rs.getD k 0 = y := ⟨_, rfl⟩
      rw [hy] at HI
      have HY : Hid _ := hy
      clear hy
      generalize imgK rs s k = z at *
      by_cases hbit : bit s k = true
      · rw [if_pos hbit] at hbt
        have HI2 := HI.out
        rw [if_pos hbit] at HI2
        have HI3 : Hid _ := HI2
        clear HI HI2
        go_wp2_with (refine wpList_indexRel rfl (.tmp 8) (.tmp 9) rfl rs k rfl rfl h7 hlt y HY.out ?_)
        go_roundw
        case rel => exact ⟨k + 1, by omega, by go_num, by rw [HI3.out]; rfl, hb⟩
        case measure => simp [intOf]; omega
      · rw [if_neg hbit] at hbt
        have HI2 := HI.out
        rw [if_neg hbit] at HI2
        have HI3 : Hid _ := HI2
        clear HI HI2
        go_wp2_with (refine wpList_indexRel rfl (.tmp 8) (.tmp 9) rfl rs k rfl rfl h7 hlt y HY.out ?_)
        go_roundw
        case rel => exact ⟨k + 1, by omega, by go_num, by rw [HI3.out], hb⟩
        case measure => simp [intOf]; omega
    · have hkk : k = 7 := by omega
      subst hkk
      go_wp2
      go_ret
      exact ⟨rfl, hb⟩

theorem heap_setCells7 (b : Nat) (t : TypeId) : ∀ (vs : List Value) (o : Nat) (w : World) (C : Array Value), w.heap[b]? = some (.cells C t (0, 0)) → ∃ C' : Array Value, (w.setCells b o vs).heap[b]? = some (.cells C' t (0, 0)) ∧ C'.size = C.size
  | [], o, w, C, h => ⟨C, h, rfl⟩
  | v :: r, o, w, C, h => by
    rw [World.setCells]
    obtain ⟨C', h1, h2⟩ := heap_setCells7 b t r (o + 1) _ _ (heap_setCell_same w b o C t v h)
    exact ⟨C', h1, by simpa using h2⟩

theorem RelAt.store {w : World} {B : Nat} {xs zs : List Int} (h : RelAt w B xs) (hl : zs.length = xs.length) : RelAt (w.setCells B 0 (ints zs)) B zs := by
  obtain ⟨C, hC, hs⟩ := heap_setCells7 B 95 (ints zs) 0 w _ h
  have hr := World.rangeAt_setCells_same w B 0 (ints zs) (by rw [ints_length, hl]; exact h.there)
  rw [RelAt, hC]
  congr 2
  refine Array.ext' ?_
  have hs' : C.size = xs.length := by rw [hs, List.size_toArray, ints_length]
  refine List.ext_getElem (by rw [Array.length_toList, hs', List.toList_toArray, ints_length, hl]) (fun j h1 h2 => ?_)
  have h3 := hr j (ints zs)[j] (by simp)
  rw [Nat.zero_add, cell_of_row _ B j C _ (0, 0) hC] at h3
  have h4 : C[j]? = some C[j] := Array.getElem?_eq_getElem (by simpa using h1)
  rw [h4] at h3
  simpa using h3

theorem zeros7 : (#[.int .i64 0, .int .i64 0, .int .i64 0, .int .i64 0, .int .i64 0, .int .i64 0, .int .i64 0] : Array Value) = (ints (List.replicate 7 0)).toArray := rfl

theorem grown_setCell7 (w : World) (b o : Nat) (v : Value) : w.grownBy (w.setCell ⟨b, o, none⟩ v) (some b) :=
  ⟨rfl, rfl, rfl, by simp [World.setCell], fun k _ hk => Below.heap_setCell w ⟨b, o, none⟩ v k (fun e => hk (by rw [e]))⟩

theorem grown_setCells7 (b : Nat) : ∀ (vs : List Value) (o : Nat) (w : World), w.grownBy (w.setCells b o vs) (some b)
  | [], _, w => World.grownBy.refl _ _
  | v :: r, o, w => by
    rw [World.setCells]
    exact grown_trans (grown_setCell7 w b o v) (grown_setCells7 b r (o + 1) _)

theorem reads_range {w : World} {v : Value} {xs : List Int} (h : Reads w v (ints xs)) (h7 : xs.length = 7) : ∃ g off cap, v = .slice (some ⟨g, off, none⟩) 7 cap ∧ w.rangeAt g off (ints xs) := by
  obtain ⟨ao, cap, rfl, hc⟩ := h
  obtain ⟨g, off, rfl, _⟩ := hc 0 (.int .i64 (xs.getD 0 0)) (by simp [ints, List.getD, h7])
  refine ⟨g, off, cap, by rw [ints_length, h7], fun j x hx => ?_⟩
  obtain ⟨g', off', e, h⟩ := hc j x hx
  simp at e
  obtain ⟨rfl, rfl⟩ := e
  exact h

theorem range_below {w w' : World} {g off : Nat} {cs : List Value} (h : w.rangeAt g off cs) (hb : Below w.heap.size w w') : w'.rangeAt g off cs := fun j x hx => by
  have := h j x hx
  exact (hb.cell (World.block_lt_of_cell? w _ this)).trans this

end Go.Proofs.Ytmloeldgeegddaa
