/-
  Chapter 6, the specification's side: l6Image, Image, l6Compose, l6Join, Compose, Join, Within, Unit.
-/
import Derived.Test.YtmloeldgeegddaaRelM
import Derived.Deep.AppendLies
import Derived.Deep.RegionHeld3
namespace Go.Proofs.Ytmloeldgeegddaa
open Go.RowKit
set_option linter.unusedVariables false
set_option maxHeartbeats 1000000

theorem l6Image (rs : List Int) (s : Int) (v : Value) (w : World) (hr : Smalls rs) (hs : Small s) (hv : Reads w v (ints rs)) :
    Calls Try.prog 68 #[v, .int .i64 s] w fun e w' => e = .returned (.int .i64 (img rs s)) ∧ Below w.heap.size w w' := by
  obtain ⟨ao, cap, rfl, hc⟩ := hv
  have h7 := hr.1
  simp only [ints_length, h7]
  go_enter Try.func68, Try.ntmps68
  go_wp2
  go_loopw [5, 6] (fun n i wr => ∃ k : Nat, k ≤ 7 ∧ i = .int .i64 k ∧ n = .int .i64 (imgK rs s k) ∧ w = wr) (fun _ i _ => 7 - (intOf i).toNat)
  case atStart => exact ⟨0, by omega, rfl, rfl, rfl⟩
  case round =>
    obtain ⟨k, hk, rfl, rfl, rfl⟩ := hrel
    by_cases hlt : k < 7
    · have hlt' : (k : Int) < 7 := by omega
      obtain ⟨g, off, rfl, hg⟩ := hc k (.int .i64 (rs.getD k 0)) (by simp [ints, List.getD, h7, hlt])
      have hb := bit_tmod k hs
      have HI : Hid (imgK rs s (k + 1) = if bit s k = true then lor (imgK rs s k) (rs.getD k 0) else imgK rs s k) := by exact rfl
      clear hc
      generalize rs.getD k 0 = y at *
      generalize imgK rs s k = z at *
      by_cases hbit : bit s k = true
      · rw [if_pos hbit] at hb
        have HI2 := HI.out
        rw [if_pos hbit] at HI2
        have HI3 : Hid _ := HI2
        clear HI HI2
        go_wp2
        go_roundw
        case rel => exact ⟨k + 1, by omega, by go_num, by rw [HI3.out]; rfl, trivial⟩
        case measure => simp [intOf]; omega
      · rw [if_neg hbit] at hb
        have HI2 := HI.out
        rw [if_neg hbit] at HI2
        have HI3 : Hid _ := HI2
        clear HI HI2
        go_wp2
        go_roundw
        case rel => exact ⟨k + 1, by omega, by go_num, by rw [HI3.out], trivial⟩
        case measure => simp [intOf]; omega
    · have hkk : k = 7 := by omega
      subst hkk
      go_wp2
      go_ret
      exact ⟨rfl, Below.refl _ _⟩


theorem comp_take {xs ys : List Int} {k : Nat} (h : k < xs.length) : (comp xs ys).take (k + 1) = (comp xs ys).take k ++ [img ys (xs.getD k 0)] := by
  rw [List.take_add_one]
  simp [comp, List.getD, h]

theorem joi_take {xs ys : List Int} {k : Nat} (h : k < xs.length) (h' : k < ys.length) : (joi xs ys).take (k + 1) = (joi xs ys).take k ++ [lor (xs.getD k 0) (ys.getD k 0)] := by
  rw [List.take_add_one]
  simp [joi, List.getD, h, h', List.getElem?_zipWith]

theorem ints_append (xs ys : List Int) : ints (xs ++ ys) = ints xs ++ ints ys := by simp [ints]

theorem getD_int {w : World} {ao : Option Addr} {xs : List Int} (hc : ∀ (j : Nat) (x : Value), (ints xs)[j]? = some x → ∃ g off, ao = some ⟨g, off, none⟩ ∧ w.cell? ⟨g, off + j, none⟩ = some x) {k : Nat} (h : k < xs.length) :
    ∃ g off, ao = some ⟨g, off, none⟩ ∧ w.cell? ⟨g, off + k, none⟩ = some (.int .i64 (xs.getD k 0)) := hc k _ (by simp [ints, List.getD, h])





theorem list_ext_take {xs ys : List Int} {k : Nat} (hk : k < xs.length) (hl : xs.length = ys.length) (h : xs.take k = ys.take k) (hx : xs.getD k 0 = ys.getD k 0) : xs.take (k + 1) = ys.take (k + 1) := by
  have hk' : k < ys.length := by omega
  rw [List.take_add_one, List.take_add_one, h, List.getElem?_eq_getElem hk, List.getElem?_eq_getElem hk']
  simp [List.getD, hk, hk'] at hx
  rw [hx]

theorem list_ne_get {xs ys : List Int} {k : Nat} (hx : ¬ xs.getD k 0 = ys.getD k 0) : ¬ xs = ys := fun h => hx (by rw [h])



theorem specUnit (w : World) : Calls Try.prog 103 #[] w fun e w' => ∃ a, e = .returned a ∧ w'.ownsRow w.heap.size 2 1 a unitL.length (ints unitL) ∧ Below w.heap.size w w' := by
  go_enter Try.func103, Try.ntmps103
  go_wp2
  go_ret
  refine ⟨_, rfl, ?_, by go_grown⟩
  exact World.ownsRow_lit (base := w.heap.size) (e := 2) (size := 1) w #[.int .i64 1, .int .i64 2, .int .i64 4, .int .i64 8, .int .i64 16, .int .i64 32, .int .i64 64] 7 (Nat.le_refl _) (by decide) (by simp)

end Go.Proofs.Ytmloeldgeegddaa
