/-
  impl.numbersIn.
-/
import Derived.Test.YtmloeldgeegddaaPut
namespace Go.Proofs.Ytmloeldgeegddaa
open Go.RowKit
set_option linter.unusedVariables false
set_option maxHeartbeats 1000000

/-- The numbers in a set, from i on. -/
def nums : List Bool → Int → List Int
  | [], _ => []
  | b :: bs, i => if b then i :: nums bs (i + 1) else nums bs (i + 1)

theorem nums_snoc : ∀ (bs : List Bool) (b : Bool) (i : Int), nums (bs ++ [b]) i = nums bs i ++ (if b then [i + bs.length] else [])
  | [], b, i => by cases b <;> simp [nums]
  | c :: bs, b, i => by
    have e : i + 1 + (bs.length : Int) = i + ((bs.length : Int) + 1) := by omega
    cases c <;> simp [nums, nums_snoc bs b (i + 1), e]

theorem nums_length : ∀ (bs : List Bool) (i : Int), (nums bs i).length ≤ bs.length
  | [], _ => by simp [nums]
  | b :: bs, i => by
    have := nums_length bs (i + 1)
    cases b <;> simp [nums] <;> omega

theorem numbersIn (bs : List Bool) (v : Value) (w : World) (hl : bs.length ≤ 1000000) (hv : Reads w v (bs.map .bool)) :
    Calls Try.prog 49 #[v] w fun e w' => ∃ u, e = .returned u ∧ w'.ownsRow w.heap.size 2 1 u (nums bs 0).length (ints (nums bs 0)) ∧ Below w.heap.size w w' := by
  obtain ⟨i0, hi, hz0, hz1, hz2⟩ := info_parts infoInt
  obtain ⟨ao, cap, rfl, hc⟩ := hv
  simp only [List.length_map]
  obtain ⟨R, hR⟩ : ∃ R, nums bs 0 = R := ⟨_, rfl⟩
  rw [hR]
  have HR : Hid _ := hR
  clear hR
  go_enter Try.func49, Try.ntmps49
  go_wp2
  go_loopw [3, 8] (fun o i wr => ∃ (k : Nat), k ≤ bs.length ∧ i = .int .i64 k ∧
      wr.ownsRow w.heap.size 2 1 o (nums (bs.take k) 0).length (ints (nums (bs.take k) 0)) ∧ Below w.heap.size w wr) (fun _ i _ => bs.length - (intOf i).toNat)
  case atStart => exact ⟨0, Nat.zero_le _, rfl, ⟨by simp [nums, ints], .inl ⟨rfl, by simp [nums]⟩⟩, Below.refl _ _⟩
  case round =>
    obtain ⟨k, hk, rfl, hown, hb⟩ := hrel
    by_cases hlt : k < bs.length
    · have hlt' : (k : Int) < (bs.length : Int) := by omega
      obtain ⟨g, off, rfl, a0⟩ := hc k (.bool bs[k]) (by simp [hlt])
      have a0 := (hb.cell (World.block_lt_of_cell? w _ a0)).trans a0
      have hsn : nums (bs.take (k + 1)) 0 = nums (bs.take k) 0 ++ (if bs[k] then [(k : Int)] else []) := by
        rw [List.take_succ_eq_append_getElem hlt, nums_snoc, Int.zero_add, List.length_take, Nat.min_eq_left (by omega)]
      have HS : Hid _ := hsn
      have hlen := nums_length (bs.take k) 0
      have hlen2 : (bs.take k).length ≤ k := List.length_take_le _ _
      clear hc hsn
      generalize bs[k] = b at *
      generalize nums (bs.take k) 0 = xs at *
      cases b
      · have HP : Hid (nums (bs.take (k + 1)) 0 = xs) := HS.out.trans (by simp)
        go_wp2
        go_roundw
        case rel => exact ⟨k + 1, by omega, by go_num, by rw [HP.out]; exact hown, hb⟩
        case measure => simp [intOf]; omega
      · have HP : Hid (nums (bs.take (k + 1)) 0 = xs ++ [(k : Int)]) := HS.out
        have B1 : Hid (Below w.heap.size w (wr.alloc (.cells #[.int .i64 (k : Int)] 2))) := hb.alloc hb.size _
        have sz := hb.size
        have HSZ : Hid (w.heap.size ≤ (wr.alloc (.cells #[.int .i64 (k : Int)] 2)).heap.size) := by
          show w.heap.size ≤ (wr.alloc (.cells #[.int .i64 (k : Int)] 2)).heap.size
          simp; omega
        clear HS
        go_wp2_with (first
          | (at_builtin; refine wpList_append_own _ rfl (.tmp 14) (.tmp 16) 30 rfl w.heap.size 2 i0 (.int .i64 0) 1 8 Try.underlying30 hi hz0 hz1 hz2 rfl (by decide) _ _ _ rfl (hown.alloc _) ⟨wr.heap.size, 0, none⟩ 1 _ [.int .i64 (k : Int)] rfl rfl (cell_one wr k) (ints_oneCell [(k : Int)]) (by unfold maxLen; omega) (by omega) HSZ.out ?_; intro v2 w2 own2 grow2 _; have L2 := below_app B1.out grow2 (fun q hq => (hown.lt q hq).1))
          | go_in)
        have own3 : Hid (w2.ownsRow w.heap.size 2 1 v2 (xs ++ [(k : Int)]).length (ints (xs ++ [(k : Int)]))) := by
          show w2.ownsRow w.heap.size 2 1 v2 (xs ++ [(k : Int)]).length (ints (xs ++ [(k : Int)]))
          simpa [ints] using own2
        go_roundw
        case rel => exact ⟨k + 1, by omega, by go_num, by rw [HP.out]; exact own3.out, L2⟩
        case measure => simp [intOf]; omega
    · have hkk : k = bs.length := by omega
      subst hkk
      rw [List.take_length, HR.out] at hown
      go_wp2
      go_ret
      exact ⟨_, rfl, hown, hb⟩

end Go.Proofs.Ytmloeldgeegddaa
