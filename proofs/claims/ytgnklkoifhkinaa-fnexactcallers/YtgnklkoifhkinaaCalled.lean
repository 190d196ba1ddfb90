/-
  impl.numbersIn, impl.calledBy; spec.Calls, impl.Calls.
-/
import Derived.Test.YtgnklkoifhkinaaCallsFn
namespace Go.Proofs.Ytgnklkoifhkinaa
open Go.RowKit
set_option linter.unusedVariables false
set_option maxHeartbeats 1000000

/-- The numbers in a set, from i on. -/
def nums : List Bool → Int → List Int
  | [], _ => []
  | b :: bs, i => if b then i :: nums bs (i + 1) else nums bs (i + 1)

theorem nums_snoc : ∀ (bs : List Bool) (b : Bool) (i : Int), nums (bs ++ [b]) i = nums bs i ++ (if b then [i + bs.length] else [])
  | [], b, i => by cases b <;> simp [nums]
  | c :: bs, b, i => by
    have e : i + 1 + (bs.length : Int) = i + ((bs.length : Int) + 1) := by omega
    cases c <;> simp [nums, nums_snoc bs b (i + 1), e]

theorem nums_length : ∀ (bs : List Bool) (i : Int), (nums bs i).length ≤ bs.length
  | [], _ => by simp [nums]
  | b :: bs, i => by
    have := nums_length bs (i + 1)
    cases b <;> simp [nums] <;> omega

theorem numbersIn (bs : List Bool) (v : Value) (w : World) (hl : bs.length ≤ 1000000) (hv : Reads w v (bs.map .bool)) :
    Calls Try.prog 45 #[v] w fun e w' => ∃ u, e = .returned u ∧ w'.ownsRow w.heap.size 2 1 u (nums bs 0).length (ints (nums bs 0)) ∧ Below w.heap.size w w' := by
  obtain ⟨i0, hi, hz0, hz1, hz2⟩ := info_parts infoInt
  obtain ⟨ao, cap, rfl, hc⟩ := hv
  simp only [List.length_map]
  obtain ⟨R, hR⟩ : ∃ R, nums bs 0 = R := ⟨_, rfl⟩
  rw [hR]
  have HR : Hid _ := hR
  clear hR
  go_enter Try.func45, Try.ntmps45
  go_wp2
  go_loopw [3, 8] (fun o i wr => ∃ (k : Nat), k ≤ bs.length ∧ i = .int .i64 k ∧
      wr.ownsRow w.heap.size 2 1 o (nums (bs.take k) 0).length (ints (nums (bs.take k) 0)) ∧ Below w.heap.size w wr) (fun _ i _ => bs.length - (intOf i).toNat)
  case atStart => exact ⟨0, Nat.zero_le _, rfl, ⟨by simp [nums, ints], .inl ⟨rfl, by simp [nums]⟩⟩, Below.refl _ _⟩
  case round =>
    obtain ⟨k, hk, rfl, hown, hb⟩ := hrel
    by_cases hlt : k < bs.length
    · have hlt' : (k : Int) < (bs.length : Int) := by omega
      obtain ⟨g, off, rfl, a0⟩ := hc k (.bool bs[k]) (by simp [hlt])
      have a0 := (hb.cell (World.block_lt_of_cell? w _ a0)).trans a0
      have hsn : nums (bs.take (k + 1)) 0 = nums (bs.take k) 0 ++ (if bs[k] then [(k : Int)] else []) := by
        rw [List.take_succ_eq_append_getElem hlt, nums_snoc, Int.zero_add, List.length_take, Nat.min_eq_left (by omega)]
      have HS : Hid _ := hsn
      have hlen := nums_length (bs.take k) 0
      have hlen2 : (bs.take k).length ≤ k := List.length_take_le _ _
      clear hc hsn
      generalize bs[k] = b at *
      generalize nums (bs.take k) 0 = xs at *
      cases b
      · have HP : Hid (nums (bs.take (k + 1)) 0 = xs) := HS.out.trans (by simp)
        go_wp2
        go_roundw
        case rel => exact ⟨k + 1, by omega, by go_num, by rw [HP.out]; exact hown, hb⟩
        case measure => simp [intOf]; omega
      · have HP : Hid (nums (bs.take (k + 1)) 0 = xs ++ [(k : Int)]) := HS.out
        have B1 : Hid (Below w.heap.size w (wr.alloc (.cells #[.int .i64 (k : Int)] 2))) := hb.alloc hb.size _
        have sz := hb.size
        have HSZ : Hid (w.heap.size ≤ (wr.alloc (.cells #[.int .i64 (k : Int)] 2)).heap.size) := by
          show w.heap.size ≤ (wr.alloc (.cells #[.int .i64 (k : Int)] 2)).heap.size
          simp; omega
        clear HS
        go_wp2_with (first
          | (at_builtin; refine wpList_append_own _ rfl (.tmp 14) (.tmp 16) 51 rfl w.heap.size 2 i0 (.int .i64 0) 1 8 Try.underlying51 hi hz0 hz1 hz2 rfl (by decide) _ _ _ rfl (hown.alloc _) ⟨wr.heap.size, 0, none⟩ 1 _ [.int .i64 (k : Int)] rfl rfl (cell_one wr k) (ints_oneCell [(k : Int)]) (by unfold maxLen; omega) (by omega) HSZ.out ?_; intro v2 w2 own2 grow2 _; have L2 := below_app B1.out grow2 (fun q hq => (hown.lt q hq).1))
          | go_in)
        have own3 : Hid (w2.ownsRow w.heap.size 2 1 v2 (xs ++ [(k : Int)]).length (ints (xs ++ [(k : Int)]))) := by
          show w2.ownsRow w.heap.size 2 1 v2 (xs ++ [(k : Int)]).length (ints (xs ++ [(k : Int)]))
          simpa [ints] using own2
        go_roundw
        case rel => exact ⟨k + 1, by omega, by go_num, by rw [HP.out]; exact own3.out, L2⟩
        case measure => simp [intOf]; omega
    · have hkk : k = bs.length := by omega
      subst hkk
      rw [List.take_length, HR.out] at hown
      go_wp2
      go_ret
      exact ⟨_, rfl, hown, hb⟩

/-- Does the procedure call number i? -/
def called (p : List Stm) (i : Int) : Bool := p.any (fun s => decide (s.k = 8) && decide (s.y = i))

theorem called_snoc (p : List Stm) (k : Nat) (h : k < p.length) (i : Int) : called (p.take (k + 1)) i = (called (p.take k) i || (decide (p[k].k = 8) && decide (p[k].y = i))) := by
  rw [called, List.take_succ_eq_append_getElem h, List.any_append]
  simp [called]

theorem four_cells {w : World} {b : Nat} {x0 x1 x2 x3 : Value} {T : TypeId} (h : w.heap[b]? = some (.cells #[x0, x1, x2, x3] T (0, 0))) :
    w.cell? ⟨b, 0, none⟩ = some x0 ∧ w.cell? ⟨b, 1, none⟩ = some x1 ∧ w.cell? ⟨b, 2, none⟩ = some x2 ∧ w.cell? ⟨b, 3, none⟩ = some x3 ∧
      w.frozen? ⟨b, 0, none⟩ = false ∧ w.frozen? ⟨b, 1, none⟩ = false ∧ w.frozen? ⟨b, 2, none⟩ = false ∧ w.frozen? ⟨b, 3, none⟩ = false := by
  refine ⟨?_, ?_, ?_, ?_, ?_, ?_, ?_, ?_⟩ <;> simp [World.cell?, World.frozen?, h]

theorem callsOf_eq (p : List Stm) (hp : ∀ s ∈ p, stmtOk s.k s.x s.y = true) : callsOf p = nums [called p 0, called p 1, called p 2, called p 3] 0 := by
  have hput : ∀ (y : Int) (b0 b1 b2 b3 : Bool), 0 ≤ y → y ≤ 3 → ins y (nums [b0, b1, b2, b3] 0) = nums [b0 || decide (y = 0), b1 || decide (y = 1), b2 || decide (y = 2), b3 || decide (y = 3)] 0 := by
    intro y b0 b1 b2 b3 h0 h3
    have : y = 0 ∨ y = 1 ∨ y = 2 ∨ y = 3 := by omega
    rcases this with rfl | rfl | rfl | rfl <;> cases b0 <;> cases b1 <;> cases b2 <;> cases b3 <;> rfl
  have key : ∀ (p : List Stm), (∀ s ∈ p, stmtOk s.k s.x s.y = true) → ∀ (b0 b1 b2 b3 : Bool),
      p.foldl putCall (nums [b0, b1, b2, b3] 0) = nums [b0 || called p 0, b1 || called p 1, b2 || called p 2, b3 || called p 3] 0 := by
    intro p
    induction p with
    | nil => intro _ b0 b1 b2 b3; simp [called]
    | cons s p ih =>
      intro hs b0 b1 b2 b3
      have h1 := hs s (by simp)
      have ih := ih (fun t ht => hs t (by simp [ht]))
      obtain ⟨k, x, y⟩ := s
      simp only at h1
      by_cases h8 : k = 8
      · subst h8
        obtain ⟨y0, y3⟩ := stmtOk_call h1
        rw [List.foldl_cons, putCall, if_pos rfl, hput y b0 b1 b2 b3 y0 y3, ih]
        simp [called, Bool.or_assoc]
      · rw [List.foldl_cons, putCall, if_neg h8, ih]
        simp [called, h8]
  have := key p hp false false false false
  simpa [callsOf, nums] using this

end Go.Proofs.Ytgnklkoifhkinaa
