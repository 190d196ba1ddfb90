/-
  spec.Callers, impl.Callers.
-/
import Derived.Test.YtmloeldgeegddaaG06CallsBoth
namespace Go.Proofs.Ytmloeldgeegddaa
open Go.RowKit
set_option linter.unusedVariables false
set_option maxHeartbeats 1000000

theorem ins_any (n i : Int) : ∀ xs : List Int, (ins n xs).any (fun x => decide (x = i)) = (decide (n = i) || xs.any (fun x => decide (x = i)))
  | [] => by simp [ins]
  | x :: xs => by
    unfold ins
    split
    · rw [List.any_cons, ins_any n i xs, List.any_cons]
      cases decide (x = i) <;> cases decide (n = i) <;> simp
    · split
      · rename_i h
        subst h
        simp
      · simp

theorem callsOf_any (p : List Stm) (i : Int) : (callsOf p).any (fun x => decide (x = i)) = called p i := by
  have key : ∀ (p : List Stm) (acc : List Int), (p.foldl putCall acc).any (fun x => decide (x = i)) = (acc.any (fun x => decide (x = i)) || called p i) := by
    intro p
    induction p with
    | nil => intro acc; simp [called]
    | cons s p ih =>
      intro acc
      rw [List.foldl_cons, ih, putCall]
      by_cases h8 : s.k = 8
      · rw [if_pos h8, ins_any]
        simp only [called, List.any_cons, h8, decide_true, Bool.true_and]
        cases decide (s.y = i) <;> simp
      · rw [if_neg h8]
        simp [called, h8]
  have := key p []
  simpa [callsOf] using this

/-- What both answer. -/
def callersAns (ps : List (List Stm)) (i : Int) : List Int := if hasB ps i then nums (ps.map (fun p => called p i)) 0 else []

theorem callersAns_length (ps : List (List Stm)) (i : Int) : (callersAns ps i).length ≤ 12 := by
  unfold callersAns
  cases hok : hasB ps i
  · simp
  · rw [if_pos rfl]
    obtain ⟨h1, _⟩ := hasB_true hok
    obtain ⟨h4, _⟩ := programOk_len h1
    have := nums_length (ps.map (fun p => called p i)) 0
    simp at this ⊢
    omega

/-- Does procedure j, one of the first k, call number i? -/
def upTo (ps : List (List Stm)) (i : Int) (k j : Nat) : Bool := decide (j < k) && called (ps.getD j []) i

theorem upTo_step (ps : List (List Stm)) (i : Int) (k j : Nat) : upTo ps i (k + 1) j = if j = k then called (ps.getD k []) i else upTo ps i k j := by
  unfold upTo
  by_cases h : j = k
  · subst h; simp
  · rw [if_neg h]
    have : decide (j < k + 1) = decide (j < k) := by simp; omega
    rw [this]

theorem nums_false : ∀ (m : Nat) (i : Int), nums (List.replicate m false) i = []
  | 0, _ => by simp [nums]
  | m + 1, i => by simp [List.replicate_succ, nums, nums_false m]

theorem nums_pad (m : Nat) : ∀ (bs : List Bool) (i : Int), nums (bs ++ List.replicate m false) i = nums bs i
  | [], i => by simpa [nums] using nums_false m i
  | b :: bs, i => by cases b <;> simp [nums, nums_pad m bs (i + 1)]

theorem upTo_all (ps : List (List Stm)) (i : Int) (h4 : ps.length ≤ 4) : nums [upTo ps i ps.length 0, upTo ps i ps.length 1, upTo ps i ps.length 2, upTo ps i ps.length 3] 0 = nums (ps.map (fun p => called p i)) 0 := by
  rw [← nums_pad (4 - ps.length) (ps.map (fun p => called p i)) 0]
  match ps, h4 with
  | [], _ => simp [upTo, List.replicate_succ]
  | [a], _ => simp [upTo, List.replicate_succ]
  | [a, b], _ => simp [upTo, List.replicate_succ]
  | [a, b, c], _ => simp [upTo, List.replicate_succ]
  | [a, b, c, d], _ => simp [upTo]

theorem index0 (b0 b1 b2 b3 : Bool) (w : World) : (Instr.index 62 (.agg #[.bool b0, .bool b1, .bool b2, .bool b3]) (.int .i64 0)).run Try.prog w = .ok (.bool b0) w := by kernel_rfl
theorem index1 (b0 b1 b2 b3 : Bool) (w : World) : (Instr.index 62 (.agg #[.bool b0, .bool b1, .bool b2, .bool b3]) (.int .i64 1)).run Try.prog w = .ok (.bool b1) w := by kernel_rfl
theorem index2 (b0 b1 b2 b3 : Bool) (w : World) : (Instr.index 62 (.agg #[.bool b0, .bool b1, .bool b2, .bool b3]) (.int .i64 2)).run Try.prog w = .ok (.bool b2) w := by kernel_rfl
theorem index3 (b0 b1 b2 b3 : Bool) (w : World) : (Instr.index 62 (.agg #[.bool b0, .bool b1, .bool b2, .bool b3]) (.int .i64 3)).run Try.prog w = .ok (.bool b3) w := by kernel_rfl

/-- The array's value at a number. -/
theorem four_at (p : List Stm) (i : Int) (h0 : 0 ≤ i) (h3 : i ≤ 3) (w : World) :
    (Instr.index 62 (.agg #[Value.bool (called p 0), .bool (called p 1), .bool (called p 2), .bool (called p 3)]) (.int .i64 i)).run Try.prog w = .ok (.bool (called p i)) w := by
  have : i = 0 ∨ i = 1 ∨ i = 2 ∨ i = 3 := by omega
  rcases this with rfl | rfl | rfl | rfl
  · exact index0 _ _ _ _ w
  · exact index1 _ _ _ _ w
  · exact index2 _ _ _ _ w
  · exact index3 _ _ _ _ w

theorem implCallers (ps : List (List Stm)) (i : Int) (v : Value) (w : World) (hl : ps.length ≤ maxLen) (hp : ∀ p ∈ ps, p.length ≤ maxLen) (hv : ReadsP w v ps) :
    Calls Try.prog 24 #[.agg #[v], .int .i64 i] w fun e w' => ∃ u, e = .returned u ∧ w'.ownsRow w.heap.size 2 1 u (callersAns ps i).length (ints (callersAns ps i)) ∧ Below w.heap.size w w' := by
  have hb0 : Below w.heap.size w (w.alloc (.cells #[v] 26)) := by go_grown
  have he := hasProc ps i v _ hl hp (readsP_below hv hb0)
  have H0 := heap_alloc_new w (.cells #[v] 26)
  have s0 : (w.alloc (.cells #[v] 26)).heap.size = w.heap.size + 1 := by simp
  unfold callersAns
  cases hok : hasB ps i
  · rw [hok] at he
    go_enter Try.func24, Try.ntmps24
    go_wp2_with (go_at_call 47; refine he.mono ?_; rintro e w2 ⟨rfl, b2⟩)
    go_ret
    exact ⟨_, rfl, nilOwn _ _, hb0.trans (b2.mono hb0.size)⟩
  rw [hok] at he
  rw [if_pos rfl]
  obtain ⟨hpok, j, hj, hij, _⟩ := hasB_true hok
  obtain ⟨h4, _, hpr⟩ := programOk_len hpok
  have hi0 : 0 ≤ i := by omega
  have hi3 : i ≤ 3 := by omega
  rw [← upTo_all ps i h4]
  clear hok hpok hij
  go_enter Try.func24, Try.ntmps24
  go_wp2_with fail
  go_at_call 47
  refine he.mono ?_
  rintro e w2 ⟨rfl, b2⟩
  have L2 : Below w.heap.size w w2 := hb0.trans (b2.mono hb0.size)
  obtain ⟨c2, f2⟩ := one_cell ((b2.block w.heap.size (by omega)).trans H0)
  have s2 := b2.size
  have zz : w.heap.size < w2.heap.size := by omega
  obtain ⟨ao, cap, rfl, hc⟩ := hv
  clear he H0
  have hpl : (ps.length : Int) ≤ 4 := by omega
  have A2 := heap_alloc_new w2 (.cells #[.bool false, .bool false, .bool false, .bool false] 62)
  have LA : Below w.heap.size w (w2.alloc (.cells #[.bool false, .bool false, .bool false, .bool false] 62)) := L2.alloc L2.size _
  have SA : (w2.alloc (.cells #[.bool false, .bool false, .bool false, .bool false] 62)).heap.size = w2.heap.size + 1 := by simp
  go_wp2
  go_loopw [15] (fun q wr => ∃ (k : Nat), k ≤ ps.length ∧ q = .int .i64 k ∧ wr.heap[w2.heap.size]? = some (.cells #[.bool (upTo ps i k 0), .bool (upTo ps i k 1), .bool (upTo ps i k 2), .bool (upTo ps i k 3)] 62 (0, 0)) ∧
      w2.heap.size + 1 ≤ wr.heap.size ∧ Below w.heap.size w wr) (fun q _ => ps.length - (intOf q).toNat)
  case atStart => exact ⟨0, Nat.zero_le _, rfl, by simpa [upTo] using A2, by omega, LA⟩
  case round =>
    obtain ⟨k, hk, rfl, HA, hsz, hb⟩ := hrel
    clear A2 LA SA c2 f2
    by_cases hlt : k < ps.length
    · have hlt' : (k : Int) < (ps.length : Int) := by omega
      have hpk := (hpr ps[k] (List.getElem_mem hlt)).1
      have h12 := procOk_len hpk
      have hst : ∀ s ∈ ps[k], stmtOk s.k s.x s.y = true := fun s hs => procOk_stm hpk hs
      obtain ⟨g, off, u, rfl, p0, r0⟩ := hc k ps[k] (by simp [hlt])
      have p0 := (hb.cell (World.block_lt_of_cell? w _ p0)).trans p0
      have r0 := reads3_below r0 hb
      have bx : Below wr.heap.size wr (wr.alloc (.cells #[u] 34)) := by go_grown
      have sx : (wr.alloc (.cells #[u] 34)).heap.size = wr.heap.size + 1 := by simp
      have h3 := calledBy ps[k] u _ h12 hst (reads3_below r0 bx)
      have FK : Hid _ := upTo_step ps i k
      have hgd : ps.getD k [] = ps[k] := by simp [List.getD, hlt]
      rw [hgd] at FK
      have h4a := four_at ps[k] i hi0 hi3
      clear hc hgd hst hpk
      generalize hq : ps[k] = q at *
      clear hq
      obtain ⟨ua, un, uc, rfl⟩ := reads3_slice r0
      have HA' : Hid _ := HA
      clear HA
      go_wp2_with fail
      go_at_call 48
      refine h3.mono ?_
      rintro e w3 ⟨rfl, b3⟩
      clear h3
      have s3 := b3.size
      have b3' := bx.trans (b3.mono bx.size)
      have L3 := hb.trans (b3'.mono hb.size)
      have H3 : Hid _ := (b3'.block w2.heap.size (by omega)).trans HA'.out
      obtain ⟨c0, c1, c2, c3, f0, f1, f2, f3⟩ := four_cellsC H3.out
      have hk3 : k = 0 ∨ k = 1 ∨ k = 2 ∨ k = 3 := by omega
      clear HA' p0
      have hi4 : i < 4 := by omega
      rcases hk3 with rfl | rfl | rfl | rfl
      · have G2 : Hid _ := heap_setCell_same w3 w2.heap.size 0 _ 62 (.bool (called q i)) H3.out
        go_wp2
        go_roundw
        case rel =>
          refine ⟨0 + 1, by omega, by go_num, ?_, by simp; omega, L3.setCell L2.size _⟩
          rw [G2.out, FK.out, FK.out, FK.out, FK.out]
          simp
        case measure => simp [intOf]; omega
      · have G2 : Hid _ := heap_setCell_same w3 w2.heap.size 1 _ 62 (.bool (called q i)) H3.out
        go_wp2
        go_roundw
        case rel =>
          refine ⟨1 + 1, by omega, by go_num, ?_, by simp; omega, L3.setCell L2.size _⟩
          rw [G2.out, FK.out, FK.out, FK.out, FK.out]
          simp
        case measure => simp [intOf]; omega
      · have G2 : Hid _ := heap_setCell_same w3 w2.heap.size 2 _ 62 (.bool (called q i)) H3.out
        go_wp2
        go_roundw
        case rel =>
          refine ⟨2 + 1, by omega, by go_num, ?_, by simp; omega, L3.setCell L2.size _⟩
          rw [G2.out, FK.out, FK.out, FK.out, FK.out]
          simp
        case measure => simp [intOf]; omega
      · have G2 : Hid _ := heap_setCell_same w3 w2.heap.size 3 _ 62 (.bool (called q i)) H3.out
        go_wp2
        go_roundw
        case rel =>
          refine ⟨3 + 1, by omega, by go_num, ?_, by simp; omega, L3.setCell L2.size _⟩
          rw [G2.out, FK.out, FK.out, FK.out, FK.out]
          simp
        case measure => simp [intOf]; omega
    · obtain rfl : k = ps.length := by omega
      have rd : Reads wr (.slice (some ⟨w2.heap.size, 0, none⟩) 4 4) ([upTo ps i ps.length 0, upTo ps i ps.length 1, upTo ps i ps.length 2, upTo ps i ps.length 3].map .bool) := by
        refine ⟨some ⟨w2.heap.size, 0, none⟩, 4, rfl, fun k x hx => ⟨w2.heap.size, 0, rfl, ?_⟩⟩
        obtain ⟨d0, d1, d2, d3, _⟩ := four_cellsC HA
        have hk : k < 4 := (List.getElem?_eq_some_iff.1 hx).1
        have : k = 0 ∨ k = 1 ∨ k = 2 ∨ k = 3 := by omega
        rcases this with rfl | rfl | rfl | rfl <;> simp at hx <;> subst hx <;> assumption
      have hn := numbersIn _ _ wr (by simp) rd
      obtain ⟨e0, e1, e2, e3, _⟩ := four_cellsC HA
      clear hc HA
      go_wp2_with fail
      go_at_call 49
      refine hn.mono ?_
      rintro e w5 ⟨u5, rfl, own5, b5⟩
      go_wp2
      go_ret
      exact ⟨_, rfl, own_mono own5 hb.size, hb.trans (b5.mono hb.size)⟩

end Go.Proofs.Ytmloeldgeegddaa
