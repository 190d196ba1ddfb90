/-
  spec.Callers, impl.Callers.
-/
import Derived.Test.YtgnklkoifhkinaaCallsBoth
namespace Go.Proofs.Ytgnklkoifhkinaa
open Go.RowKit
set_option linter.unusedVariables false
set_option maxHeartbeats 1000000

theorem ins_any (n i : Int) : ∀ xs : List Int, (ins n xs).any (fun x => decide (x = i)) = (decide (n = i) || xs.any (fun x => decide (x = i)))
  | [] => by simp [ins]
  | x :: xs => by
    unfold ins
    split
    · rw [List.any_cons, ins_any n i xs, List.any_cons]
      cases decide (x = i) <;> cases decide (n = i) <;> simp
    · split
      · rename_i h
        subst h
        simp
      · simp

theorem callsOf_any (p : List Stm) (i : Int) : (callsOf p).any (fun x => decide (x = i)) = called p i := by
  have key : ∀ (p : List Stm) (acc : List Int), (p.foldl putCall acc).any (fun x => decide (x = i)) = (acc.any (fun x => decide (x = i)) || called p i) := by
    intro p
    induction p with
    | nil => intro acc; simp [called]
    | cons s p ih =>
      intro acc
      rw [List.foldl_cons, ih, putCall]
      by_cases h8 : s.k = 8
      · rw [if_pos h8, ins_any]
        simp only [called, List.any_cons, h8, decide_true, Bool.true_and]
        cases decide (s.y = i) <;> simp
      · rw [if_neg h8]
        simp [called, h8]
  have := key p []
  simpa [callsOf] using this

/-- What both answer. -/
def callersAns (ps : List (List Stm)) (i : Int) : List Int := if hasB ps i then nums (ps.map (fun p => called p i)) 0 else []

theorem callersAns_length (ps : List (List Stm)) (i : Int) : (callersAns ps i).length ≤ 12 := by
  unfold callersAns
  cases hok : hasB ps i
  · simp
  · rw [if_pos rfl]
    obtain ⟨h1, _⟩ := hasB_true hok
    obtain ⟨h4, _⟩ := programOk_len h1
    have := nums_length (ps.map (fun p => called p i)) 0
    simp at this ⊢
    omega

theorem specCallers (ps : List (List Stm)) (i : Int) (v : Value) (w : World) (hl : ps.length ≤ maxLen) (hp : ∀ p ∈ ps, p.length ≤ maxLen) (hv : ReadsP w v ps) :
    Calls Try.prog 30 #[.agg #[v], .int .i64 i] w fun e w' => ∃ u, e = .returned u ∧ w'.ownsRow w.heap.size 2 1 u (callersAns ps i).length (ints (callersAns ps i)) ∧ Below w.heap.size w w' := by
  obtain ⟨i0, hi, hz0, hz1, hz2⟩ := info_parts infoInt
  have hb0 : Below w.heap.size w ((w.alloc (.cells #[v] 46)).alloc (.cells #[] 2)) := by go_grown
  have he := l3In ps i v _ hl hp (readsP_below hv hb0)
  have z0 : (w.alloc (.cells #[v] 46)).heap.size = w.heap.size + 1 := by simp
  have m0 := own_mono (made0 (w.alloc (.cells #[v] 46))) (base' := w.heap.size + 1) (by simp)
  rw [z0] at m0
  have H0 : ((w.alloc (.cells #[v] 46)).alloc (.cells #[] 2)).heap[w.heap.size]? = some (.cells #[v] 46) := (old_block (by omega)).trans (heap_alloc_new w _)
  have s0 : ((w.alloc (.cells #[v] 46)).alloc (.cells #[] 2)).heap.size = w.heap.size + 2 := by simp
  unfold callersAns
  cases hok : hasB ps i
  · rw [hok] at he
    go_enter Try.func30, Try.ntmps30
    go_wp2_with (go_at_call 41; refine he.mono ?_; rintro e w2 ⟨rfl, b2⟩)
    go_ret
    exact ⟨_, rfl, by simpa [ints] using own_mono (own_kept m0 b2) (base' := w.heap.size) (by omega), hb0.trans (b2.mono hb0.size)⟩
  rw [hok] at he
  rw [if_pos rfl]
  obtain ⟨hpok, _⟩ := hasB_true hok
  obtain ⟨h4, _, hpr⟩ := programOk_len hpok
  obtain ⟨R, hR⟩ : ∃ R, nums (ps.map (fun p => called p i)) 0 = R := ⟨_, rfl⟩
  rw [hR]
  have HR : Hid _ := hR
  clear hR hok hpok
  go_enter Try.func30, Try.ntmps30
  go_wp2_with fail
  go_at_call 41
  refine he.mono ?_
  rintro e w2 ⟨rfl, b2⟩
  have s2 := b2.size
  have L2 : Below w.heap.size w w2 := hb0.trans (b2.mono hb0.size)
  have H2 : Hid _ := (b2.block w.heap.size (by omega)).trans H0
  have own2 := own_kept m0 b2
  obtain ⟨ao, cap, hvv⟩ : ∃ ao cap, v = .slice ao ps.length cap := by obtain ⟨ao, cap, rfl, _⟩ := hv; exact ⟨_, _, rfl⟩
  subst hvv
  clear he H0
  have hpl : (ps.length : Int) ≤ 4 := by omega
  go_wp2
  go_loopw [5, 6] (fun o q wr => ∃ (k : Nat), k ≤ ps.length ∧ q = .int .i64 k ∧ wr.ownsRow (w.heap.size + 1) 2 1 o (nums ((ps.take k).map (fun p => called p i)) 0).length (ints (nums ((ps.take k).map (fun p => called p i)) 0)) ∧
      wr.heap[w.heap.size]? = some (.cells #[.slice ao ps.length cap] 46 (0, 0)) ∧ w.heap.size + 2 ≤ wr.heap.size ∧ Below w.heap.size w wr) (fun _ q _ => ps.length - (intOf q).toNat)
  case atStart => exact ⟨0, Nat.zero_le _, rfl, by simpa [nums, ints] using own2, H2.out, by omega, L2⟩
  case round =>
    obtain ⟨k, hk, rfl, hown, Hb, hsz, hb⟩ := hrel
    obtain ⟨c0, f0⟩ := one_cell Hb
    have HB : Hid _ := Hb
    clear Hb
    by_cases hlt : k < ps.length
    · have hlt' : (k : Int) < (ps.length : Int) := by omega
      have h12 := procOk_len (hpr ps[k] (List.getElem_mem hlt)).1
      have h3 := l3Calls ps k (.slice ao ps.length cap) wr hlt hl h12 (readsP_below hv hb)
      have hcl := callsOf_length ps[k]
      have hsn : nums ((ps.take (k + 1)).map (fun p => called p i)) 0 = nums ((ps.take k).map (fun p => called p i)) 0 ++ (if called ps[k] i then [(k : Int)] else []) := by
        rw [List.take_succ_eq_append_getElem hlt, List.map_append, List.map_cons, List.map_nil, nums_snoc, Int.zero_add, List.length_map, List.length_take, Nat.min_eq_left (by omega)]
      have HS : Hid _ := hsn
      have hlen := nums_length ((ps.take k).map (fun p => called p i)) 0
      simp only [List.length_map, List.length_take] at hlen
      have hany := callsOf_any ps[k] i
      have hcm : (callsOf ps[k]).length ≤ maxLen := by unfold maxLen; omega
      clear hsn
      generalize hq : ps[k] = q at *
      clear hq
      generalize callsOf q = C at *
      generalize nums ((ps.take k).map (fun p => called p i)) 0 = xs at *
      go_wp2_with fail
      go_at_call 42
      refine h3.mono ?_
      rintro e w3 ⟨g, cp, rfl, own3, b3⟩
      clear h3
      have s3 := b3.size
      have L3 := hb.trans (b3.mono hb.size)
      have H3 : Hid _ := (b3.block w.heap.size (by omega)).trans HB.out
      have hown := own_kept hown b3
      have hhas := l1Has C i _ w3 hcm (reads_own own3)
      rw [hany] at hhas
      clear hany c0 f0 HB
      cases hcd : called q i
      · rw [hcd] at hhas HS
        have HP : Hid (nums ((ps.take (k + 1)).map (fun p => called p i)) 0 = xs) := HS.out.trans (by simp)
        clear HS
        go_wp2_with fail
        go_at_call 47
        refine hhas.mono ?_
        rintro e w4 ⟨rfl, b4⟩
        have s4 := b4.size
        go_wp2
        go_roundw
        case rel => exact ⟨k + 1, by omega, by go_num, by rw [HP.out]; exact own_kept hown b4, (b4.block w.heap.size (by omega)).trans H3.out, by omega, L3.trans (b4.mono L3.size)⟩
        case measure => simp [intOf]; omega
      · rw [hcd] at hhas HS
        have HP : Hid (nums ((ps.take (k + 1)).map (fun p => called p i)) 0 = xs ++ [(k : Int)]) := HS.out
        clear HS
        go_wp2_with fail
        go_at_call 47
        refine hhas.mono ?_
        rintro e w4 ⟨rfl, b4⟩
        have s4 := b4.size
        have L4 := L3.trans (b4.mono L3.size)
        have H4 : Hid _ := (b4.block w.heap.size (by omega)).trans H3.out
        have hown := own_kept hown b4
        have B5 : Hid (Below w.heap.size w (w4.alloc (.cells #[.int .i64 (k : Int)] 2))) := L4.alloc L4.size _
        have H5 : Hid _ := (old_block (o := .cells #[.int .i64 (k : Int)] 2) (show w.heap.size < w4.heap.size by omega)).trans H4.out
        have HSZ : Hid (w.heap.size + 1 ≤ (w4.alloc (.cells #[.int .i64 (k : Int)] 2)).heap.size) := by
          show w.heap.size + 1 ≤ (w4.alloc (.cells #[.int .i64 (k : Int)] 2)).heap.size
          simp; omega
        clear hhas own3
        go_wp2_with (first
          | (at_builtin; refine wpList_append_own _ rfl (.tmp 25) (.tmp 27) 51 rfl (w.heap.size + 1) 2 i0 (.int .i64 0) 1 8 Try.underlying51 hi hz0 hz1 hz2 rfl (by decide) _ _ _ rfl (hown.alloc _) ⟨w4.heap.size, 0, none⟩ 1 _ [.int .i64 (k : Int)] rfl rfl (cell_one w4 k) (ints_oneCell [(k : Int)]) (by unfold maxLen; omega) (by omega) HSZ.out ?_; intro v6 w6 own6 grow6 _; have L6 := below_app B5.out grow6 (fun q hq => by have := (hown.lt q hq).1; omega))
          | go_in)
        have own7 : Hid (w6.ownsRow (w.heap.size + 1) 2 1 v6 (xs ++ [(k : Int)]).length (ints (xs ++ [(k : Int)]))) := by
          show w6.ownsRow (w.heap.size + 1) 2 1 v6 (xs ++ [(k : Int)]).length (ints (xs ++ [(k : Int)]))
          simpa [ints] using own6
        have H6 : Hid _ := (grow6.block w.heap.size (by simp; omega) (fun e => by have := (hown.lt _ e.symm).1; omega)).trans H5.out
        have s6 := grow6.size
        simp at s6
        go_roundw
        case rel => exact ⟨k + 1, by omega, by go_num, by rw [HP.out]; exact own7.out, H6.out, by omega, L6⟩
        case measure => simp [intOf]; omega
    · have hkk : k = ps.length := by omega
      subst hkk
      rw [List.take_length, HR.out] at hown
      go_wp2
      go_ret
      exact ⟨_, rfl, own_mono hown (by omega), hb⟩

/-- Does procedure j, one of the first k, call number i? -/
def upTo (ps : List (List Stm)) (i : Int) (k j : Nat) : Bool := decide (j < k) && called (ps.getD j []) i

theorem upTo_step (ps : List (List Stm)) (i : Int) (k j : Nat) : upTo ps i (k + 1) j = if j = k then called (ps.getD k []) i else upTo ps i k j := by
  unfold upTo
  by_cases h : j = k
  · subst h; simp
  · rw [if_neg h]
    have : decide (j < k + 1) = decide (j < k) := by simp; omega
    rw [this]

theorem nums_false : ∀ (m : Nat) (i : Int), nums (List.replicate m false) i = []
  | 0, _ => by simp [nums]
  | m + 1, i => by simp [List.replicate_succ, nums, nums_false m]

theorem nums_pad (m : Nat) : ∀ (bs : List Bool) (i : Int), nums (bs ++ List.replicate m false) i = nums bs i
  | [], i => by simpa [nums] using nums_false m i
  | b :: bs, i => by cases b <;> simp [nums, nums_pad m bs (i + 1)]

theorem upTo_all (ps : List (List Stm)) (i : Int) (h4 : ps.length ≤ 4) : nums [upTo ps i ps.length 0, upTo ps i ps.length 1, upTo ps i ps.length 2, upTo ps i ps.length 3] 0 = nums (ps.map (fun p => called p i)) 0 := by
  rw [← nums_pad (4 - ps.length) (ps.map (fun p => called p i)) 0]
  match ps, h4 with
  | [], _ => simp [upTo, List.replicate_succ]
  | [a], _ => simp [upTo, List.replicate_succ]
  | [a, b], _ => simp [upTo, List.replicate_succ]
  | [a, b, c], _ => simp [upTo, List.replicate_succ]
  | [a, b, c, d], _ => simp [upTo]

theorem index0 (b0 b1 b2 b3 : Bool) (w : World) : (Instr.index 67 (.agg #[.bool b0, .bool b1, .bool b2, .bool b3]) (.int .i64 0)).run Try.prog w = .ok (.bool b0) w := by kernel_rfl
theorem index1 (b0 b1 b2 b3 : Bool) (w : World) : (Instr.index 67 (.agg #[.bool b0, .bool b1, .bool b2, .bool b3]) (.int .i64 1)).run Try.prog w = .ok (.bool b1) w := by kernel_rfl
theorem index2 (b0 b1 b2 b3 : Bool) (w : World) : (Instr.index 67 (.agg #[.bool b0, .bool b1, .bool b2, .bool b3]) (.int .i64 2)).run Try.prog w = .ok (.bool b2) w := by kernel_rfl
theorem index3 (b0 b1 b2 b3 : Bool) (w : World) : (Instr.index 67 (.agg #[.bool b0, .bool b1, .bool b2, .bool b3]) (.int .i64 3)).run Try.prog w = .ok (.bool b3) w := by kernel_rfl

/-- The array's value at a number. -/
theorem four_at (p : List Stm) (i : Int) (h0 : 0 ≤ i) (h3 : i ≤ 3) (w : World) :
    (Instr.index 67 (.agg #[Value.bool (called p 0), .bool (called p 1), .bool (called p 2), .bool (called p 3)]) (.int .i64 i)).run Try.prog w = .ok (.bool (called p i)) w := by
  have : i = 0 ∨ i = 1 ∨ i = 2 ∨ i = 3 := by omega
  rcases this with rfl | rfl | rfl | rfl
  · exact index0 _ _ _ _ w
  · exact index1 _ _ _ _ w
  · exact index2 _ _ _ _ w
  · exact index3 _ _ _ _ w

theorem implCallers (ps : List (List Stm)) (i : Int) (v : Value) (w : World) (hl : ps.length ≤ maxLen) (hp : ∀ p ∈ ps, p.length ≤ maxLen) (hv : ReadsP w v ps) :
    Calls Try.prog 31 #[.agg #[v], .int .i64 i] w fun e w' => ∃ u, e = .returned u ∧ w'.ownsRow w.heap.size 2 1 u (callersAns ps i).length (ints (callersAns ps i)) ∧ Below w.heap.size w w' := by
  have hb0 : Below w.heap.size w (w.alloc (.cells #[v] 46)) := by go_grown
  have he := hasProc ps i v _ hl hp (readsP_below hv hb0)
  have H0 := heap_alloc_new w (.cells #[v] 46)
  have s0 : (w.alloc (.cells #[v] 46)).heap.size = w.heap.size + 1 := by simp
  unfold callersAns
  cases hok : hasB ps i
  · rw [hok] at he
    go_enter Try.func31, Try.ntmps31
    go_wp2_with (go_at_call 43; refine he.mono ?_; rintro e w2 ⟨rfl, b2⟩)
    go_ret
    exact ⟨_, rfl, nilOwn _ _, hb0.trans (b2.mono hb0.size)⟩
  rw [hok] at he
  rw [if_pos rfl]
  obtain ⟨hpok, j, hj, hij, _⟩ := hasB_true hok
  obtain ⟨h4, _, hpr⟩ := programOk_len hpok
  have hi0 : 0 ≤ i := by omega
  have hi3 : i ≤ 3 := by omega
  rw [← upTo_all ps i h4]
  clear hok hpok hij
  go_enter Try.func31, Try.ntmps31
  go_wp2_with fail
  go_at_call 43
  refine he.mono ?_
  rintro e w2 ⟨rfl, b2⟩
  have L2 : Below w.heap.size w w2 := hb0.trans (b2.mono hb0.size)
  obtain ⟨c2, f2⟩ := one_cell ((b2.block w.heap.size (by omega)).trans H0)
  have s2 := b2.size
  have zz : w.heap.size < w2.heap.size := by omega
  obtain ⟨ao, cap, rfl, hc⟩ := hv
  clear he H0
  have hpl : (ps.length : Int) ≤ 4 := by omega
  have A2 := heap_alloc_new w2 (.cells #[.bool false, .bool false, .bool false, .bool false] 67)
  have LA : Below w.heap.size w (w2.alloc (.cells #[.bool false, .bool false, .bool false, .bool false] 67)) := L2.alloc L2.size _
  have SA : (w2.alloc (.cells #[.bool false, .bool false, .bool false, .bool false] 67)).heap.size = w2.heap.size + 1 := by simp
  go_wp2
  go_loopw [15] (fun q wr => ∃ (k : Nat), k ≤ ps.length ∧ q = .int .i64 k ∧ wr.heap[w2.heap.size]? = some (.cells #[.bool (upTo ps i k 0), .bool (upTo ps i k 1), .bool (upTo ps i k 2), .bool (upTo ps i k 3)] 67 (0, 0)) ∧
      w2.heap.size + 1 ≤ wr.heap.size ∧ Below w.heap.size w wr) (fun q _ => ps.length - (intOf q).toNat)
  case atStart => exact ⟨0, Nat.zero_le _, rfl, by simpa [upTo] using A2, by omega, LA⟩
  case round =>
    obtain ⟨k, hk, rfl, HA, hsz, hb⟩ := hrel
    clear A2 LA SA c2 f2
    by_cases hlt : k < ps.length
    · have hlt' : (k : Int) < (ps.length : Int) := by omega
      have hpk := (hpr ps[k] (List.getElem_mem hlt)).1
      have h12 := procOk_len hpk
      have hst : ∀ s ∈ ps[k], stmtOk s.k s.x s.y = true := fun s hs => procOk_stm hpk hs
      obtain ⟨g, off, u, rfl, p0, r0⟩ := hc k ps[k] (by simp [hlt])
      have p0 := (hb.cell (World.block_lt_of_cell? w _ p0)).trans p0
      have r0 := reads3_below r0 hb
      have bx : Below wr.heap.size wr (wr.alloc (.cells #[u] 35)) := by go_grown
      have sx : (wr.alloc (.cells #[u] 35)).heap.size = wr.heap.size + 1 := by simp
      have h3 := calledBy ps[k] u _ h12 hst (reads3_below r0 bx)
      have FK : Hid _ := upTo_step ps i k
      have hgd : ps.getD k [] = ps[k] := by simp [List.getD, hlt]
      rw [hgd] at FK
      have h4a := four_at ps[k] i hi0 hi3
      clear hc hgd hst hpk
      generalize hq : ps[k] = q at *
      clear hq
      obtain ⟨ua, un, uc, rfl⟩ := reads3_slice r0
      have HA' : Hid _ := HA
      clear HA
      go_wp2_with fail
      go_at_call 44
      refine h3.mono ?_
      rintro e w3 ⟨rfl, b3⟩
      clear h3
      have s3 := b3.size
      have b3' := bx.trans (b3.mono bx.size)
      have L3 := hb.trans (b3'.mono hb.size)
      have H3 : Hid _ := (b3'.block w2.heap.size (by omega)).trans HA'.out
      obtain ⟨c0, c1, c2, c3, f0, f1, f2, f3⟩ := four_cells H3.out
      have hk3 : k = 0 ∨ k = 1 ∨ k = 2 ∨ k = 3 := by omega
      clear HA' p0
      have hi4 : i < 4 := by omega
      rcases hk3 with rfl | rfl | rfl | rfl
      · have G2 : Hid _ := heap_setCell_same w3 w2.heap.size 0 _ 67 (.bool (called q i)) H3.out
        go_wp2
        go_roundw
        case rel =>
          refine ⟨0 + 1, by omega, by go_num, ?_, by simp; omega, L3.setCell L2.size _⟩
          rw [G2.out, FK.out, FK.out, FK.out, FK.out]
          simp
        case measure => simp [intOf]; omega
      · have G2 : Hid _ := heap_setCell_same w3 w2.heap.size 1 _ 67 (.bool (called q i)) H3.out
        go_wp2
        go_roundw
        case rel =>
          refine ⟨1 + 1, by omega, by go_num, ?_, by simp; omega, L3.setCell L2.size _⟩
          rw [G2.out, FK.out, FK.out, FK.out, FK.out]
          simp
        case measure => simp [intOf]; omega
      · have G2 : Hid _ := heap_setCell_same w3 w2.heap.size 2 _ 67 (.bool (called q i)) H3.out
        go_wp2
        go_roundw
        case rel =>
          refine ⟨2 + 1, by omega, by go_num, ?_, by simp; omega, L3.setCell L2.size _⟩
          rw [G2.out, FK.out, FK.out, FK.out, FK.out]
          simp
        case measure => simp [intOf]; omega
      · have G2 : Hid _ := heap_setCell_same w3 w2.heap.size 3 _ 67 (.bool (called q i)) H3.out
        go_wp2
        go_roundw
        case rel =>
          refine ⟨3 + 1, by omega, by go_num, ?_, by simp; omega, L3.setCell L2.size _⟩
          rw [G2.out, FK.out, FK.out, FK.out, FK.out]
          simp
        case measure => simp [intOf]; omega
    · obtain rfl : k = ps.length := by omega
      have rd : Reads wr (.slice (some ⟨w2.heap.size, 0, none⟩) 4 4) ([upTo ps i ps.length 0, upTo ps i ps.length 1, upTo ps i ps.length 2, upTo ps i ps.length 3].map .bool) := by
        refine ⟨some ⟨w2.heap.size, 0, none⟩, 4, rfl, fun k x hx => ⟨w2.heap.size, 0, rfl, ?_⟩⟩
        obtain ⟨d0, d1, d2, d3, _⟩ := four_cells HA
        have hk : k < 4 := (List.getElem?_eq_some_iff.1 hx).1
        have : k = 0 ∨ k = 1 ∨ k = 2 ∨ k = 3 := by omega
        rcases this with rfl | rfl | rfl | rfl <;> simp at hx <;> subst hx <;> assumption
      have hn := numbersIn _ _ wr (by simp) rd
      obtain ⟨e0, e1, e2, e3, _⟩ := four_cells HA
      clear hc HA
      go_wp2_with fail
      go_at_call 45
      refine hn.mono ?_
      rintro e w5 ⟨u5, rfl, own5, b5⟩
      go_wp2
      go_ret
      exact ⟨_, rfl, own_mono own5 hb.size, hb.trans (b5.mono hb.size)⟩

end Go.Proofs.Ytgnklkoifhkinaa
