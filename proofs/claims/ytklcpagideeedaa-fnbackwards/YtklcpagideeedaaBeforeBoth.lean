/-
  slices.Contains over int64; spec.Before, impl.Before.
-/
import Derived.Test.YtklcpagideeedaaNexts
namespace Go.Proofs.Ytklcpagideeedaa
open Go.RowKit
set_option linter.unusedVariables false
set_option maxHeartbeats 1000000

def hasI (xs : List Int) (n : Int) : Bool := xs.any (fun x => decide (x = n))

theorem sliceIndex (xs : List Int) (n : Int) (v : Value) (w : World) (hl : xs.length ≤ maxLen) (hv : Reads w v (ints xs)) :
    Calls Try.prog 35 #[v, .int .i64 n] w fun e w' => ∃ r : Int, e = .returned (.int .i64 r) ∧ decide (0 ≤ r) = hasI xs n ∧ -1 ≤ r ∧ r ≤ 9223372036854775807 ∧ w = w' := by
  unfold maxLen at hl
  obtain ⟨ao, cap, rfl, hc⟩ := hv
  rw [ints_length]
  obtain ⟨B, hB⟩ : ∃ B, hasI xs n = B := ⟨_, rfl⟩
  rw [hB]
  have HB : Hid (hasI xs n = B) := hB
  clear hB
  go_enter Try.func35, Try.ntmps35
  go_wp2
  go_loopw [8] (fun i wr => ∃ k : Nat, k ≤ xs.length ∧ i = .int .i64 k ∧ w = wr ∧ hasI (xs.take k) n = false) (fun i _ => xs.length - (intOf i).toNat)
  case atStart => exact ⟨0, Nat.zero_le _, rfl, rfl, by simp [hasI]⟩
  case round =>
    obtain ⟨k, hk, rfl, rfl, hno⟩ := hrel
    have HNO : Hid _ := hno
    clear hno
    by_cases hlt : k < xs.length
    · have hlt' : (k : Int) < (xs.length : Int) := by omega
      obtain ⟨g, off, rfl, hg⟩ := hc k (.int .i64 xs[k]) (by simp [ints, hlt])
      have h1 : hasI (xs.take (k + 1)) n = decide (xs[k] = n) := by
        unfold hasI
        rw [List.take_succ_eq_append_getElem hlt, List.any_append]
        have := HNO.out
        unfold hasI at this
        rw [this]; simp
      have h2 : xs[k] = n → hasI xs n = true := fun h => List.any_eq_true.2 ⟨xs[k], List.getElem_mem hlt, by simp [h]⟩
      have H1 : Hid _ := h1
      have H2 : Hid _ := h2
      clear h1 h2 hc
      generalize xs[k] = x at *
      by_cases hx : x = n
      · have H4 : Hid (B = true) := HB.out.symm.trans (H2.out hx)
        have hx' : (n == x) = true := by simpa using hx.symm
        clear H1 H2 hx
        go_wp2
        go_ret
        exact ⟨k, rfl, by rw [H4.out]; simp, by omega, by omega, rfl⟩
      · have hx' : (n == x) = false := by simpa using fun h => hx h.symm
        have H3 : Hid (hasI (xs.take (k + 1)) n = false) := H1.out.trans (by simp [hx])
        clear H1 H2
        go_wp2
        go_roundw
        case rel => exact ⟨k + 1, by omega, by go_num, by trivial, H3.out⟩
        case measure => simp [intOf]; omega
    · have hkk : k = xs.length := by omega
      subst hkk
      go_wp2
      go_ret
      have h := HNO.out
      rw [List.take_length, HB.out] at h
      exact ⟨-1, rfl, by rw [h]; rfl, by omega, by omega, rfl⟩

theorem sliceContains (xs : List Int) (n : Int) (v : Value) (w : World) (hl : xs.length ≤ maxLen) (hv : Reads w v (ints xs)) :
    Calls Try.prog 21 #[v, .int .i64 n] w fun e w' => e = .returned (.bool (hasI xs n)) ∧ w = w' := by
  have hi := sliceIndex xs n v w hl hv
  go_enter Try.func21, Try.ntmps21
  go_wp2_with fail
  go_at_call 35
  refine hi.mono ?_
  rintro e w1 ⟨r, rfl, hr, _, _, rfl⟩
  have HR : Hid _ := hr
  clear hi hr
  go_wp2
  go_ret
  exact ⟨by rw [← HR.out]; simp, rfl⟩

/-- Of the first k statements, those behind which i may come. -/
def befN (ss : List Stm) (i : Int) : Nat → List Int
  | 0 => []
  | k + 1 => befN ss i k ++ (if hasI (nextsS (ss.getD k ⟨0, 0, 0⟩) k) i then [(k : Int)] else [])

theorem befN_lt (ss : List Stm) (i : Int) : ∀ (k : Nat) (x : Int), x ∈ befN ss i k → 0 ≤ x ∧ x < k
  | 0, x, h => by simp [befN] at h
  | k + 1, x, h => by
    unfold befN at h
    rw [List.mem_append] at h
    rcases h with h | h
    · have := befN_lt ss i k x h; omega
    · split at h
      · simp at h; omega
      · simp at h

theorem befN_length (ss : List Stm) (i : Int) : ∀ k : Nat, (befN ss i k).length ≤ k
  | 0 => by simp [befN]
  | k + 1 => by
    have := befN_length ss i k
    unfold befN
    rw [List.length_append]
    split
    · simp; omega
    · simp; omega

theorem ins_end (n : Int) : ∀ xs : List Int, (∀ x ∈ xs, x < n) → ins n xs = xs ++ [n]
  | [], _ => rfl
  | x :: xs, h => by
    rw [ins, if_pos (h x (by simp)), ins_end n xs (fun y hy => h y (by simp [hy]))]
    rfl

/-- What both answer. -/
def beforeAns (ss : List Stm) (i : Int) : List Int := if hasS ss i then befN ss i ss.length else []

theorem beforeAns_length (ss : List Stm) (i : Int) : (beforeAns ss i).length ≤ 12 := by
  unfold beforeAns
  cases h : hasS ss i
  · simp
  · rw [if_pos rfl]
    obtain ⟨hp, _⟩ := hasS_true h
    obtain ⟨_, h12, _⟩ := procOk_parts hp
    have := befN_length ss i ss.length
    omega

theorem specBefore (ss : List Stm) (i : Int) (v : Value) (w : World) (hl : ss.length ≤ maxLen) (hv : Reads3 w v ss) :
    Calls Try.prog 11 #[.agg #[v], .int .i64 i] w fun e w' => ∃ u, e = .returned u ∧ w'.ownsRow w.heap.size 2 1 u (beforeAns ss i).length (ints (beforeAns ss i)) ∧ Below w.heap.size w w' := by
  obtain ⟨W0, hW0⟩ : ∃ W0, (w.alloc (.cells #[v] 26)).alloc (.cells #[] 2) = W0 := ⟨_, rfl⟩
  have hb0 : Below w.heap.size w W0 := by rw [← hW0]; go_grown
  have he := l4In ss i v _ hl (reads3_below hv hb0)
  have s0 : W0.heap.size = w.heap.size + 1 + 1 := by rw [← hW0]; simp
  have H0 : Hid (W0.heap[w.heap.size]? = some (.cells #[v] 26 (0, 0))) := by
    show W0.heap[w.heap.size]? = _
    rw [← hW0, old_block (by simp)]; exact heap_alloc_new w _
  have m0 : W0.ownsRow w.heap.size 2 1 (.slice (some ⟨w.heap.size + 1, 0, none⟩) 0 0) 0 [] := by
    rw [← hW0]
    have := own_mono (made0 (w.alloc (.cells #[v] 26))) (base' := w.heap.size) (by simp)
    have z : (w.alloc (.cells #[v] 26)).heap.size = w.heap.size + 1 := by simp
    rwa [z] at this
  have HW : Hid ((w.alloc (.cells #[v] 26)).alloc (.cells #[] 2) = W0) := hW0
  clear hW0
  unfold beforeAns
  cases hok : hasS ss i
  · rw [hok] at he
    rw [if_neg (by simp)]
    go_enter Try.func11, Try.ntmps11
    go_wp2_with (go_at_call 25; rw [HW.out]; refine he.mono ?_; rintro e w2 ⟨rfl, b2⟩)
    go_ret
    exact ⟨.slice (some ⟨w.heap.size + 1, 0, none⟩) 0 0, rfl, own_kept m0 b2, hb0.trans (b2.mono hb0.size)⟩
  · rw [hok] at he
    rw [if_pos rfl]
    obtain ⟨hp, _⟩ := hasS_true hok
    obtain ⟨h1, h12, _⟩ := procOk_parts hp
    have h12' : (ss.length : Int) ≤ 12 := by omega
    clear hok
    go_enter Try.func11, Try.ntmps11
    go_wp2_with fail
    go_at_call 25
    rw [HW.out]
    refine he.mono ?_
    rintro e w2 ⟨rfl, b2⟩
    have s2 := b2.size
    have m2 := own_kept m0 b2
    have H2 := (b2.block w.heap.size (by omega)).trans H0.out
    have L2 := hb0.trans (b2.mono hb0.size)
    clear he m0 H0 HW
    go_wp2_with fail
    go_loopw [5, 6] (fun o j wr => ∃ (k g cap : Nat), k ≤ ss.length ∧ j = .int .i64 k ∧ o = .slice (some ⟨g, 0, none⟩) (befN ss i k).length cap ∧
      wr.ownsRow w.heap.size 2 1 (.slice (some ⟨g, 0, none⟩) (befN ss i k).length cap) (befN ss i k).length (ints (befN ss i k)) ∧ Below w2.heap.size w2 wr) (fun _ j _ => ss.length - (intOf j).toNat)
    case atStart => exact ⟨0, w.heap.size + 1, 0, Nat.zero_le _, rfl, rfl, m2, Below.refl _ _⟩
    case round =>
      obtain ⟨k, g, cap, hk, rfl, rfl, hown, hb⟩ := hrel
      obtain ⟨c0, f0⟩ := one_cell ((hb.block w.heap.size (by omega)).trans H2)
      have LR := L2.trans (hb.mono L2.size)
      have hv' := reads3_below hv LR
      have hlen := befN_length ss i k
      have hsz := hb.size
      by_cases hlt : k < ss.length
      · have hlt' : (k : Int) < (ss.length : Int) := by omega
        have hnx := l4Next ss k v wr hp hlt hv'
        have hst : befN ss i (k + 1) = befN ss i k ++ (if hasI (nextsS ss[k] k) i then [(k : Int)] else []) := by
          have : ss.getD k ⟨0, 0, 0⟩ = ss[k] := by simp [List.getD, hlt]
          rw [befN, this]
        have hins := ins_end k (befN ss i k) (fun x hx => (befN_lt ss i k x hx).2)
        have HS : Hid _ := hst
        have HI : Hid _ := hins
        clear hst hins
        have hnl := nextsS_length ss[k] k
        generalize nextsS ss[k] k = ns at *
        generalize befN ss i k = bs at *
        obtain ⟨ao, vc, rfl, _⟩ := id hv
        go_wp2_with fail
        go_at_call 26
        refine hnx.mono ?_
        rintro e w3 ⟨g3, c3, rfl, own3, b3⟩
        clear hnx
        have hh := l1Has ns i _ w3 (by unfold maxLen; omega) (reads_own own3)
        go_wp2_with fail
        go_at_call 27
        refine hh.mono ?_
        rintro e w4 ⟨rfl, b4⟩
        clear hh
        have hown4 := own_kept (own_kept hown b3) b4
        have B4 : Below w2.heap.size w2 w4 := (hb.trans (b3.mono (by omega))).trans (b4.mono (by have := b3.size; omega))
        obtain ⟨q, hq⟩ : ∃ q, hasI ns i = q := ⟨_, rfl⟩
        have hq' : ns.any (fun x => decide (x = i)) = q := hq
        rw [hq'] 
        rw [hq] at HS
        cases q
        · have HP : Hid (befN ss i (k + 1) = bs) := HS.out.trans (by simp)
          go_wp2
          go_roundw
          case rel => exact ⟨k + 1, g, cap, by omega, by go_num, by rw [HP.out], by rw [HP.out]; exact hown4, B4⟩
          case measure => simp [intOf]; omega
        · have HP : Hid (befN ss i (k + 1) = ins k bs) := HS.out.trans (by rw [HI.out]; simp)
          have hput := l1Put bs k g cap w.heap.size w4 (by omega) (by have := B4.size; have := L2.size; omega) hown4
          go_wp2_with fail
          go_at_call 28
          refine hput.mono ?_
          rintro e w5 ⟨g5, c5, rfl, own5, b5⟩
          clear hput
          go_wp2
          go_roundw
          case rel => exact ⟨k + 1, g5, c5, by omega, by go_num, by rw [HP.out], by rw [HP.out]; exact own5, B4.trans (b5.mono B4.size)⟩
          case measure => simp [intOf]; omega
      · have hkk : k = ss.length := by omega
        subst hkk
        obtain ⟨ao, vc, rfl, _⟩ := id hv
        go_wp2
        go_ret
        exact ⟨_, rfl, hown, LR⟩

theorem implBefore (ss : List Stm) (i : Int) (v : Value) (w : World) (hl : ss.length ≤ maxLen) (hv : Reads3 w v ss) :
    Calls Try.prog 7 #[.agg #[v], .int .i64 i] w fun e w' => ∃ u, e = .returned u ∧ w'.ownsRow w.heap.size 2 1 u (beforeAns ss i).length (ints (beforeAns ss i)) ∧ Below w.heap.size w w' := by
  obtain ⟨i0, hi, hz0, hz1, hz2⟩ := info_parts infoInt
  have hb0 : Below w.heap.size w (w.alloc (.cells #[v] 26)) := by go_grown
  have he := hasStmt ss i v _ hl (reads3_below hv hb0)
  have H0 := heap_alloc_new w (.cells #[v] 26)
  have s0 : (w.alloc (.cells #[v] 26)).heap.size = w.heap.size + 1 := by simp
  unfold beforeAns
  cases hok : hasS ss i
  · rw [hok] at he
    rw [if_neg (by simp)]
    go_enter Try.func7, Try.ntmps7
    go_wp2_with (go_at_call 19; refine he.mono ?_; rintro e w2 ⟨rfl, b2⟩)
    go_ret
    exact ⟨_, rfl, nil_own _ _, hb0.trans (b2.mono hb0.size)⟩
  · rw [hok] at he
    rw [if_pos rfl]
    obtain ⟨hp, _⟩ := hasS_true hok
    obtain ⟨h1, h12, _⟩ := procOk_parts hp
    have h12' : (ss.length : Int) ≤ 12 := by omega
    clear hok
    go_enter Try.func7, Try.ntmps7
    go_wp2_with fail
    go_at_call 19
    refine he.mono ?_
    rintro e w2 ⟨rfl, b2⟩
    have s2 := b2.size
    have H2 : Hid _ := (b2.block w.heap.size (by omega)).trans H0
    have L2 := hb0.trans (b2.mono hb0.size)
    clear he
    obtain ⟨c0, f0⟩ := one_cell H2.out
    obtain ⟨ao, vc, hv0, _⟩ := id hv
    rw [hv0] at c0
    go_wp2_with fail
    clear c0 f0
    go_loopw [5, 14] (fun o j wr => ∃ (k : Nat), k ≤ ss.length ∧ j = .int .i64 k ∧
      wr.ownsRow (w.heap.size + 1) 2 1 o (befN ss i k).length (ints (befN ss i k)) ∧ Below w.heap.size w wr ∧ wr.heap[w.heap.size]? = some (.cells #[v] 26 (0, 0))) (fun _ j _ => ss.length - (intOf j).toNat)
    case atStart => exact ⟨0, Nat.zero_le _, rfl, nil_own _ _, L2, H2.out⟩
    case round =>
      obtain ⟨k, hk, rfl, hown, LR, HR⟩ := hrel
      obtain ⟨c0, f0⟩ := one_cell HR
      have hv' := reads3_below hv LR
      have hlen := befN_length ss i k
      have hsz := LR.size
      have hsz' : w.heap.size < wr.heap.size := (Array.getElem?_eq_some_iff.1 HR).1
      have HRR : Hid _ := HR
      clear HR
      by_cases hlt : k < ss.length
      · have hlt' : (k : Int) < (ss.length : Int) := by omega
        have hnx := nextsOf ss k v wr hlt h12 hv'
        have hst : befN ss i (k + 1) = befN ss i k ++ (if hasI (nextsS ss[k] k) i then [(k : Int)] else []) := by
          have : ss.getD k ⟨0, 0, 0⟩ = ss[k] := by simp [List.getD, hlt]
          rw [befN, this]
        have HS : Hid _ := hst
        clear hst
        have hnl := nextsS_length ss[k] k
        generalize nextsS ss[k] k = ns at *
        generalize befN ss i k = bs at *
        clear hv0
        obtain ⟨ao, vc, rfl, _⟩ := id hv
        go_wp2_with fail
        go_at_call 20
        refine hnx.mono ?_
        rintro e w3 ⟨u3, rfl, own3, b3⟩
        clear hnx
        have hh := sliceContains ns i _ w3 (by unfold maxLen; omega) (reads_own own3)
        go_wp2_with fail
        go_at_call 21
        refine hh.mono ?_
        rintro e w4 ⟨rfl, rfl⟩
        clear hh
        have hown4 := own_kept hown b3
        have L4 : Below w.heap.size w w3 := LR.trans (b3.mono hsz)
        have H4 : Hid _ := (b3.block w.heap.size hsz').trans HRR.out
        have sz4 := L4.size
        cases hq : hasI ns i
        · rw [hq] at HS
          have HP : Hid (befN ss i (k + 1) = bs) := HS.out.trans (by simp)
          clear hq
          go_wp2
          go_roundw
          case rel => exact ⟨k + 1, by omega, by go_num, by rw [HP.out]; exact hown4, L4, H4.out⟩
          case measure => simp [intOf]; omega
        · rw [hq] at HS
          have HP : Hid (befN ss i (k + 1) = bs ++ [(k : Int)]) := HS.out.trans (by simp)
          clear hq
          have B1 : Hid (Below w.heap.size w (w3.alloc (.cells #[.int .i64 (k : Int)] 2))) := L4.alloc L4.size _
          have HSZ : Hid (w.heap.size + 1 ≤ (w3.alloc (.cells #[.int .i64 (k : Int)] 2)).heap.size) := by
            show w.heap.size + 1 ≤ (w3.alloc (.cells #[.int .i64 (k : Int)] 2)).heap.size
            simp; omega
          have H5 : Hid ((w3.alloc (.cells #[.int .i64 (k : Int)] 2)).heap[w.heap.size]? = some (.cells #[.slice ao ss.length vc] 26 (0, 0))) := by
            show (w3.alloc (.cells #[.int .i64 (k : Int)] 2)).heap[w.heap.size]? = some (.cells #[.slice ao ss.length vc] 26 (0, 0))
            rw [old_block (by have := b3.size; omega)]; exact H4.out
          clear HS
          go_wp2_with (first
            | (at_builtin; refine wpList_append_own _ rfl (.tmp 22) (.tmp 24) 29 rfl (w.heap.size + 1) 2 i0 (.int .i64 0) 1 8 Try.underlying29 hi hz0 hz1 hz2 rfl (by decide) _ _ _ rfl (hown4.alloc _) ⟨w3.heap.size, 0, none⟩ 1 _ [.int .i64 (k : Int)] rfl rfl (cell_one w3 k) (ints_oneCell [(k : Int)]) (by unfold maxLen; omega) (by omega) HSZ.out ?_; intro v5 w5 own5 grow5 _; have L5 := below_app B1.out grow5 (fun q hq => by have := (hown4.lt q hq).1; omega))
            | go_in)
          have own6 : Hid (w5.ownsRow (w.heap.size + 1) 2 1 v5 (bs ++ [(k : Int)]).length (ints (bs ++ [(k : Int)]))) := by
            show w5.ownsRow (w.heap.size + 1) 2 1 v5 (bs ++ [(k : Int)]).length (ints (bs ++ [(k : Int)]))
            simpa [ints] using own5
          have H6 : Hid _ := (grow5.block w.heap.size (by simp; omega) (fun e => by have := (hown4.lt _ e.symm).1; omega)).trans H5.out
          go_roundw
          case rel => exact ⟨k + 1, by omega, by go_num, by rw [HP.out]; exact own6.out, L5, H6.out⟩
          case measure => simp [intOf]; omega
      · have hkk : k = ss.length := by omega
        subst hkk
        clear hv0
        obtain ⟨ao, vc, rfl, _⟩ := id hv
        go_wp2
        go_ret
        exact ⟨_, rfl, own_mono hown (by omega), LR⟩

end Go.Proofs.Ytklcpagideeedaa
