/-
  Chapter 17: QueueOk, both sides.
-/
import Derived.Test.YtjlpjjddnkceoaaQueM
namespace Go.Proofs.Ytjlpjjddnkceoaa
open Go.RowKit
set_option linter.unusedVariables false
set_option maxHeartbeats 4000000
set_option maxRecDepth 20000

theorem specQueueOk (t : Int) (X : List (List Int)) (v : Value) (w : World) (hl : X.length ≤ maxLen) (hx : ∀ x ∈ X, x.length ≤ maxLen) (hv : ReadsSS w v X) :
    Calls Try.prog 11 #[.agg #[.int .i64 t, v]] w fun e w' => e = .returned (.bool (queB t X)) ∧ Below w.heap.size w w' := by
  unfold maxLen at hl
  obtain ⟨ao, cap, rfl, hc⟩ := hv
  obtain ⟨W0, hW0⟩ : ∃ W0, w.alloc (.cells #[.int .i64 t, .slice ao X.length cap] 26) = W0 := ⟨_, rfl⟩
  have hb0 : Below w.heap.size w W0 := by rw [← hW0]; go_grown
  have B0 : W0.heap[w.heap.size]? = some (.cells #[.int .i64 t, .slice ao X.length cap] 26 (0, 0)) := by rw [← hW0]; exact heap_alloc_new w _
  obtain ⟨c0, c1, _, _⟩ := two_cellsQ B0
  have hcc : ∀ j xs, X[j]? = some xs → ∃ g off u, ao = some ⟨g, off, none⟩ ∧ W0.cell? ⟨g, off + j, none⟩ = some u ∧ Reads W0 u (ints xs) := by
    intro j xs h
    obtain ⟨g, off, u, e, h1, h2⟩ := hc j xs h
    exact ⟨g, off, u, e, (hb0.cell (World.block_lt_of_cell? w _ h1)).trans h1, reads_below h2 hb0⟩
  clear hc B0
  cases ht : inB t 0 7 with
  | false =>
    have hq : queB t X = false := by unfold queB; rw [ht]; rfl
    rw [hq]
    go_enter Try.func11, Try.ntmps11
    go_wp2_with (go_at_call 30; refine (l1In _ _ _ _).mono ?_; rintro e w1 ⟨rfl, h⟩; obtain rfl : W0 = w1 := h; simp only [ht])
    go_ret
    exact ⟨rfl, hb0⟩
  | true =>
    by_cases h8 : X.length = 8
    · have h8' : ((X.length : Int) != 8) = false := by simp; omega
      have hq : queB t X = X.all lnB := by unfold queB; rw [ht, h8]; rfl
      rw [hq]
      have h8a : X.length ≤ 8 := by omega
      have h8b : 8 ≤ X.length := by omega
      clear h8 hq
      go_enter Try.func11, Try.ntmps11
      go_wp2_with (go_at_call 30; refine (l1In _ _ _ _).mono ?_; rintro e w1 ⟨rfl, h⟩; obtain rfl : W0 = w1 := h; simp only [ht])
      go_loopw [3] (fun i wr => ∃ k : Nat, k ≤ X.length ∧ i = .int .i64 k ∧ W0 = wr ∧ (X.take k).all lnB = true) (fun i _ => X.length - (intOf i).toNat)
      case atStart => exact ⟨0, Nat.zero_le _, rfl, rfl, by simp⟩
      case round =>
        obtain ⟨k, hk, rfl, rfl, hb⟩ := hrel
        by_cases hlt : k < X.length
        · have hlt8 : (k : Int) < 8 := by omega
          have hlt' : (k : Int) < (X.length : Int) := by omega
          obtain ⟨g, off, u, rfl, cu, ru⟩ := hcc k X[k] (by simp [hlt])
          obtain ⟨a5, c5, rfl, hcx⟩ := ru
          rw [ints_length] at cu
          have hT := all_takeQ (p := lnB) hlt hb
          have hN := all_notQ (p := lnB) hlt
          have hxl := hx X[k] (List.getElem_mem hlt)
          unfold maxLen at hxl
          have HT : Hid _ := hT
          have HN : Hid _ := hN
          clear hT hN hb hcc
          generalize X[k] = x at *
          by_cases h5 : x.length ≤ 5
          · have h5' : decide (5 < (x.length : Int)) = false := by simp; omega
            go_wp2_with fail
            go_loopw [4] (fun i wr => ∃ j : Nat, j ≤ x.length ∧ i = .int .i64 j ∧ W0 = wr ∧ (x.take j).all nwB = true) (fun i _ => x.length - (intOf i).toNat)
            case atStart => exact ⟨0, Nat.zero_le _, rfl, rfl, by simp⟩
            case round =>
              obtain ⟨j, hj, rfl, rfl, hbj⟩ := hrel
              by_cases hjl : j < x.length
              · have hjl' : (j : Int) < (x.length : Int) := by omega
                obtain ⟨g5, o5, rfl, hg5⟩ := hcx j (.int .i64 x[j]) (by simp [ints, hjl])
                have hT2 := all_takeQ (p := nwB) hjl hbj
                have hN2 := all_notQ (p := nwB) hjl
                have HT2 : Hid _ := hT2
                have HN2 : Hid _ := hN2
                clear hT2 hN2 hbj hcx
                generalize x[j] = y at *
                cases hy : inB y 1 1000000 with
                | false =>
                  go_wp2_with (go_at_call 30; refine (l1In _ _ _ _).mono ?_; rintro e w1 ⟨rfl, h⟩; obtain rfl : W0 = w1 := h; simp only [hy])
                  go_ret
                  exact ⟨by rw [HN.out (by unfold lnB; rw [HN2.out hy, Bool.and_false])]; rfl, hb0⟩
                | true =>
                  go_wp2_with (go_at_call 30; refine (l1In _ _ _ _).mono ?_; rintro e w1 ⟨rfl, h⟩; obtain rfl : W0 = w1 := h; simp only [hy])
                  go_roundw
                  case rel => exact ⟨j + 1, by omega, by go_num, trivial, HT2.out hy⟩
                  case measure => simp [intOf]; omega
              · have hjj : j = x.length := by omega
                subst hjj
                rw [List.take_length] at hbj
                have hln : lnB x = true := by unfold lnB; rw [hbj]; simpa using h5
                have HTT : Hid ((X.take (k + 1)).all lnB = true) := HT.out hln
                clear hbj hln
                go_wp2
                go_roundw
                case rel => exact ⟨k + 1, by omega, by go_num, trivial, HTT.out⟩
                case measure => simp [intOf]; omega
          · have h5' : decide (5 < (x.length : Int)) = true := by simp; omega
            go_wp2
            go_ret
            exact ⟨by rw [HN.out (by unfold lnB; rw [decide_eq_false h5]; rfl)]; rfl, hb0⟩
        · have hkk : k = X.length := by omega
          rw [hkk, List.take_length] at hb
          have hn8 : ¬ (k : Int) < 8 := by omega
          have HB : Hid _ := hb
          clear hb hcc
          go_wp2
          go_ret
          exact ⟨by rw [HB.out]; rfl, hb0⟩
    · have h8' : ((X.length : Int) != 8) = true := by simp; omega
      have hq : queB t X = false := by unfold queB; rw [decide_eq_false h8]; simp
      rw [hq]
      go_enter Try.func11, Try.ntmps11
      go_wp2_with (go_at_call 30; refine (l1In _ _ _ _).mono ?_; rintro e w1 ⟨rfl, h⟩; obtain rfl : W0 = w1 := h; simp only [ht])
      go_ret
      exact ⟨rfl, hb0⟩

theorem cannotWait (n : Int) (w : World) :
    Calls Try.prog 35 #[.int .i64 n] w fun e w' => e = .returned (.bool (!nwB n)) ∧ w = w' := by
  by_cases h1 : n < 1
  · have h1' : decide (n < 1) = true := by simpa using h1
    have hq : nwB n = false := by unfold nwB inB; rw [decide_eq_false (by omega)]; rfl
    rw [hq]
    go_enter Try.func35, Try.ntmps35
    go_wp2
    go_ret
    exact ⟨rfl, rfl⟩
  · have h1' : decide (n < 1) = false := by simpa using h1
    by_cases h2 : 1000000 < n
    · have h2' : decide (1000000 < n) = true := by simpa using h2
      have hq : nwB n = false := by unfold nwB inB; rw [decide_eq_false (show ¬ n ≤ 1000000 by omega)]; simp
      rw [hq]
      go_enter Try.func35, Try.ntmps35
      go_wp2
      go_ret
      exact ⟨rfl, rfl⟩
    · have h2' : decide (1000000 < n) = false := by simpa using h2
      have hq : nwB n = true := by unfold nwB inB; rw [decide_eq_true (show n ≤ 1000000 by omega), decide_eq_true (show 1 ≤ n by omega)]; rfl
      rw [hq]
      go_enter Try.func35, Try.ntmps35
      go_wp2
      go_ret
      exact ⟨rfl, rfl⟩

theorem indexWait (xs : List Int) (v : Value) (w : World) (hl : xs.length ≤ maxLen) (hv : Reads w v (ints xs)) :
    Calls Try.prog 39 #[v, .func (.func 35) #[] #[]] w fun e w' => (∃ r : Int, e = .returned (.int .i64 r) ∧ decide (0 ≤ r) = !xs.all nwB) ∧ w = w' := by
  unfold maxLen at hl
  obtain ⟨ao, cap, rfl, hc⟩ := hv
  rw [ints_length]
  go_enter Try.func39, Try.ntmps39
  go_wp2
  go_loopw [8] (fun i wr => ∃ k : Nat, k ≤ xs.length ∧ i = .int .i64 k ∧ w = wr ∧ (xs.take k).all nwB = true) (fun i _ => xs.length - (intOf i).toNat)
  case atStart => exact ⟨0, Nat.zero_le _, rfl, rfl, by simp⟩
  case round =>
    obtain ⟨k, hk, rfl, rfl, hb⟩ := hrel
    by_cases hlt : k < xs.length
    · have hlt' : (k : Int) < (xs.length : Int) := by omega
      obtain ⟨g, off, rfl, hg⟩ := hc k (.int .i64 xs[k]) (by simp [ints, hlt])
      have HT : Hid _ := all_takeQ (p := nwB) hlt hb
      have HN : Hid _ := all_notQ (p := nwB) hlt
      clear hc hb
      generalize xs[k] = x at *
      have hcw := cannotWait x w
      cases hx : nwB x with
      | false =>
        rw [hx] at hcw
        go_wp2_with fail
        go_at_call 35
        refine hcw.mono ?_
        rintro e w1 ⟨rfl, h⟩
        obtain rfl : w = w1 := h
        go_wp2
        go_ret
        exact ⟨⟨k, rfl, by rw [HN.out hx]; simp⟩, rfl⟩
      | true =>
        rw [hx] at hcw
        go_wp2_with fail
        go_at_call 35
        refine hcw.mono ?_
        rintro e w1 ⟨rfl, h⟩
        obtain rfl : w = w1 := h
        go_wp2
        go_roundw
        case rel => exact ⟨k + 1, by omega, by go_num, trivial, HT.out hx⟩
        case measure => simp [intOf]; omega
    · have hkk : k = xs.length := by omega
      subst hkk
      rw [List.take_length] at hb
      have HB : Hid _ := hb
      clear hb hc
      go_wp2
      go_ret
      exact ⟨⟨-1, rfl, by rw [HB.out]; rfl⟩, rfl⟩

theorem containsWait (xs : List Int) (v : Value) (w : World) (hl : xs.length ≤ maxLen) (hv : Reads w v (ints xs)) :
    Calls Try.prog 37 #[v, .func (.func 35) #[] #[]] w fun e w' => e = .returned (.bool (!xs.all nwB)) ∧ w = w' := by
  have hi := indexWait xs v w hl hv
  obtain ⟨ao, cap, rfl, hc⟩ := hv
  clear hc
  go_enter Try.func37, Try.ntmps37
  go_wp2_with fail
  go_at_call 39
  refine hi.mono ?_
  rintro e w1 ⟨⟨r, rfl, hr⟩, h⟩
  obtain rfl : w = w1 := h
  go_wp2
  go_ret
  exact ⟨rfl, rfl⟩

theorem isNoLine (xs : List Int) (v : Value) (w : World) (hl : xs.length ≤ maxLen) (hv : Reads w v (ints xs)) :
    Calls Try.prog 29 #[v] w fun e w' => e = .returned (.bool (!lnB xs)) ∧ w = w' := by
  have hi := containsWait xs v w hl hv
  unfold maxLen at hl
  obtain ⟨ao, cap, rfl, hc⟩ := hv
  clear hc
  rw [ints_length] at *
  by_cases h5 : xs.length ≤ 5
  · have h5' : decide (5 < (xs.length : Int)) = false := by simp; omega
    have hq : (!lnB xs) = !xs.all nwB := by unfold lnB; rw [decide_eq_true h5]; rfl
    rw [hq]
    go_enter Try.func29, Try.ntmps29
    go_wp2_with fail
    go_at_call 37
    refine hi.mono ?_
    rintro e w1 ⟨rfl, h⟩
    obtain rfl : w = w1 := h
    go_wp2
    go_ret
    exact ⟨rfl, rfl⟩
  · have h5' : decide (5 < (xs.length : Int)) = true := by simp; omega
    have hq : (!lnB xs) = true := by unfold lnB; rw [decide_eq_false h5]; rfl
    rw [hq]
    clear hi
    go_enter Try.func29, Try.ntmps29
    go_wp2
    go_ret
    exact ⟨rfl, rfl⟩

theorem indexLine (X : List (List Int)) (v : Value) (w : World) (hl : X.length ≤ maxLen) (hx : ∀ x ∈ X, x.length ≤ maxLen) (hv : ReadsSS w v X) :
    Calls Try.prog 36 #[v, .func (.func 29) #[] #[]] w fun e w' => (∃ r : Int, e = .returned (.int .i64 r) ∧ decide (0 ≤ r) = !X.all lnB) ∧ w = w' := by
  unfold maxLen at hl
  obtain ⟨ao, cap, rfl, hc⟩ := hv
  go_enter Try.func36, Try.ntmps36
  go_wp2
  go_loopw [8] (fun i wr => ∃ k : Nat, k ≤ X.length ∧ i = .int .i64 k ∧ w = wr ∧ (X.take k).all lnB = true) (fun i _ => X.length - (intOf i).toNat)
  case atStart => exact ⟨0, Nat.zero_le _, rfl, rfl, by simp⟩
  case round =>
    obtain ⟨k, hk, rfl, rfl, hb⟩ := hrel
    by_cases hlt : k < X.length
    · have hlt' : (k : Int) < (X.length : Int) := by omega
      obtain ⟨g, off, u, rfl, hg, ru⟩ := hc k X[k] (by simp [hlt])
      have HT : Hid _ := all_takeQ (p := lnB) hlt hb
      have HN : Hid _ := all_notQ (p := lnB) hlt
      have hcw := isNoLine X[k] u w (hx _ (List.getElem_mem hlt)) ru
      obtain ⟨ua, uc, rfl, _⟩ := ru
      clear hc hb
      generalize X[k] = x at *
      cases hxx : lnB x with
      | false =>
        rw [hxx] at hcw
        go_wp2_with fail
        go_at_call 29
        refine hcw.mono ?_
        rintro e w1 ⟨rfl, h⟩
        obtain rfl : w = w1 := h
        go_wp2
        go_ret
        exact ⟨⟨k, rfl, by rw [HN.out hxx]; simp⟩, rfl⟩
      | true =>
        rw [hxx] at hcw
        go_wp2_with fail
        go_at_call 29
        refine hcw.mono ?_
        rintro e w1 ⟨rfl, h⟩
        obtain rfl : w = w1 := h
        go_wp2
        go_roundw
        case rel => exact ⟨k + 1, by omega, by go_num, trivial, HT.out hxx⟩
        case measure => simp [intOf]; omega
    · have hkk : k = X.length := by omega
      subst hkk
      rw [List.take_length] at hb
      have HB : Hid _ := hb
      clear hb hc
      go_wp2
      go_ret
      exact ⟨⟨-1, rfl, by rw [HB.out]; rfl⟩, rfl⟩

theorem containsLine (X : List (List Int)) (v : Value) (w : World) (hl : X.length ≤ maxLen) (hx : ∀ x ∈ X, x.length ≤ maxLen) (hv : ReadsSS w v X) :
    Calls Try.prog 28 #[v, .func (.func 29) #[] #[]] w fun e w' => e = .returned (.bool (!X.all lnB)) ∧ w = w' := by
  have hi := indexLine X v w hl hx hv
  obtain ⟨ao, cap, rfl, hc⟩ := hv
  clear hc
  go_enter Try.func28, Try.ntmps28
  go_wp2_with fail
  go_at_call 36
  refine hi.mono ?_
  rintro e w1 ⟨⟨r, rfl, hr⟩, h⟩
  obtain rfl : w = w1 := h
  go_wp2
  go_ret
  exact ⟨rfl, rfl⟩

theorem implQueueOk (t : Int) (X : List (List Int)) (v : Value) (w : World) (hl : X.length ≤ maxLen) (hx : ∀ x ∈ X, x.length ≤ maxLen) (hv : ReadsSS w v X) :
    Calls Try.prog 10 #[.agg #[.int .i64 t, v]] w fun e w' => e = .returned (.bool (queB t X)) ∧ Below w.heap.size w w' := by
  obtain ⟨W0, hW0⟩ : ∃ W0, w.alloc (.cells #[.int .i64 t, v] 26) = W0 := ⟨_, rfl⟩
  have hb0 : Below w.heap.size w W0 := by rw [← hW0]; go_grown
  have B0 : W0.heap[w.heap.size]? = some (.cells #[.int .i64 t, v] 26 (0, 0)) := by rw [← hW0]; exact heap_alloc_new w _
  obtain ⟨c0, c1, _, _⟩ := two_cellsQ B0
  have hcl := containsLine X v W0 hl hx (readsSS_below hv hb0)
  unfold maxLen at hl
  obtain ⟨ao, cap, rfl, hc⟩ := hv
  clear hc B0
  cases ht : inB t 0 7 with
  | false =>
    have hq : queB t X = false := by unfold queB; rw [ht]; rfl
    rw [hq]
    go_enter Try.func10, Try.ntmps10
    go_wp2_with (go_at_call 27; refine (within _ _ _).mono ?_; rintro e w1 ⟨rfl, h⟩; obtain rfl : W0 = w1 := h; simp only [wiB_inQ, ht])
    go_ret
    exact ⟨rfl, hb0⟩
  | true =>
    by_cases h8 : X.length = 8
    · have h8' : ((X.length : Int) == 8) = true := by simp; omega
      have hq : queB t X = X.all lnB := by unfold queB; rw [ht, h8]; rfl
      rw [hq]
      clear h8 hq
      go_enter Try.func10, Try.ntmps10
      go_wp2_with (first
        | (go_at_call 27; refine (within _ _ _).mono ?_; rintro e w1 ⟨rfl, h⟩; obtain rfl : W0 = w1 := h; simp only [wiB_inQ, ht])
        | (go_at_call 28; refine hcl.mono ?_; rintro e w1 ⟨rfl, h⟩; obtain rfl : W0 = w1 := h))
      go_ret
      exact ⟨by simp, hb0⟩
    · have h8' : ((X.length : Int) == 8) = false := by simp; omega
      have hq : queB t X = false := by unfold queB; rw [decide_eq_false h8]; simp
      rw [hq]
      go_enter Try.func10, Try.ntmps10
      go_wp2_with (go_at_call 27; refine (within _ _ _).mono ?_; rintro e w1 ⟨rfl, h⟩; obtain rfl : W0 = w1 := h; simp only [wiB_inQ, ht])
      go_ret
      exact ⟨rfl, hb0⟩

end Go.Proofs.Ytjlpjjddnkceoaa
