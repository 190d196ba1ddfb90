/-
  Chapter 17: QueueOk, both sides.
-/
import Derived.Test.YtggglcjdnllnjaaGreatDoorQueM
namespace Go.Proofs.YtggglcjdnllnjaaGreatDoor
open Go.RowKit
set_option linter.unusedVariables false
set_option maxHeartbeats 4000000
set_option maxRecDepth 20000


theorem cannotWait (n : Int) (w : World) :
    Calls Tryz.prog 69 #[.int .i64 n] w fun e w' => e = .returned (.bool (!nwB n)) ∧ w = w' := by
  by_cases h1 : n < 1
  · have h1' : decide (n < 1) = true := by simpa using h1
    have hq : nwB n = false := by unfold nwB inB; rw [decide_eq_false (by omega)]; rfl
    rw [hq]
    go_enter Tryz.func69, Tryz.ntmps69
    go_wp2
    go_ret
    exact ⟨rfl, rfl⟩
  · have h1' : decide (n < 1) = false := by simpa using h1
    by_cases h2 : 1000000 < n
    · have h2' : decide (1000000 < n) = true := by simpa using h2
      have hq : nwB n = false := by unfold nwB inB; rw [decide_eq_false (show ¬ n ≤ 1000000 by omega)]; simp
      rw [hq]
      go_enter Tryz.func69, Tryz.ntmps69
      go_wp2
      go_ret
      exact ⟨rfl, rfl⟩
    · have h2' : decide (1000000 < n) = false := by simpa using h2
      have hq : nwB n = true := by unfold nwB inB; rw [decide_eq_true (show n ≤ 1000000 by omega), decide_eq_true (show 1 ≤ n by omega)]; rfl
      rw [hq]
      go_enter Tryz.func69, Tryz.ntmps69
      go_wp2
      go_ret
      exact ⟨rfl, rfl⟩

theorem indexWait (xs : List Int) (v : Value) (w : World) (hl : xs.length ≤ maxLen) (hv : Reads w v (ints xs)) :
    Calls Tryz.prog 86 #[v, .func (.func 69) #[] #[]] w fun e w' => (∃ r : Int, e = .returned (.int .i64 r) ∧ decide (0 ≤ r) = !xs.all nwB) ∧ w = w' := by
  unfold maxLen at hl
  obtain ⟨ao, cap, rfl, hc⟩ := hv
  rw [ints_length]
  go_enter Tryz.func86, Tryz.ntmps86
  go_wp2
  go_loopw [8] (fun i wr => ∃ k : Nat, k ≤ xs.length ∧ i = .int .i64 k ∧ w = wr ∧ (xs.take k).all nwB = true) (fun i _ => xs.length - (intOf i).toNat)
  case atStart => exact ⟨0, Nat.zero_le _, rfl, rfl, by simp⟩
  case round =>
    obtain ⟨k, hk, rfl, rfl, hb⟩ := hrel
    by_cases hlt : k < xs.length
    · have hlt' : (k : Int) < (xs.length : Int) := by omega
      obtain ⟨g, off, rfl, hg⟩ := hc k (.int .i64 xs[k]) (by simp [ints, hlt])
      have HT : Hid _ := all_takeQ (p := nwB) hlt hb
      have HN : Hid _ := all_notQ (p := nwB) hlt
      clear hc hb
      generalize xs[k] = x at *
      have hcw := cannotWait x w
      cases hx : nwB x with
      | false =>
        rw [hx] at hcw
        go_wp2_with fail
        go_at_call 69
        refine hcw.mono ?_
        rintro e w1 ⟨rfl, h⟩
        obtain rfl : w = w1 := h
        go_wp2
        go_ret
        exact ⟨⟨k, rfl, by rw [HN.out hx]; simp⟩, rfl⟩
      | true =>
        rw [hx] at hcw
        go_wp2_with fail
        go_at_call 69
        refine hcw.mono ?_
        rintro e w1 ⟨rfl, h⟩
        obtain rfl : w = w1 := h
        go_wp2
        go_roundw
        case rel => exact ⟨k + 1, by omega, by go_num, trivial, HT.out hx⟩
        case measure => simp [intOf]; omega
    · have hkk : k = xs.length := by omega
      subst hkk
      rw [List.take_length] at hb
      have HB : Hid _ := hb
      clear hb hc
      go_wp2
      go_ret
      exact ⟨⟨-1, rfl, by rw [HB.out]; rfl⟩, rfl⟩

theorem containsWait (xs : List Int) (v : Value) (w : World) (hl : xs.length ≤ maxLen) (hv : Reads w v (ints xs)) :
    Calls Tryz.prog 68 #[v, .func (.func 69) #[] #[]] w fun e w' => e = .returned (.bool (!xs.all nwB)) ∧ w = w' := by
  have hi := indexWait xs v w hl hv
  obtain ⟨ao, cap, rfl, hc⟩ := hv
  clear hc
  go_enter Tryz.func68, Tryz.ntmps68
  go_wp2_with fail
  go_at_call 86
  refine hi.mono ?_
  rintro e w1 ⟨⟨r, rfl, hr⟩, h⟩
  obtain rfl : w = w1 := h
  go_wp2
  go_ret
  exact ⟨rfl, rfl⟩

theorem isNoLine (xs : List Int) (v : Value) (w : World) (hl : xs.length ≤ maxLen) (hv : Reads w v (ints xs)) :
    Calls Tryz.prog 49 #[v] w fun e w' => e = .returned (.bool (!lnB xs)) ∧ w = w' := by
  have hi := containsWait xs v w hl hv
  unfold maxLen at hl
  obtain ⟨ao, cap, rfl, hc⟩ := hv
  clear hc
  rw [ints_length] at *
  by_cases h5 : xs.length ≤ 5
  · have h5' : decide (5 < (xs.length : Int)) = false := by simp; omega
    have hq : (!lnB xs) = !xs.all nwB := by unfold lnB; rw [decide_eq_true h5]; rfl
    rw [hq]
    go_enter Tryz.func49, Tryz.ntmps49
    go_wp2_with fail
    go_at_call 68
    refine hi.mono ?_
    rintro e w1 ⟨rfl, h⟩
    obtain rfl : w = w1 := h
    go_wp2
    go_ret
    exact ⟨rfl, rfl⟩
  · have h5' : decide (5 < (xs.length : Int)) = true := by simp; omega
    have hq : (!lnB xs) = true := by unfold lnB; rw [decide_eq_false h5]; rfl
    rw [hq]
    clear hi
    go_enter Tryz.func49, Tryz.ntmps49
    go_wp2
    go_ret
    exact ⟨rfl, rfl⟩

theorem indexLine (X : List (List Int)) (v : Value) (w : World) (hl : X.length ≤ maxLen) (hx : ∀ x ∈ X, x.length ≤ maxLen) (hv : ReadsSS w v X) :
    Calls Tryz.prog 67 #[v, .func (.func 49) #[] #[]] w fun e w' => (∃ r : Int, e = .returned (.int .i64 r) ∧ decide (0 ≤ r) = !X.all lnB) ∧ w = w' := by
  unfold maxLen at hl
  obtain ⟨ao, cap, rfl, hc⟩ := hv
  go_enter Tryz.func67, Tryz.ntmps67
  go_wp2
  go_loopw [8] (fun i wr => ∃ k : Nat, k ≤ X.length ∧ i = .int .i64 k ∧ w = wr ∧ (X.take k).all lnB = true) (fun i _ => X.length - (intOf i).toNat)
  case atStart => exact ⟨0, Nat.zero_le _, rfl, rfl, by simp⟩
  case round =>
    obtain ⟨k, hk, rfl, rfl, hb⟩ := hrel
    by_cases hlt : k < X.length
    · have hlt' : (k : Int) < (X.length : Int) := by omega
      obtain ⟨g, off, u, rfl, hg, ru⟩ := hc k X[k] (by simp [hlt])
      have HT : Hid _ := all_takeQ (p := lnB) hlt hb
      have HN : Hid _ := all_notQ (p := lnB) hlt
      have hcw := isNoLine X[k] u w (hx _ (List.getElem_mem hlt)) ru
      obtain ⟨ua, uc, rfl, _⟩ := ru
      clear hc hb
      generalize X[k] = x at *
      cases hxx : lnB x with
      | false =>
        rw [hxx] at hcw
        go_wp2_with fail
        go_at_call 49
        refine hcw.mono ?_
        rintro e w1 ⟨rfl, h⟩
        obtain rfl : w = w1 := h
        go_wp2
        go_ret
        exact ⟨⟨k, rfl, by rw [HN.out hxx]; simp⟩, rfl⟩
      | true =>
        rw [hxx] at hcw
        go_wp2_with fail
        go_at_call 49
        refine hcw.mono ?_
        rintro e w1 ⟨rfl, h⟩
        obtain rfl : w = w1 := h
        go_wp2
        go_roundw
        case rel => exact ⟨k + 1, by omega, by go_num, trivial, HT.out hxx⟩
        case measure => simp [intOf]; omega
    · have hkk : k = X.length := by omega
      subst hkk
      rw [List.take_length] at hb
      have HB : Hid _ := hb
      clear hb hc
      go_wp2
      go_ret
      exact ⟨⟨-1, rfl, by rw [HB.out]; rfl⟩, rfl⟩

theorem containsLine (X : List (List Int)) (v : Value) (w : World) (hl : X.length ≤ maxLen) (hx : ∀ x ∈ X, x.length ≤ maxLen) (hv : ReadsSS w v X) :
    Calls Tryz.prog 48 #[v, .func (.func 49) #[] #[]] w fun e w' => e = .returned (.bool (!X.all lnB)) ∧ w = w' := by
  have hi := indexLine X v w hl hx hv
  obtain ⟨ao, cap, rfl, hc⟩ := hv
  clear hc
  go_enter Tryz.func48, Tryz.ntmps48
  go_wp2_with fail
  go_at_call 67
  refine hi.mono ?_
  rintro e w1 ⟨⟨r, rfl, hr⟩, h⟩
  obtain rfl : w = w1 := h
  go_wp2
  go_ret
  exact ⟨rfl, rfl⟩

theorem implQueueOk (t : Int) (X : List (List Int)) (v : Value) (w : World) (hl : X.length ≤ maxLen) (hx : ∀ x ∈ X, x.length ≤ maxLen) (hv : ReadsSS w v X) :
    Calls Tryz.prog 31 #[.agg #[.int .i64 t, v]] w fun e w' => e = .returned (.bool (queB t X)) ∧ Below w.heap.size w w' := by
  obtain ⟨W0, hW0⟩ : ∃ W0, w.alloc (.cells #[.int .i64 t, v] 28) = W0 := ⟨_, rfl⟩
  have hb0 : Below w.heap.size w W0 := by rw [← hW0]; go_grown
  have B0 : W0.heap[w.heap.size]? = some (.cells #[.int .i64 t, v] 28 (0, 0)) := by rw [← hW0]; exact heap_alloc_new w _
  obtain ⟨c0, c1, _, _⟩ := two_cellsQ B0
  have hcl := containsLine X v W0 hl hx (readsSS_below hv hb0)
  unfold maxLen at hl
  obtain ⟨ao, cap, rfl, hc⟩ := hv
  clear hc B0
  cases ht : inB t 0 7 with
  | false =>
    have hq : queB t X = false := by unfold queB; rw [ht]; rfl
    rw [hq]
    go_enter Tryz.func31, Tryz.ntmps31
    go_wp2_with (go_at_call 28; refine (within _ _ _).mono ?_; rintro e w1 ⟨rfl, h⟩; obtain rfl : W0 = w1 := h; simp only [wiB_inQ, ht])
    go_ret
    exact ⟨rfl, hb0⟩
  | true =>
    by_cases h8 : X.length = 8
    · have h8' : ((X.length : Int) == 8) = true := by simp; omega
      have hq : queB t X = X.all lnB := by unfold queB; rw [ht, h8]; rfl
      rw [hq]
      clear h8 hq
      go_enter Tryz.func31, Tryz.ntmps31
      go_wp2_with (first
        | (go_at_call 28; refine (within _ _ _).mono ?_; rintro e w1 ⟨rfl, h⟩; obtain rfl : W0 = w1 := h; simp only [wiB_inQ, ht])
        | (go_at_call 48; refine hcl.mono ?_; rintro e w1 ⟨rfl, h⟩; obtain rfl : W0 = w1 := h))
      go_ret
      exact ⟨by simp, hb0⟩
    · have h8' : ((X.length : Int) == 8) = false := by simp; omega
      have hq : queB t X = false := by unfold queB; rw [decide_eq_false h8]; simp
      rw [hq]
      go_enter Tryz.func31, Tryz.ntmps31
      go_wp2_with (go_at_call 28; refine (within _ _ _).mono ?_; rintro e w1 ⟨rfl, h⟩; obtain rfl : W0 = w1 := h; simp only [wiB_inQ, ht])
      go_ret
      exact ⟨rfl, hb0⟩

end Go.Proofs.YtggglcjdnllnjaaGreatDoor
