/-
  szProgram with its upper bound.
-/
import Derived.Test.YtmophdojojcpbaaProgs
namespace Go.Proofs.Ytmophdojojcpbaa
set_option maxRecDepth 100000
open Go.ChangeShapes Go.WideShapes Go.ChangeAt Go.RowKit
set_option linter.unusedVariables false
set_option maxHeartbeats 4000000

theorem szProcSR (ps : List (List Stm)) (v : Value) (w : World) (hl : ps.length ≤ maxLen) (hp : ∀ p ∈ ps, p.length ≤ maxLen) (hv : ReadsP w v ps) :
    Calls Try.prog 55 #[v, .int .i64 1048576] w fun e w' => ∃ r : Int, e = .returned (.int .i64 r) ∧ r ≤ 1048576 ∧ (0 ≤ r → ps.length ≤ 1048576 ∧ ∀ p ∈ ps, p.length ≤ 1048576) ∧ Below w.heap.size w w' := by
  have hl0 := hl
  unfold maxLen at hl
  obtain ⟨ao, cap, rfl, hc⟩ := hv
  by_cases h : (1048576 : Int) < (ps.length : Int)
  · have hx : (decide ((1048576 : Int) - (ps.length : Int) < 0)) = true := by simp; omega
    go_enter Try.func55, Try.ntmps55
    go_wp2
    go_ret
    exact ⟨-1, rfl, by omega, fun h => by omega, Below.refl _ _⟩
  have hx : (decide ((1048576 : Int) - (ps.length : Int) < 0)) = false := by simp; omega
  go_enter Try.func55, Try.ntmps55
  go_wp2
  go_loopw [1, 5] (fun l i wr => ∃ (r : Int) (k : Nat), 0 ≤ r ∧ r ≤ 1048576 ∧ k ≤ ps.length ∧ l = .int .i64 r ∧ i = .int .i64 k ∧ Below w.heap.size w wr ∧ ∀ p ∈ ps.take k, p.length ≤ 1048576) (fun _ i _ => ps.length - (intOf i).toNat)
  case atStart => exact ⟨1048576 - ps.length, 0, by omega, by omega, Nat.zero_le _, rfl, rfl, Below.refl _ _, by simp⟩
  case round =>
    obtain ⟨r, k, hr0, hr1, hk, rfl, rfl, hb, hall⟩ := hrel
    by_cases hlt : k < ps.length
    · obtain ⟨g, off, u0, rfl, p0, r0⟩ := hc k ps[k] (by simp [hlt])
      have pl := hp ps[k] (List.getElem_mem hlt)
      have p0 := (hb.cell (World.block_lt_of_cell? w _ p0)).trans p0
      have hlt' : (k : Int) < (ps.length : Int) := by omega
      obtain ⟨ua, uc, rfl, _⟩ := r0
      have hz := szProc ps[k].length ua uc r wr pl hr0 hr1
      have hst : ∀ p ∈ ps.take (k + 1), p ∈ ps.take k ∨ p = ps[k] := by
        intro p hp'
        rw [List.take_succ_eq_append_getElem hlt] at hp'
        rcases List.mem_append.1 hp' with h | h
        · exact .inl h
        · exact .inr (List.mem_singleton.1 h)
      have HA : Hid _ := hall
      have HT : Hid _ := hst
      clear hc hall hst
      generalize ps[k] = q at *
      by_cases hq : r < (q.length : Int)
      · rw [if_pos hq] at hz
        go_wp2_with (go_at_call 89; refine hz.mono ?_; rintro e w2 ⟨rfl, b2⟩)
        go_ret
        exact ⟨-1, rfl, by omega, fun h => by omega, hb.trans (b2.mono hb.size)⟩
      · rw [if_neg hq] at hz
        have hx2 : (decide (r - (q.length : Int) < 0)) = false := by simp; omega
        go_wp2_with (go_at_call 89; refine hz.mono ?_; rintro e w2 ⟨rfl, b2⟩)
        go_roundw
        case rel =>
          refine ⟨r - q.length, k + 1, by omega, by omega, by omega, rfl, by go_num, hb.trans (b2.mono hb.size), fun p hp' => ?_⟩
          rcases HT.out p hp' with h | rfl
          · exact HA.out p h
          · omega
        case measure => simp [intOf]; omega
    · have hkk : k = ps.length := by omega
      subst hkk
      go_wp2
      go_ret
      rw [List.take_length] at hall
      exact ⟨r, rfl, hr1, fun _ => ⟨by omega, hall⟩, hb⟩

theorem szProgramR (ps : List (List Stm)) (v : Value) (w : World) (hl : ps.length ≤ maxLen) (hp : ∀ p ∈ ps, p.length ≤ maxLen) (hv : ReadsP w v ps) :
    Calls Try.prog 18 #[.agg #[v], .int .i64 1048576] w fun e w' => ∃ r : Int, e = .returned (.int .i64 r) ∧ r ≤ 1048576 ∧ (0 ≤ r → ps.length ≤ 1048576 ∧ ∀ p ∈ ps, p.length ≤ 1048576) ∧ Below w.heap.size w w' := by
  have hb0 : Below w.heap.size w (w.alloc (.cells #[v] 41)) := by go_grown
  go_enter Try.func18, Try.ntmps18
  go_wp2_with fail
  go_at_call 55
  refine (szProcSR ps v _ hl hp (readsP_below hv hb0)).mono ?_
  rintro e w1 ⟨r, rfl, hr1, hr, b1⟩
  by_cases h0 : r < 0
  · have hx : (decide (r < 0)) = true := by simpa using h0
    go_wp2
    go_ret
    exact ⟨-1, rfl, by omega, fun h => by omega, hb0.trans (b1.mono hb0.size)⟩
  · have hx : (decide (r < 0)) = false := by simpa using h0
    have HR : Hid _ := hr
    clear hr
    go_wp2
    go_ret
    exact ⟨r, rfl, hr1, HR.out, hb0.trans (b1.mono hb0.size)⟩

end Go.Proofs.Ytmophdojojcpbaa
