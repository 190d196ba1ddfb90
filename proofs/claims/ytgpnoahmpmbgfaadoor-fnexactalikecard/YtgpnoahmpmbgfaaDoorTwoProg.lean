/-
  szProgram and markProgram that go on from another's number.
-/
import Derived.Test.YtgpnoahmpmbgfaaDoorMarkProg
import Derived.Test.YtgpnoahmpmbgfaaDoorProgs
namespace Go.Proofs.YtgpnoahmpmbgfaaDoor
open Go.RowKit
set_option linter.unusedVariables false
set_option maxHeartbeats 2000000

theorem szProcS2 (ps : List (List Stm)) (s0 : Int) (v : Value) (w : World) (hs0 : 0 ≤ s0) (hs1 : s0 ≤ 1048576) (hl : ps.length ≤ maxLen) (hp : ∀ p ∈ ps, p.length ≤ maxLen) (hv : ReadsP w v ps) :
    Calls Tryd.prog 19 #[v, .int .i64 s0] w fun e w' => ∃ r : Int, e = .returned (.int .i64 r) ∧ (0 ≤ r → ps.length ≤ 1048576 ∧ ∀ p ∈ ps, p.length ≤ 1048576) ∧ r ≤ 1048576 ∧ Below w.heap.size w w' := by
  have hl0 := hl
  unfold maxLen at hl
  obtain ⟨ao, cap, rfl, hc⟩ := hv
  by_cases h : s0 < (ps.length : Int)
  · have hx : (decide (s0 - (ps.length : Int) < 0)) = true := by simp; omega
    go_enter Tryd.func19, Tryd.ntmps19
    go_wp2
    go_ret
    exact ⟨-1, rfl, fun h => by omega, by omega, Below.refl _ _⟩
  have hx : (decide (s0 - (ps.length : Int) < 0)) = false := by simp; omega
  go_enter Tryd.func19, Tryd.ntmps19
  go_wp2
  go_loopw [1, 5] (fun l i wr => ∃ (r : Int) (k : Nat), 0 ≤ r ∧ r ≤ 1048576 ∧ k ≤ ps.length ∧ l = .int .i64 r ∧ i = .int .i64 k ∧ Below w.heap.size w wr ∧ ∀ p ∈ ps.take k, p.length ≤ 1048576) (fun _ i _ => ps.length - (intOf i).toNat)
  case atStart => exact ⟨s0 - ps.length, 0, by omega, by omega, Nat.zero_le _, rfl, rfl, Below.refl _ _, by simp⟩
  case round =>
    obtain ⟨r, k, hr0, hr1, hk, rfl, rfl, hb, hall⟩ := hrel
    by_cases hlt : k < ps.length
    · obtain ⟨g, off, u0, rfl, p0, r0⟩ := hc k ps[k] (by simp [hlt])
      have pl := hp ps[k] (List.getElem_mem hlt)
      have p0 := (hb.cell (World.block_lt_of_cell? w _ p0)).trans p0
      have hlt' : (k : Int) < (ps.length : Int) := by omega
      obtain ⟨ua, uc, rfl, _⟩ := r0
      have hz := szProc ps[k].length ua uc r wr pl hr0 hr1
      have hst : ∀ p ∈ ps.take (k + 1), p ∈ ps.take k ∨ p = ps[k] := by
        intro p hp'
        rw [List.take_succ_eq_append_getElem hlt] at hp'
        rcases List.mem_append.1 hp' with h | h
        · exact .inl h
        · exact .inr (List.mem_singleton.1 h)
      have HA : Hid _ := hall
      have HT : Hid _ := hst
      clear hc hall hst
      generalize ps[k] = q at *
      by_cases hq : r < (q.length : Int)
      · rw [if_pos hq] at hz
        go_wp2_with (go_at_call 37; refine hz.mono ?_; rintro e w2 ⟨rfl, b2⟩)
        go_ret
        exact ⟨-1, rfl, fun h => by omega, by omega, hb.trans (b2.mono hb.size)⟩
      · rw [if_neg hq] at hz
        have hx2 : (decide (r - (q.length : Int) < 0)) = false := by simp; omega
        go_wp2_with (go_at_call 37; refine hz.mono ?_; rintro e w2 ⟨rfl, b2⟩)
        go_roundw
        case rel =>
          refine ⟨r - q.length, k + 1, by omega, by omega, by omega, rfl, by go_num, hb.trans (b2.mono hb.size), fun p hp' => ?_⟩
          rcases HT.out p hp' with h | rfl
          · exact HA.out p h
          · omega
        case measure => simp [intOf]; omega
    · have hkk : k = ps.length := by omega
      subst hkk
      go_wp2
      go_ret
      rw [List.take_length] at hall
      exact ⟨r, rfl, fun _ => ⟨by omega, hall⟩, by omega, hb⟩

theorem szProgram2 (ps : List (List Stm)) (s0 : Int) (v : Value) (w : World) (hs0 : 0 ≤ s0) (hs1 : s0 ≤ 1048576) (hl : ps.length ≤ maxLen) (hp : ∀ p ∈ ps, p.length ≤ maxLen) (hv : ReadsP w v ps) :
    Calls Tryd.prog 6 #[.agg #[v], .int .i64 s0] w fun e w' => ∃ r : Int, e = .returned (.int .i64 r) ∧ (0 ≤ r → ps.length ≤ 1048576 ∧ ∀ p ∈ ps, p.length ≤ 1048576) ∧ r ≤ 1048576 ∧ Below w.heap.size w w' := by
  have hb0 : Below w.heap.size w (w.alloc (.cells #[v] 24)) := by go_grown
  go_enter Tryd.func6, Tryd.ntmps6
  go_wp2_with fail
  go_at_call 19
  refine (szProcS2 ps s0 v _ hs0 hs1 hl hp (readsP_below hv hb0)).mono ?_
  rintro e w1 ⟨r, rfl, hr, hr9, b1⟩
  by_cases h0 : r < 0
  · have hx : (decide (r < 0)) = true := by simpa using h0
    go_wp2
    go_ret
    exact ⟨-1, rfl, fun h => by omega, by omega, hb0.trans (b1.mono hb0.size)⟩
  · have hx : (decide (r < 0)) = false := by simpa using h0
    have HR : Hid _ := hr
    clear hr
    go_wp2
    go_ret
    exact ⟨r, rfl, HR.out, hr9, hb0.trans (b1.mono hb0.size)⟩

theorem markProcS2 (ps : List (List Stm)) (k0 : Int) (v : Value) (base top : Nat) (w : World) (hk0 : 1 ≤ k0) (hk1 : k0 ≤ 4000000000000) (hl : ps.length ≤ 1048576) (hp : ∀ p ∈ ps, p.length ≤ 1048576) (hv : OwnP w base top v ps) :
    Calls Tryd.prog 36 #[v, .int .i64 k0] w fun e w' => ∃ r : Int, e = .returned (.int .i64 r) ∧ (1 ≤ r ∧ r ≤ 8000000000000) ∧ Marks base top w w' := by
  obtain ⟨us, ho, ht, hu⟩ := hv
  have hul := ho.1
  simp only [Nat.mul_one] at hul
  have room : ∀ (j : Nat) (h : j < ps.length) (h' : j < us.length), Room base top w us[j] ps[j].length := fun j h h' =>
    room_own (hu j us[j] ps[j] (by simp [h']) (by simp [h])).1 (hu j us[j] ps[j] (by simp [h']) (by simp [h])).2
  have hcell : ∀ (g j : Nat) (cap : Nat), v = .slice (some ⟨g, 0, none⟩) ps.length cap → (h : j < us.length) → w.cell? ⟨g, j, none⟩ = some us[j] := by
    rintro g j cap rfl h
    rw [ho.cellAt j (by omega)]
    simp [h]
  rcases ho.2 with ⟨rfl, h0⟩ | ⟨g, cap, cur, rfl, hbg, hg, _⟩
  · have hx : ps = [] := List.eq_nil_of_length_eq_zero h0
    subst hx
    clear hcell room
    go_enter Tryd.func36, Tryd.ntmps36
    go_wp2
    refine wp_loop_rounds 1 ?_
    rw [rounds_succ]
    go_wp2
    go_ret
    exact ⟨k0, rfl, by omega, Marks.refl _ _ _⟩
  · have hcell := fun j h => hcell g j cap rfl h
    clear hu ho
    have HG : Hid _ := hg
    clear hg
    go_enter Tryd.func36, Tryd.ntmps36
    go_wp2
    go_loopw [1, 5] (fun q i wr => ∃ (j : Nat) (r : Int), j ≤ ps.length ∧ i = .int .i64 j ∧ q = .int .i64 r ∧ 1 ≤ r ∧ r ≤ k0 + 3145728 * j ∧ Marks base top w wr) (fun _ i _ => ps.length - (intOf i).toNat)
    case atStart => exact ⟨0, k0, Nat.zero_le _, rfl, rfl, by omega, by omega, Marks.refl _ _ _⟩
    case round =>
      obtain ⟨j, r, hj, rfl, rfl, hr0, hr1, hm⟩ := hrel
      by_cases hlt : j < ps.length
      · have hlt' : (j : Int) < (ps.length : Int) := by omega
        have hju : j < us.length := by omega
        have pl := hp ps[j] (List.getElem_mem hlt)
        have hrm := (room j hlt hju).kept hm
        have hc1 := hcell j hju
        have hgr := hm.other g _ _ _ HG.out (by decide)
        have hc2 : wr.cell? ⟨g, j, none⟩ = some us[j] := by
          rw [← hc1]
          exact World.cell?_of_block (hgr.trans HG.out.symm)
        clear hc1 hgr room hcell
        have hmk := markStmtS ps[j].length us[j] base top r wr pl (by omega) (by omega) hrm
        generalize ps[j].length = n at *
        generalize us[j] = u at *
        obtain ⟨ua, un, uc, rfl⟩ : ∃ a m c, u = .slice a m c := by
          rcases hrm with ⟨rfl, _⟩ | ⟨_, _, _, rfl, _⟩
          · exact ⟨_, _, _, rfl⟩
          · exact ⟨_, _, _, rfl⟩
        clear hrm
        go_wp2_with fail
        go_at_call 55
        refine hmk.mono ?_
        rintro e w2 ⟨rfl, m2⟩
        clear hmk
        go_wp2
        go_roundw
        case rel => exact ⟨j + 1, r + 3 * n, by omega, by go_num, rfl, by omega, by omega, hm.trans m2⟩
        case measure => simp [intOf]; omega
      · have hjj : j = ps.length := by omega
        subst hjj
        clear room hcell
        go_wp2
        go_ret
        exact ⟨r, rfl, ⟨hr0, by omega⟩, hm⟩

theorem markProgram2 (ps : List (List Stm)) (k0 : Int) (v : Value) (base top : Nat) (w : World) (hk0 : 1 ≤ k0) (hk1 : k0 ≤ 4000000000000) (hl : ps.length ≤ 1048576) (hp : ∀ p ∈ ps, p.length ≤ 1048576) (hv : OwnP w base top v ps) :
    Calls Tryd.prog 16 #[.agg #[v], .int .i64 k0] w fun e w' => ∃ r : Int, e = .returned (.int .i64 r) ∧ (1 ≤ r ∧ r ≤ 8000000000000) ∧ Marks base top w w' := by
  have hb0 : Below w.heap.size w (w.alloc (.cells #[v] 29)) := by go_grown
  have hm := markProcS2 ps k0 v base top _ hk0 hk1 hl hp (ownP_kept hv hb0)
  go_enter Tryd.func16, Tryd.ntmps16
  go_wp2_with fail
  go_at_call 36
  refine hm.mono ?_
  rintro e w1 ⟨r, rfl, hr, m1⟩
  go_wp2
  go_ret
  exact ⟨r, rfl, hr, ((Marks.refl base top w).alloc _).trans m1⟩


end Go.Proofs.YtgpnoahmpmbgfaaDoor
