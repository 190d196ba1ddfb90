/-
  spec.Size, impl.Size.
-/
import Derived.Test.YtmloeldgeegddaaProgOk
namespace Go.Proofs.Ytmloeldgeegddaa
open Go.RowKit
set_option linter.unusedVariables false
set_option maxHeartbeats 1000000

def sumLen : List (List Stm) → Nat
  | [] => 0
  | p :: ps => p.length + sumLen ps

theorem sumLen_append : ∀ a b : List (List Stm), sumLen (a ++ b) = sumLen a + sumLen b
  | [], b => by simp [sumLen]
  | p :: a, b => by simp [sumLen, sumLen_append a b]; omega

theorem sumLen_take (ps : List (List Stm)) (k : Nat) (h : k < ps.length) : sumLen (ps.take (k + 1)) = sumLen (ps.take k) + ps[k].length := by
  rw [List.take_succ_eq_append_getElem h, sumLen_append]
  simp [sumLen]

/-- What both answer: how many statements. -/
def sizeOf3 (ps : List (List Stm)) : Int := if programOk ps then (sumLen ps : Int) else -1

theorem programOk_len {ps : List (List Stm)} (h : programOk ps = true) : ps.length ≤ 4 ∧ 1 ≤ ps.length ∧ ∀ p ∈ ps, procOk p = true ∧ p.all (callOk ps.length) = true := by
  unfold programOk at h
  simp only [Bool.and_eq_true, decide_eq_true_eq] at h
  refine ⟨h.1.2, h.1.1, fun p hp => ?_⟩
  have := List.all_eq_true.1 h.2 p hp
  unfold partOk at this
  simpa [Bool.and_eq_true] using this

theorem procOk_len {p : List Stm} (h : procOk p = true) : p.length ≤ 12 := by
  unfold procOk at h
  simp only [Bool.and_eq_true, decide_eq_true_eq] at h
  exact h.1.1.2

theorem specSize (ps : List (List Stm)) (v : Value) (w : World) (hl : ps.length ≤ maxLen) (hp : ∀ p ∈ ps, p.length ≤ maxLen) (hv : ReadsP w v ps) :
    Calls Try.prog 21 #[.agg #[v]] w fun e w' => e = .returned (.int .i64 (sizeOf3 ps)) ∧ Below w.heap.size w w' := by
  have hb0 : Below w.heap.size w (w.alloc (.cells #[v] 26)) := by go_grown
  have he := specProgramOk ps v _ hl hp (readsP_below hv hb0)
  have H0 := heap_alloc_new w (.cells #[v] 26)
  have s0 : (w.alloc (.cells #[v] 26)).heap.size = w.heap.size + 1 := by simp
  unfold sizeOf3
  cases hok : programOk ps
  · rw [hok] at he
    clear hv
    go_enter Try.func21, Try.ntmps21
    go_wp2_with (go_at_call 13; refine he.mono ?_; rintro e w2 ⟨rfl, b2⟩)
    go_ret
    exact ⟨rfl, hb0.trans (b2.mono hb0.size)⟩
  rw [hok] at he
  have HOK : Hid _ := hok
  clear hok
  rw [if_pos rfl]
  go_enter Try.func21, Try.ntmps21
  go_wp2_with fail
  go_at_call 13
  refine he.mono ?_
  rintro e w2 ⟨rfl, b2⟩
  have hb2 : Below w.heap.size w w2 := hb0.trans (b2.mono hb0.size)
  obtain ⟨c2, f2⟩ := one_cell ((b2.block w.heap.size (by omega)).trans H0)
  obtain ⟨ao, cap, rfl, hc⟩ := hv
  obtain ⟨l4, _, hpr⟩ := programOk_len HOK.out
  clear he
  go_wp2
  go_loopw [3, 4] (fun n i wr => ∃ k : Nat, k ≤ ps.length ∧ i = .int .i64 k ∧ n = .int .i64 (sumLen (ps.take k)) ∧ sumLen (ps.take k) ≤ 12 * k ∧ w2 = wr) (fun _ i _ => ps.length - (intOf i).toNat)
  case atStart => exact ⟨0, Nat.zero_le _, rfl, rfl, by simp [sumLen], rfl⟩
  case round =>
    obtain ⟨k, hk, rfl, rfl, hs, rfl⟩ := hrel
    by_cases hlt : k < ps.length
    · have hlt' : (k : Int) < (ps.length : Int) := by omega
      obtain ⟨g, off, u, rfl, p0, r0⟩ := hc k ps[k] (by simp [hlt])
      have p0 := (hb2.cell (World.block_lt_of_cell? w _ p0)).trans p0
      have l12 := procOk_len (hpr ps[k] (List.getElem_mem hlt)).1
      have HT : Hid _ := sumLen_take ps k hlt
      obtain ⟨ua, uc, rfl, _⟩ := r0
      clear hc hpr
      generalize ps[k].length = q at *
      generalize sumLen (ps.take k) = t at *
      have t1 : (t : Int) + (q : Int) ≤ 1000 := by omega
      go_wp2
      go_roundw
      case rel => exact ⟨k + 1, by omega, by go_num, by rw [HT.out]; go_num, by rw [HT.out]; omega, by trivial⟩
      case measure => simp [intOf]; omega
    · have hkk : k = ps.length := by omega
      subst hkk
      go_wp2
      go_ret
      exact ⟨by rw [List.take_length]; rfl, hb2⟩

theorem implSize (ps : List (List Stm)) (v : Value) (w : World) (hl : ps.length ≤ maxLen) (hp : ∀ p ∈ ps, p.length ≤ maxLen) (hv : ReadsP w v ps) :
    Calls Try.prog 20 #[.agg #[v]] w fun e w' => e = .returned (.int .i64 (sizeOf3 ps)) ∧ Below w.heap.size w w' := by
  have hb0 : Below w.heap.size w (w.alloc (.cells #[v] 26)) := by go_grown
  have he := implProgramOk ps v _ hl hp (readsP_below hv hb0)
  have H0 := heap_alloc_new w (.cells #[v] 26)
  have s0 : (w.alloc (.cells #[v] 26)).heap.size = w.heap.size + 1 := by simp
  unfold sizeOf3
  cases hok : programOk ps
  · rw [hok] at he
    clear hv
    go_enter Try.func20, Try.ntmps20
    go_wp2_with (go_at_call 12; refine he.mono ?_; rintro e w2 ⟨rfl, b2⟩)
    go_ret
    exact ⟨rfl, hb0.trans (b2.mono hb0.size)⟩
  rw [hok] at he
  have HOK : Hid _ := hok
  clear hok
  rw [if_pos rfl]
  go_enter Try.func20, Try.ntmps20
  go_wp2_with fail
  go_at_call 12
  refine he.mono ?_
  rintro e w2 ⟨rfl, b2⟩
  have hb2 : Below w.heap.size w w2 := hb0.trans (b2.mono hb0.size)
  obtain ⟨c2, f2⟩ := one_cell ((b2.block w.heap.size (by omega)).trans H0)
  obtain ⟨ao, cap, rfl, hc⟩ := hv
  obtain ⟨l4, _, hpr⟩ := programOk_len HOK.out
  clear he
  go_wp2
  go_loopw [3, 12] (fun n i wr => ∃ k : Nat, k ≤ ps.length ∧ i = .int .i64 k ∧ n = .int .i64 (sumLen (ps.take k)) ∧ sumLen (ps.take k) ≤ 12 * k ∧ Below w.heap.size w wr) (fun _ i _ => ps.length - (intOf i).toNat)
  case atStart => exact ⟨0, Nat.zero_le _, rfl, rfl, by simp [sumLen], hb2⟩
  case round =>
    obtain ⟨k, hk, rfl, rfl, hs, hb⟩ := hrel
    by_cases hlt : k < ps.length
    · have hlt' : (k : Int) < (ps.length : Int) := by omega
      obtain ⟨g, off, u, rfl, p0, r0⟩ := hc k ps[k] (by simp [hlt])
      have p0 := (hb.cell (World.block_lt_of_cell? w _ p0)).trans p0
      have l12 := procOk_len (hpr ps[k] (List.getElem_mem hlt)).1
      have HT : Hid _ := sumLen_take ps k hlt
      obtain ⟨ua, uc, rfl, _⟩ := r0
      clear hc hpr
      generalize ps[k].length = q at *
      generalize sumLen (ps.take k) = t at *
      have t1 : (t : Int) + (q : Int) ≤ 1000 := by omega
      go_wp2
      go_roundw
      case rel => exact ⟨k + 1, by omega, by go_num, by rw [HT.out]; go_num, by rw [HT.out]; omega, hb.alloc hb.size _⟩
      case measure => simp [intOf]; omega
    · have hkk : k = ps.length := by omega
      subst hkk
      go_wp2
      go_ret
      exact ⟨by rw [List.take_length]; rfl, hb⟩

end Go.Proofs.Ytmloeldgeegddaa
