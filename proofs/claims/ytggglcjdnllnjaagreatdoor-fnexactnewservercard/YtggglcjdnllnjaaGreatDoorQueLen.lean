/-
  Chapter 17: Length, both sides.
-/
import Derived.Test.YtggglcjdnllnjaaGreatDoorQueOk
namespace Go.Proofs.YtggglcjdnllnjaaGreatDoor
open Go.RowKit
set_option linter.unusedVariables false
set_option maxHeartbeats 4000000
set_option maxRecDepth 20000

theorem tot_le5 : ∀ (X : List (List Int)), (∀ x ∈ X, x.length ≤ 5) → tot X ≤ 5 * X.length
  | [], _ => by simp [tot]
  | x :: X, h => by
    have h1 := tot_le5 X (fun y hy => h y (by simp [hy]))
    have h2 := h x (by simp)
    simp only [tot, List.length_cons]
    omega

/-- What Length answers. -/
def lenA (t : Int) (X : List (List Int)) : Int := if queB t X = true then (tot X : Int) else -1


theorem implLength (t : Int) (X : List (List Int)) (v : Value) (w : World) (hl : X.length ≤ maxLen) (hx : ∀ x ∈ X, x.length ≤ maxLen) (hv : ReadsSS w v X) :
    Calls Tryz.prog 50 #[.agg #[.int .i64 t, v]] w fun e w' => e = .returned (.int .i64 (lenA t X)) ∧ Below w.heap.size w w' := by
  obtain ⟨W0, hW0⟩ : ∃ W0, w.alloc (.cells #[.int .i64 t, v] 28) = W0 := ⟨_, rfl⟩
  have hb0 : Below w.heap.size w W0 := by rw [← hW0]; go_grown
  have s0 : W0.heap.size = w.heap.size + 1 := by rw [← hW0]; simp
  have B0 : W0.heap[w.heap.size]? = some (.cells #[.int .i64 t, v] 28 (0, 0)) := by rw [← hW0]; exact heap_alloc_new w _
  obtain ⟨c0, c1, _, _⟩ := two_cellsQ B0
  have hqq := implQueueOk t X v W0 hl hx (readsSS_below hv hb0)
  have hv0 := readsSS_below hv hb0
  unfold maxLen at hl
  obtain ⟨ao, cap, rfl, hc⟩ := hv
  clear hc
  cases hq : queB t X with
  | false =>
    rw [hq] at hqq
    have hla : lenA t X = -1 := by unfold lenA; rw [hq]; rfl
    rw [hla]
    go_enter Tryz.func50, Tryz.ntmps50
    go_wp2_with fail
    go_at_call 31
    refine hqq.mono ?_
    rintro e w1 ⟨rfl, b1⟩
    go_wp2
    go_ret
    exact ⟨rfl, hb0.trans (b1.mono (by omega))⟩
  | true =>
    rw [hq] at hqq
    have hla : lenA t X = (tot X : Int) := by unfold lenA; rw [hq]; rfl
    rw [hla]
    obtain ⟨_, _, h8, h5, _⟩ := queB_parts hq
    have h8a : X.length ≤ 8 := by omega
    clear h8 hq hla
    go_enter Tryz.func50, Tryz.ntmps50
    go_wp2_with fail
    go_at_call 31
    refine hqq.mono ?_
    rintro e w1 ⟨rfl, b1⟩
    have B1 : Hid _ := (b1.block w.heap.size (by omega)).trans B0
    obtain ⟨c0, c1, _, _⟩ := two_cellsQ B1.out
    obtain ⟨ao', cap', e, hc⟩ := readsSS_below hv0 b1
    have L1 : Below w.heap.size w w1 := hb0.trans (b1.mono (by omega))
    obtain ⟨rfl, -, rfl⟩ : ao = ao' ∧ True ∧ cap = cap' := by simp at e; exact ⟨e.1, trivial, e.2⟩
    clear hqq B0 hv0 e hW0 b1
    go_wp2_with fail
    go_loopw [3, 12] (fun n i wr => ∃ k : Nat, k ≤ X.length ∧ i = .int .i64 k ∧ n = .int .i64 (tot (X.take k) : Nat) ∧ w1 = wr) (fun _ i _ => X.length - (intOf i).toNat)
    case atStart => exact ⟨0, Nat.zero_le _, rfl, by simp [tot], rfl⟩
    case round =>
      obtain ⟨k, hk, rfl, rfl, rfl⟩ := hrel
      by_cases hlt : k < X.length
      · have hlt' : (k : Int) < (X.length : Int) := by omega
        obtain ⟨g, off, u, rfl, cu, ru⟩ := hc k X[k] (by simp [hlt])
        obtain ⟨a5, c5, rfl, _⟩ := ru
        rw [ints_length] at cu
        have htk := tot_take X k hlt
        have hxl := h5 X[k] (List.getElem_mem hlt)
        have htt : tot (X.take k) ≤ 5 * k := by
          have := tot_le5 (X.take k) (fun y hy => h5 y (List.mem_of_mem_take hy))
          have h3 : (X.take k).length ≤ k := List.length_take_le _ _
          omega
        have HTK : Hid _ := htk
        clear htk hc
        generalize X[k].length = xl at *
        generalize tot (X.take k) = tk at *
        go_wp2
        go_roundw
        case rel => exact ⟨k + 1, by omega, by go_num, by rw [HTK.out]; go_num, trivial⟩
        case measure => simp [intOf]; omega
      · have hkk : k = X.length := by omega
        clear hc
        go_wp2
        go_ret
        exact ⟨by first | rfl | (rw [hkk, List.take_length]; rfl) | (rw [List.take_length]; rfl), L1⟩

end Go.Proofs.YtggglcjdnllnjaaGreatDoor
