/-
  Put together out of: LikeLists, NextBoth.
-/
import Derived.Test.YtgandekciocalaaG41MarkSS
import Derived.Test.YtgandekciocalaaG09RelOk
import Derived.Deep.RegionHeld3
import Derived.Test.YtgandekciocalaaNexts
/-
  laws.likeLists: both hold the same lists.
-/
namespace Go.Proofs.Ytgandekciocalaa
open Go.RowKit
set_option linter.unusedVariables false
set_option linter.unusedSimpArgs false
set_option maxHeartbeats 2000000

theorem likeLists (xss : List (List Int)) (v u : Value) (w : World) (hl : xss.length ≤ maxLen) (hx : ∀ xs ∈ xss, xs.length ≤ maxLen) (hv : ReadsSS w v xss) (hu : ReadsSS w u xss) :
    Calls Try.prog 10 #[v, u] w fun e w' => e = .returned (.bool true) ∧ Below w.heap.size w w' := by
  unfold maxLen at hl
  obtain ⟨ao, cap, rfl, hc⟩ := hv
  obtain ⟨bo, cap', rfl, hd⟩ := hu
  go_enter Try.func10, Try.ntmps10
  go_wp2
  go_loopw [5] (fun i wr => ∃ k : Nat, k ≤ xss.length ∧ i = .int .i64 k ∧ Below w.heap.size w wr) (fun i _ => xss.length - (intOf i).toNat)
  case atStart => exact ⟨0, Nat.zero_le _, rfl, Below.refl _ _⟩
  case round =>
    obtain ⟨k, hk, rfl, hb⟩ := hrel
    by_cases hlt : k < xss.length
    · obtain ⟨g, off, p, rfl, p0, rp⟩ := hc k xss[k] (by simp [hlt])
      obtain ⟨g', off', q, rfl, q0, rq⟩ := hd k xss[k] (by simp [hlt])
      have hxl := hx xss[k] (List.getElem_mem hlt)
      have pB := World.block_lt_of_cell? w _ p0
      have qB := World.block_lt_of_cell? w _ q0
      have sz := hb.size
      have p1 := (hb.cell pB).trans p0
      have q1 := (hb.cell qB).trans q0
      have pB' : g < wr.heap.size := by simp at pB; omega
      have qB' : g' < wr.heap.size := by simp at qB; omega
      have hlt' : (k : Int) < (xss.length : Int) := by omega
      have hk0 : (0 : Int) ≤ (k : Int) := by omega
      have he : ∀ W, Below wr.heap.size wr W → _ := fun W hW => likeInts xss[k] p q W hxl (reads_below (reads_below rp hb) hW) (reads_below (reads_below rq hb) hW)
      obtain ⟨pa, pn, pc, rfl⟩ : ∃ a n c, p = .slice a n c := by obtain ⟨a, c, rfl, _⟩ := rp; exact ⟨_, _, _, rfl⟩
      obtain ⟨qa, qn, qc, rfl⟩ : ∃ a n c, q = .slice a n c := by obtain ⟨a, c, rfl, _⟩ := rq; exact ⟨_, _, _, rfl⟩
      clear hc hd rp rq p0 q0
      go_wp2_with fail
      go_region_held3 (fun w' => w'.cell? ⟨g, off + k, none⟩ = some (.slice pa pn pc) ∧ w'.cell? ⟨g', off' + k, none⟩ = some (.slice qa qn qc)) (first | exact ⟨p1, q1⟩ | exact ⟨(hc4 _ _ pB').trans p1, (hc4 _ _ qB').trans q1⟩) (first
        | (go_at_call 20; refine (he _ (by go_grown)).mono ?_; rintro e w4 ⟨rfl, b4⟩; have M4 : Below wr.heap.size wr w4 := Below.trans (by go_grown) b4; obtain ⟨hc4, hf4⟩ := bcell M4))
      all_goals
        go_wp2
        go_roundw
        case rel => exact ⟨k + 1, by omega, by go_num, hb.trans (M4.mono sz)⟩
        case measure => simp [intOf]; omega
    · go_wp2
      go_ret
      exact ⟨rfl, hb⟩

end Go.Proofs.Ytgandekciocalaa

/-
  spec.Next, impl.Next.
-/
namespace Go.Proofs.Ytgandekciocalaa
open Go.RowKit
set_option linter.unusedVariables false
set_option maxHeartbeats 1000000

/-- What both answer. -/
def nextAns (ss : List Stm) (i : Int) : List Int := if hasS ss i then nextsS (ss.getD i.toNat ⟨0, 0, 0⟩) i else []

theorem nextAns_length (ss : List Stm) (i : Int) : (nextAns ss i).length ≤ 2 := by
  unfold nextAns
  split
  · exact nextsS_length _ _
  · simp

theorem implNext (ss : List Stm) (i : Int) (v : Value) (w : World) (hl : ss.length ≤ maxLen) (hv : Reads3 w v ss) :
    Calls Try.prog 24 #[.agg #[v], .int .i64 i] w fun e w' => ∃ u, e = .returned u ∧ w'.ownsRow w.heap.size 2 1 u (nextAns ss i).length (ints (nextAns ss i)) ∧ Below w.heap.size w w' := by
  have hb0 : Below w.heap.size w (w.alloc (.cells #[v] 49)) := by go_grown
  have he := hasStmt ss i v _ hl (reads3_below hv hb0)
  have H0 := heap_alloc_new w (.cells #[v] 49)
  have s0 : (w.alloc (.cells #[v] 49)).heap.size = w.heap.size + 1 := by simp
  unfold nextAns
  cases hok : hasS ss i
  · rw [hok] at he
    go_enter Try.func24, Try.ntmps24
    go_wp2_with (go_at_call 59; refine he.mono ?_; rintro e w2 ⟨rfl, b2⟩)
    go_ret
    have L2 := hb0.trans (b2.mono hb0.size)
    exact ⟨_, rfl, nil_own _ _, L2⟩
  · rw [hok] at he
    rw [if_pos rfl]
    obtain ⟨hp, j, rfl, hj⟩ := hasS_true hok
    have hg : ss.getD ((j : Int).toNat) ⟨0, 0, 0⟩ = ss[j] := by simp [List.getD, hj]
    rw [hg]
    obtain ⟨_, h12, _⟩ := procOk_parts hp
    clear hok
    go_enter Try.func24, Try.ntmps24
    go_wp2_with fail
    go_at_call 59
    refine he.mono ?_
    rintro e w2 ⟨rfl, b2⟩
    obtain ⟨c2, f2⟩ := one_cell ((b2.block w.heap.size (by omega)).trans H0)
    have L2 := hb0.trans (b2.mono hb0.size)
    have h3 := nextsOf ss j v w2 hj h12 (reads3_below hv L2)
    clear he
    go_wp2_with fail
    go_at_call 60
    refine h3.mono ?_
    rintro e w3 ⟨u3, rfl, own3, b3⟩
    go_wp2
    go_ret
    exact ⟨_, rfl, own_mono own3 L2.size, L2.trans (b3.mono L2.size)⟩

end Go.Proofs.Ytgandekciocalaa
