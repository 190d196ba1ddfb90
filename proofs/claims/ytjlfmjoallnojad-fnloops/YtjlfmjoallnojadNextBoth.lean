/-
  spec.Next, impl.Next.
-/
import Derived.Test.YtjlfmjoallnojadNexts
namespace Go.Proofs.Ytjlfmjoallnojad
open Go.RowKit
set_option linter.unusedVariables false
set_option maxHeartbeats 1000000

/-- What both answer. -/
def nextAns (ss : List Stm) (i : Int) : List Int := if hasS ss i then nextsS (ss.getD i.toNat ⟨0, 0, 0⟩) i else []

theorem nextAns_length (ss : List Stm) (i : Int) : (nextAns ss i).length ≤ 2 := by
  unfold nextAns
  split
  · exact nextsS_length _ _
  · simp

theorem implNext (ss : List Stm) (i : Int) (v : Value) (w : World) (hl : ss.length ≤ maxLen) (hv : Reads3 w v ss) :
    Calls Try.prog 14 #[.agg #[v], .int .i64 i] w fun e w' => ∃ u, e = .returned u ∧ w'.ownsRow w.heap.size 2 1 u (nextAns ss i).length (ints (nextAns ss i)) ∧ Below w.heap.size w w' := by
  have hb0 : Below w.heap.size w (w.alloc (.cells #[v] 26)) := by go_grown
  have he := hasStmt ss i v _ hl (reads3_below hv hb0)
  have H0 := heap_alloc_new w (.cells #[v] 26)
  have s0 : (w.alloc (.cells #[v] 26)).heap.size = w.heap.size + 1 := by simp
  unfold nextAns
  cases hok : hasS ss i
  · rw [hok] at he
    go_enter Try.func14, Try.ntmps14
    go_wp2_with (go_at_call 34; refine he.mono ?_; rintro e w2 ⟨rfl, b2⟩)
    go_ret
    have L2 := hb0.trans (b2.mono hb0.size)
    exact ⟨_, rfl, nil_own _ _, L2⟩
  · rw [hok] at he
    rw [if_pos rfl]
    obtain ⟨hp, j, rfl, hj⟩ := hasS_true hok
    have hg : ss.getD ((j : Int).toNat) ⟨0, 0, 0⟩ = ss[j] := by simp [List.getD, hj]
    rw [hg]
    obtain ⟨_, h12, _⟩ := procOk_parts hp
    clear hok
    go_enter Try.func14, Try.ntmps14
    go_wp2_with fail
    go_at_call 34
    refine he.mono ?_
    rintro e w2 ⟨rfl, b2⟩
    obtain ⟨c2, f2⟩ := one_cell ((b2.block w.heap.size (by omega)).trans H0)
    have L2 := hb0.trans (b2.mono hb0.size)
    have h3 := nextsOf ss j v w2 hj h12 (reads3_below hv L2)
    clear he
    go_wp2_with fail
    go_at_call 23
    refine h3.mono ?_
    rintro e w3 ⟨u3, rfl, own3, b3⟩
    go_wp2
    go_ret
    exact ⟨_, rfl, own_mono own3 L2.size, L2.trans (b3.mono L2.size)⟩

end Go.Proofs.Ytjlfmjoallnojad
