/-
  What both sides answer of Reached.
-/
import Derived.Test.YtjlfmjoallnojacSpecReached
import Derived.Test.YtjlfmjoallnojacImplReached
namespace Go.Proofs.Ytjlfmjoallnojac

theorem reached_some (ss : List Stm) : ∃ A : List Int, (procOk ss = true → IsReached ss (-1) A) ∧ (procOk ss = false → A = []) ∧ A.length ≤ 12 := by
  cases hok : procOk ss
  · exact ⟨[], by simp, by simp, by simp⟩
  · obtain ⟨A, hA⟩ := isReached_some hok (-1)
    refine ⟨A, fun _ => hA, by simp, ?_⟩
    refine Nat.le_trans (sorted_length A 0 ss.length hA.1 (fun x hx => ?_)) (procOk_parts hok).2.1
    obtain ⟨i, rfl, k, hk⟩ := (hA.2 x).1 hx
    have := rk_in hok hk
    omega

end Go.Proofs.Ytjlfmjoallnojac
