/-
  impl.canSum: are program and client right?
-/
import Derived.Test.YtmophdojojcpbaaTabEx
import Derived.Test.YtmophdojojcpbaaFlowImpl
namespace Go.Proofs.Ytmophdojojcpbaa
open Go.RowKit
set_option linter.unusedVariables false
set_option linter.unusedSimpArgs false
set_option maxHeartbeats 4000000
set_option maxRecDepth 20000

theorem canSum (ps : List (List Stm)) (c : Int) (v : Value) (w : World) (hl : ps.length ≤ maxLen) (hp : ∀ p ∈ ps, p.length ≤ maxLen) (hv : ReadsP w v ps) :
    Calls Try.prog 36 #[.agg #[v], .int .i64 c] w fun e w' => e = .returned (.bool (okB ps c)) ∧ Below w.heap.size w w' := by
  have b0 : Below w.heap.size w (w.alloc (.cells #[v] 26)) := by go_grown
  have H0 := heap_alloc_new w (.cells #[v] 26)
  by_cases h2 : c = 1 ∨ c = 2
  · have hf := flowsOf c h2
    have hpo := fun W h => implProgramOk ps v W hl hp h
    have e : okB ps c = programOk ps := by simp [okB, h2]
    rw [e]
    unfold flowsV at hf
    generalize markFn c = m at *
    clear e h2
    go_enter Try.func36, Try.ntmps36
    go_wp2_with fail
    go_at_call 74
    refine (hf _).mono ?_
    rintro e w1 ⟨rfl, b1⟩
    have B1 := b0.trans (b1.mono b0.size)
    have q1 := (b1.block w.heap.size (by simp)).trans H0
    have hlt : w.heap.size < w1.heap.size := (Array.getElem?_eq_some_iff.1 q1).1
    have q2 : ∀ o, (w1.alloc o).cell? ⟨w.heap.size, 0, none⟩ = some v := fun o => (one_cell ((old_block hlt).trans q1)).1
    have hpo1 := fun o => hpo (w1.alloc o) (readsP_below hv (B1.alloc B1.size _))
    clear hf H0 b1 q1
    go_wp2_with (go_at_call 75; refine (hpo1 _).mono ?_; rintro e w2 ⟨rfl, b2⟩)
    go_ret
    exact ⟨rfl, (B1.alloc B1.size _).trans (b2.mono (by have := B1.size; simp; omega))⟩
  · have e : okB ps c = false := by simp [okB, h2]
    rw [e]
    have hf := flowsOfNo c (fun h => h2 (.inl h)) (fun h => h2 (.inr h))
    clear e h2
    go_enter Try.func36, Try.ntmps36
    go_wp2_with (go_at_call 74; refine (hf _).mono ?_; rintro e w1 ⟨rfl, b1⟩)
    go_ret
    have B1 := b0.trans (b1.mono b0.size)
    exact ⟨rfl, B1.alloc B1.size _⟩

end Go.Proofs.Ytmophdojojcpbaa
