/-
  Chapter 10, the specification's side: Tables, Effect, Inner, Holds.
-/
import Derived.Test.YtmophdojojcpbaaSpecTables
import Derived.Test.YtmophdojojcpbaaTabEx
import Derived.Test.YtmophdojojcpbaaCallsFn
namespace Go.Proofs.Ytmophdojojcpbaa
open Go.RowKit
set_option linter.unusedVariables false
set_option linter.unusedSimpArgs false
set_option maxHeartbeats 4000000
set_option maxRecDepth 20000

theorem empty_own {w w' : World} (h : Below w.heap.size w w') : OwnSS (w'.alloc (.cells #[] 36)) w.heap.size (.slice (some ⟨w'.heap.size, 0, none⟩) 0 0) [] [] := (made0S w').mono h.size

theorem specTables (ps : List (List Stm)) (c : Int) (A : List (List Int)) (hA : TabA ps c A) (v : Value) (w : World) (hl : ps.length ≤ maxLen) (hp : ∀ p ∈ ps, p.length ≤ maxLen) (hv : ReadsP w v ps) :
    Calls Try.prog 13 #[.agg #[v], .int .i64 c] w fun e w' => ∃ u us, e = .returned u ∧ OwnSS w' w.heap.size u us A ∧ Below w.heap.size w w' := by
  have hb0 : Below w.heap.size w (w.alloc (.cells #[v] 26)) := by go_grown
  have hpo := specProgramOk ps v _ hl hp (readsP_below hv hb0)
  have H0 := heap_alloc_new w (.cells #[v] 26)
  have s0 : (w.alloc (.cells #[v] 26)).heap.size = w.heap.size + 1 := by simp
  have hcl := l7Client c
  cases h1 : programOk ps
  · have e : okB ps c = false := by simp [okB, h1]
    rw [hA.2 e]
    rw [h1] at hpo
    go_enter Try.func13, Try.ntmps13
    go_wp2_with (first
      | (go_at_call 16; refine hpo.mono ?_; rintro e w2 ⟨rfl, b2⟩))
    go_ret
    have L2 := hb0.trans (b2.mono hb0.size)
    exact ⟨_, [], rfl, empty_own L2, L2.alloc L2.size _⟩
  · rw [h1] at hpo
    by_cases h2 : c = 1 ∨ c = 2
    · have e : okB ps c = true := by simp [okB, h1, h2]
      obtain ⟨hAl, hAT⟩ := hA.1 e
      obtain ⟨_, hc, hcp, h4⟩ := okB_parts e
      rw [decide_eq_true h2] at hcl
      go_enter Try.func13, Try.ntmps13
      go_wp2_with fail
      go_at_call 16
      refine hpo.mono ?_
      rintro e w2 ⟨rfl, b2⟩
      have L2 := hb0.trans (b2.mono hb0.size)
      obtain ⟨c2, f2⟩ := one_cell ((b2.block w.heap.size (by omega)).trans H0)
      have htb := l10Tables ps c v w2 hc hcp h4 (readsP_below hv L2)
      go_wp2_with (first
        | (go_at_call 47; refine (hcl _).mono ?_; rintro e w3 ⟨rfl, rfl⟩)
        | (go_at_call 48; refine htb.mono ?_; rintro e w4 ⟨T, a4, u4, rfl, hTl, hT, o4, b4⟩))
      go_ret
      obtain rfl := tables_eq hT hAT hTl hAl
      exact ⟨a4, u4, rfl, o4.mono L2.size, L2.trans (b4.mono L2.size)⟩
    · have e : okB ps c = false := by simp [okB, h2]
      rw [hA.2 e]
      rw [decide_eq_false h2] at hcl
      go_enter Try.func13, Try.ntmps13
      go_wp2_with (first
        | (go_at_call 16; refine hpo.mono ?_; rintro e w2 ⟨rfl, b2⟩)
        | (go_at_call 47; refine (hcl _).mono ?_; rintro e w3 ⟨rfl, rfl⟩))
      go_ret
      have L2 := hb0.trans (b2.mono hb0.size)
      exact ⟨_, [], rfl, empty_own L2, L2.alloc L2.size _⟩

theorem inB10_eq (ps : List (List Stm)) (c i : Int) : inB10 ps c i = (hasB ps i && decide (c = 1 ∨ c = 2)) := by
  unfold inB10 okB hasB wiB
  cases programOk ps <;> cases decide (c = 1 ∨ c = 2) <;> simp



end Go.Proofs.Ytmophdojojcpbaa
