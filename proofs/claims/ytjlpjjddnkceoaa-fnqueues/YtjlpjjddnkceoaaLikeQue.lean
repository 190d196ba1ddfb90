/-
  laws.likeQueue: both hold the same Queue.
-/
import Derived.Test.YtjlpjjddnkceoaaLikeLists
import Derived.Test.YtjlpjjddnkceoaaQueLaw
import Derived.Test.YtjlpjjddnkceoaaFnKit
namespace Go.Proofs.Ytjlpjjddnkceoaa
open Go.RowKit
set_option linter.unusedVariables false
set_option linter.unusedSimpArgs false
set_option maxHeartbeats 4000000
set_option maxRecDepth 20000

theorem likeQueue (t : Int) (X : List (List Int)) (v u : Value) (w : World) (hl : X.length ≤ maxLen) (hx : ∀ xs ∈ X, xs.length ≤ maxLen) (hv : ReadsSS w v X) (hu : ReadsSS w u X) :
    Calls Try.prog 9 #[.agg #[.int .i64 t, v], .agg #[.int .i64 t, u]] w fun e w' => e = .returned (.bool true) ∧ Below w.heap.size w w' := by
  obtain ⟨va, vm, vc, hvv⟩ : ∃ a m c, v = .slice a m c := by obtain ⟨a, c, e, _⟩ := hv; exact ⟨_, _, _, e⟩
  obtain ⟨ua, um, uc, huu⟩ : ∃ a m c, u = .slice a m c := by obtain ⟨a, c, e, _⟩ := hu; exact ⟨_, _, _, e⟩
  subst hvv
  subst huu
  obtain ⟨W0, hW0⟩ : ∃ W0, (w.alloc (.cells #[.int .i64 t, .slice va vm vc] 26)).alloc (.cells #[.int .i64 t, .slice ua um uc] 26) = W0 := ⟨_, rfl⟩
  have b0 : Below w.heap.size w W0 := by rw [← hW0]; go_grown
  have he := likeLists X (.slice va vm vc) (.slice ua um uc) W0 hl hx (readsSS_below hv b0) (readsSS_below hu b0)
  have H1 : W0.heap[w.heap.size]? = some (.cells #[.int .i64 t, .slice va vm vc] 26 (0, 0)) := by
    rw [← hW0, old_block (by simp)]
    exact heap_alloc_new w _
  have H2 : W0.heap[w.heap.size + 1]? = some (.cells #[.int .i64 t, .slice ua um uc] 26 (0, 0)) := by
    rw [← hW0]
    have := heap_alloc_new (w.alloc (.cells #[.int .i64 t, .slice va vm vc] 26)) (.cells #[.int .i64 t, .slice ua um uc] 26)
    simpa using this
  obtain ⟨o0, o1, _, _⟩ := two_cellsQ H1
  obtain ⟨p0, p1, _, _⟩ := two_cellsQ H2
  clear hv hu H1 H2
  go_enter Try.func9, Try.ntmps9
  go_wp2_with fail
  go_at_call 26
  refine he.mono ?_
  rintro e w1 ⟨rfl, b1⟩
  have L1 : Below w.heap.size w w1 := b0.trans (b1.mono b0.size)
  clear he b0 b1 hW0
  go_wp2
  go_ret
  exact ⟨rfl, L1⟩

end Go.Proofs.Ytjlpjjddnkceoaa
