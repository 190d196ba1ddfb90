/-
  spec.Circles; what both sides answer.
-/
import Derived.Test.YtefdagbdoaaogaaSpecCircles
import Derived.Test.YtefdagbdoaaogaaImplCircles
namespace Go.Proofs.Ytefdagbdoaaogaa
open Go.RowKit
set_option linter.unusedVariables false
set_option maxHeartbeats 4000000
set_option maxRecDepth 20000

theorem specCircles (ps : List (List Stm)) (c : List (List Nat)) (hc : CircA ps c) (v : Value) (w : World) (hl : ps.length ≤ maxLen) (hp : ∀ p ∈ ps, p.length ≤ maxLen) (hv : ReadsP w v ps) :
    Calls Try.prog 13 #[.agg #[v]] w fun e w' => ∃ u us, e = .returned u ∧ OwnSS w' w.heap.size u us (castLL c) ∧ Below w.heap.size w w' := by
  have hb0 : Below w.heap.size w (w.alloc (.cells #[v] 26)) := by go_grown
  have he := specProgramOk ps v _ hl hp (readsP_below hv hb0)
  have H0 := heap_alloc_new w (.cells #[v] 26)
  have s0 : (w.alloc (.cells #[v] 26)).heap.size = w.heap.size + 1 := by simp
  cases hok : programOk ps
  · rw [hok] at he
    obtain rfl := hc.2 hok
    go_enter Try.func13, Try.ntmps13
    go_wp2_with (go_at_call 20; refine he.mono ?_; rintro e w2 ⟨rfl, b2⟩)
    go_ret
    have L2 := hb0.trans (b2.mono hb0.size)
    exact ⟨_, [], rfl, (made0S w2).mono L2.size, L2.alloc L2.size _⟩
  · rw [hok] at he
    obtain ⟨r, o, hG⟩ := hc.1 hok
    go_enter Try.func13, Try.ntmps13
    go_wp2_with fail
    go_at_call 20
    refine he.mono ?_
    rintro e w2 ⟨rfl, b2⟩
    obtain ⟨c2, f2⟩ := one_cell ((b2.block w.heap.size (by omega)).trans H0)
    have L2 := hb0.trans (b2.mono hb0.size)
    have h3 := l9Circles ps r c o hok hG v w2 (readsP_below hv L2)
    clear he
    go_wp2_with fail
    go_at_call 44
    refine h3.mono ?_
    rintro e w3 ⟨u, us, rfl, own3, b3⟩
    go_wp2
    go_ret
    exact ⟨_, us, rfl, own3.mono L2.size, L2.trans (b3.mono L2.size)⟩

theorem mem_flat_len {c : List (List Nat)} {g : List Nat} (h : g ∈ c) : g.length ≤ c.flatten.length := by
  induction c with
  | nil => simp at h
  | cons x c ih =>
    rw [List.flatten_cons, List.length_append]
    rcases List.mem_cons.1 h with rfl | h
    · omega
    · have := ih h; omega

theorem circA_len {ps : List (List Stm)} {c : List (List Nat)} (hc : CircA ps c) : (castLL c).length ≤ 12 ∧ ∀ xs ∈ castLL c, xs.length ≤ 1000 := by
  cases hok : programOk ps with
  | false => rw [hc.2 hok]; simp [castLL]
  | true =>
    obtain ⟨r, o, hG⟩ := hc.1 hok
    obtain ⟨h4, h1, _⟩ := programOk_len hok
    have e1 := hG.asked.cn
    refine ⟨?_, fun xs hx => ?_⟩
    · have := foldS_len ps.length r ps.length
      have e2 : (circS ps.length r).length ≤ ps.length := this
      rw [hG.circ] at e2
      simp [castLL]
      omega
    · obtain ⟨g, hg, rfl⟩ := List.mem_map.1 hx
      have := mem_flat_len hg
      simp
      omega

end Go.Proofs.Ytefdagbdoaaogaa
