/-
  Chapter 8, the program's small functions: isNoSet, hasAll, flowsInside.
-/
import Derived.Test.YtebadimjpbhagaaG14WaysM
import Derived.Test.YtebadimjpbhagaaFlowImpl
namespace Go.Proofs.Ytebadimjpbhagaa
open Go.RowKit
set_option linter.unusedVariables false
set_option maxHeartbeats 2000000
set_option maxRecDepth 4000

theorem isNoSet (s : Int) (w : World) : Calls Try.prog 53 #[.int .i64 s] w fun e w' => e = .returned (.bool (!inB s 0 127)) ∧ w = w' := by
  go_enter Try.func53, Try.ntmps53
  go_wp2_with (go_at_call 94; refine (within _ _ _).mono ?_; rintro e w' ⟨rfl, rfl⟩; simp only [wiB_inB])
  go_ret
  exact ⟨rfl, rfl⟩

theorem hasAll (a b : Int) (ha : Small a) (hb : Small b) (w : World) : Calls Try.prog 54 #[.int .i64 a, .int .i64 b] w fun e w' => e = .returned (.bool (hasA a b)) ∧ w = w' := by
  have h := cut_has ha hb
  have h' : (bits .andNot .i64 b a == 0) = hasA a b := by rw [← h]; rw [Bool.eq_iff_iff]; simp
  clear h
  go_enter Try.func54, Try.ntmps54
  go_wp2
  go_ret
  exact ⟨by first | rfl | (rw [h']), rfl⟩

theorem four_frozen {W : World} {B : Nat} {v0 v1 v2 v3 : Value} {t : TypeId} (q : W.heap[B]? = some (.cells #[v0, v1, v2, v3] t (0, 0))) (j : Nat) : W.frozen? ⟨B, j, none⟩ = false := frozen_of_row W B j _ _ q

theorem four_set {W : World} {B : Nat} {v0 v1 v2 v3 : Value} {t : TypeId} (q : W.heap[B]? = some (.cells #[v0, v1, v2, v3] t (0, 0))) (x0 x1 x2 x3 : Value) :
    ((((W.setCell ⟨B, 0, none⟩ x0).setCell ⟨B, 1, none⟩ x1).setCell ⟨B, 2, none⟩ x2).setCell ⟨B, 3, none⟩ x3).heap[B]? = some (.cells #[x0, x1, x2, x3] t (0, 0)) := by
  have h0 := heap_setCell_same W B 0 _ t x0 q
  have h1 := heap_setCell_same _ B 1 _ t x1 h0
  have h2 := heap_setCell_same _ B 2 _ t x2 h1
  have h3 := heap_setCell_same _ B 3 _ t x3 h2
  rw [h3]
  rfl

theorem flowsInside (ss : List Stm) (c s : Int) (v : Value) (w : World) (hl : ss.length ≤ maxLen) (hv : Reads3 w v ss) :
    Calls Try.prog 37 #[.agg #[v], .int .i64 c, .int .i64 s] w fun e w' => e = .returned (.tuple #[if procOk ss && isCl c && inB s 0 127 then flowsV (markFn c) else .agg #[.nilFunc, .nilFunc, .nilFunc, .nilFunc], .bool (procOk ss && isCl c && inB s 0 127)]) ∧ Below w.heap.size w w' := by
  obtain ⟨W0, hW0⟩ : ∃ W0, (w.alloc (.cells #[v] 26)).alloc (.cells #[.nilFunc, .nilFunc, .nilFunc, .nilFunc] 60) = W0 := ⟨_, rfl⟩
  have hb0 : Below w.heap.size w W0 := by rw [← hW0]; go_grown
  have s0 : W0.heap.size = w.heap.size + 2 := by rw [← hW0]; simp
  have Q0 : W0.heap[w.heap.size + 1]? = some (.cells #[.nilFunc, .nilFunc, .nilFunc, .nilFunc] 60 (0, 0)) := by
    rw [← hW0]
    have := heap_alloc_new (w.alloc (.cells #[v] 26)) (.cells #[.nilFunc, .nilFunc, .nilFunc, .nilFunc] 60)
    simpa using this
  have he := implProcOk ss v W0 hl (reads3_below hv hb0)
  have HW : Hid ((w.alloc (.cells #[v] 26)).alloc (.cells #[.nilFunc, .nilFunc, .nilFunc, .nilFunc] 60) = W0) := hW0
  clear hW0
  have hns := fun W => isNoSet s W
  cases hok : procOk ss
  · rw [hok] at he
    simp only [Bool.false_and, Bool.false_eq_true, if_false]
    go_enter Try.func37, Try.ntmps37
    go_wp2_with fail
    go_at_call 81
    rw [HW.out]
    refine he.mono ?_
    rintro e w2 ⟨rfl, b2⟩
    have q2 := (b2.block (w.heap.size + 1) (by omega)).trans Q0
    have L2 := hb0.trans (b2.mono hb0.size)
    have l2 : w.heap.size + 1 < w2.heap.size := by have := b2.size; omega
    clear he HW
    obtain ⟨c0, c1, c2, c3⟩ := four_cells q2
    have f0 := four_frozen q2 0
    have f1 := four_frozen q2 1
    have f2 := four_frozen q2 2
    have f3 := four_frozen q2 3
    have Q2 := four_set q2 (.nilFunc) (.nilFunc) (.nilFunc) (.nilFunc)
    obtain ⟨d0, d1, d2, d3⟩ := four_cells Q2
    clear q2 Q2
    go_wp2
    refine bodyPost_ret (v := .tuple #[.agg #[.nilFunc, .nilFunc, .nilFunc, .nilFunc], .bool false]) (by simp [results, Try.results37, go_sem, d0, d1, d2, d3]) rfl ?_
    exact ⟨rfl, (((L2.setCell (by simp) _).setCell (by simp) _).setCell (by simp) _).setCell (by simp) _⟩
  rw [hok] at he
  cases hs : inB s 0 127
  · rw [hs] at hns
    simp only [Bool.and_false, Bool.false_eq_true, if_false]
    go_enter Try.func37, Try.ntmps37
    go_wp2_with fail
    go_at_call 81
    rw [HW.out]
    refine he.mono ?_
    rintro e w2 ⟨rfl, b2⟩
    have q2 := (b2.block (w.heap.size + 1) (by omega)).trans Q0
    have L2 := hb0.trans (b2.mono hb0.size)
    have l2 : w.heap.size + 1 < w2.heap.size := by have := b2.size; omega
    clear he HW
    go_wp2_with fail
    go_at_call 53
    refine (hns _).mono ?_
    rintro e w3 ⟨rfl, rfl⟩
    obtain ⟨c0, c1, c2, c3⟩ := four_cells q2
    have f0 := four_frozen q2 0
    have f1 := four_frozen q2 1
    have f2 := four_frozen q2 2
    have f3 := four_frozen q2 3
    have Q2 := four_set q2 (.nilFunc) (.nilFunc) (.nilFunc) (.nilFunc)
    obtain ⟨d0, d1, d2, d3⟩ := four_cells Q2
    clear q2 Q2
    go_wp2
    refine bodyPost_ret (v := .tuple #[.agg #[.nilFunc, .nilFunc, .nilFunc, .nilFunc], .bool false]) (by simp [results, Try.results37, go_sem, d0, d1, d2, d3]) rfl ?_
    exact ⟨rfl, (((L2.setCell (by simp) _).setCell (by simp) _).setCell (by simp) _).setCell (by simp) _⟩
  rw [hs] at hns
  by_cases hc : c = 1 ∨ c = 2
  · have hic : isCl c = true := by simpa [isCl] using hc
    simp only [hic, Bool.and_self, if_true]
    have hfo := fun W => flowsOf c hc W
    generalize markFn c = m at *
    unfold flowsV at hfo ⊢
    go_enter Try.func37, Try.ntmps37
    go_wp2_with fail
    go_at_call 81
    rw [HW.out]
    refine he.mono ?_
    rintro e w2 ⟨rfl, b2⟩
    have q2 := (b2.block (w.heap.size + 1) (by omega)).trans Q0
    have L2 := hb0.trans (b2.mono hb0.size)
    have l2 : w.heap.size + 1 < w2.heap.size := by have := b2.size; omega
    clear he HW
    go_wp2_with fail
    go_at_call 53
    refine (hns _).mono ?_
    rintro e w3 ⟨rfl, rfl⟩
    go_wp2_with fail
    go_at_call 82
    refine (hfo _).mono ?_
    rintro e w4 ⟨rfl, b4⟩
    have q2 := (b4.block (w.heap.size + 1) (by omega)).trans q2
    have L2 := L2.trans (b4.mono L2.size)
    obtain ⟨c0, c1, c2, c3⟩ := four_cells q2
    have f0 := four_frozen q2 0
    have f1 := four_frozen q2 1
    have f2 := four_frozen q2 2
    have f3 := four_frozen q2 3
    have Q2 := four_set q2 (.func (.func 109) #[] #[]) (.func (.func 110) #[] #[]) (.func (.func 111) #[] #[]) (.func (.func m) #[] #[])
    obtain ⟨d0, d1, d2, d3⟩ := four_cells Q2
    clear q2 Q2
    go_wp2
    refine bodyPost_ret (v := .tuple #[.agg #[.func (.func 109) #[] #[], .func (.func 110) #[] #[], .func (.func 111) #[] #[], .func (.func m) #[] #[]], .bool true]) (by simp [results, Try.results37, go_sem, d0, d1, d2, d3]) rfl ?_
    exact ⟨rfl, (((L2.setCell (by simp) _).setCell (by simp) _).setCell (by simp) _).setCell (by simp) _⟩
  · have hic : isCl c = false := by simpa [isCl] using hc
    simp only [hic, Bool.and_false, Bool.false_and, Bool.false_eq_true, if_false]
    have hfo := fun W => flowsOfNo c (fun e => hc (.inl e)) (fun e => hc (.inr e)) W
    go_enter Try.func37, Try.ntmps37
    go_wp2_with fail
    go_at_call 81
    rw [HW.out]
    refine he.mono ?_
    rintro e w2 ⟨rfl, b2⟩
    have q2 := (b2.block (w.heap.size + 1) (by omega)).trans Q0
    have L2 := hb0.trans (b2.mono hb0.size)
    have l2 : w.heap.size + 1 < w2.heap.size := by have := b2.size; omega
    clear he HW
    go_wp2_with fail
    go_at_call 53
    refine (hns _).mono ?_
    rintro e w3 ⟨rfl, rfl⟩
    go_wp2_with fail
    go_at_call 82
    refine (hfo _).mono ?_
    rintro e w4 ⟨rfl, b4⟩
    have q2 := (b4.block (w.heap.size + 1) (by omega)).trans q2
    have L2 := L2.trans (b4.mono L2.size)
    obtain ⟨c0, c1, c2, c3⟩ := four_cells q2
    have f0 := four_frozen q2 0
    have f1 := four_frozen q2 1
    have f2 := four_frozen q2 2
    have f3 := four_frozen q2 3
    have Q2 := four_set q2 (.nilFunc) (.nilFunc) (.nilFunc) (.nilFunc)
    obtain ⟨d0, d1, d2, d3⟩ := four_cells Q2
    clear q2 Q2
    go_wp2
    refine bodyPost_ret (v := .tuple #[.agg #[.nilFunc, .nilFunc, .nilFunc, .nilFunc], .bool false]) (by simp [results, Try.results37, go_sem, d0, d1, d2, d3]) rfl ?_
    exact ⟨rfl, (((L2.setCell (by simp) _).setCell (by simp) _).setCell (by simp) _).setCell (by simp) _⟩

end Go.Proofs.Ytebadimjpbhagaa
