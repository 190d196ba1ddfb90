/-
  impl.cameThrough over Closure's closure; impl.Closure.
-/
import Derived.Test.YtgpnoahmpmbgfaaDoorCloI14
import Derived.Laws.Pointers
namespace Go.Proofs.YtgpnoahmpmbgfaaDoor
open Go.RowKit
set_option linter.unusedVariables false
set_option linter.unusedSimpArgs false
set_option maxHeartbeats 4000000
set_option maxRecDepth 20000

theorem came_yes (a b c : Value) (w : World) (P : World → Prop)
    (h : Calls Tryd.prog 50 #[a, b, c] (w.alloc (.cells #[.bool false] 4)) fun e w' => e = .returned (.tuple #[]) ∧ w'.heap[w.heap.size]? = some (.cells #[.bool false] 4 (0, 0)) ∧ P w') :
    Calls Tryd.prog 31 #[.func (.func 50) #[] #[a, b, c]] w fun e w' => e = .returned (.bool true) ∧ ∃ w1, P w1 ∧ w' = (w1.setCell ⟨w.heap.size, 0, none⟩ (.bool true)).setCell ⟨w.heap.size, 0, none⟩ (.bool true) := by
  have hmf : ∀ (fn : Fn) (first cap : Array Value) (w : World), (Instr.makeFunc fn first cap).run Tryd.prog w = .ok (.func fn first cap) w := fun _ _ _ _ => rfl
  go_enter_defers Tryd.func31, Tryd.ntmps31
  go_wp2_with fail
  go_at_call 50
  refine h.mono ?_
  rintro e w1 ⟨rfl, hB, hP⟩
  obtain ⟨c1, f1⟩ := one_cell hB
  have hB2 := one_set hB (.bool true)
  obtain ⟨c2, f2⟩ := one_cell hB2
  have hB3 := one_set hB2 (.bool true)
  obtain ⟨c3, f3⟩ := one_cell hB3
  have HP : Hid _ := hP
  clear hP h
  go_wp2
  refine leaves_cons (f := 52) (args := #[.pointer (some ⟨w.heap.size, 0, none⟩)]) (by simp) (by simp [go_sem]) ?_
  refine (caught_none ⟨w.heap.size, 0, none⟩ _ _ c2 f2).mono ?_
  rintro e u' w'' ⟨rfl, rfl, rfl⟩
  refine ⟨.bool true, ?_, rfl, w1, HP.out, rfl⟩
  simp [results, Tryd.results31, go_sem, c3]

theorem came_no (a b c : Value) (w : World) (P : World → Prop)
    (h : Calls Tryd.prog 50 #[a, b, c] (w.alloc (.cells #[.bool false] 4)) fun e w' => e = .panicked [{ v := notTold, recovered := false }] ∧ w'.heap[w.heap.size]? = some (.cells #[.bool false] 4 (0, 0)) ∧ P w') :
    Calls Tryd.prog 31 #[.func (.func 50) #[] #[a, b, c]] w fun e w' => e = .returned (.bool false) ∧ ∃ w1, P w1 ∧ w' = w1.setCell ⟨w.heap.size, 0, none⟩ (.bool false) := by
  have hmf : ∀ (fn : Fn) (first cap : Array Value) (w : World), (Instr.makeFunc fn first cap).run Tryd.prog w = .ok (.func fn first cap) w := fun _ _ _ _ => rfl
  go_enter_defers Tryd.func31, Tryd.ntmps31
  go_wp2_with fail
  go_at_call 50
  refine h.mono ?_
  rintro e w1 ⟨rfl, hB, hP⟩
  obtain ⟨c1, f1⟩ := one_cell hB
  have hB2 := one_set hB (.bool false)
  obtain ⟨c2, f2⟩ := one_cell hB2
  have HP : Hid _ := hP
  clear hP h
  go_wp2
  refine leaves_cons (f := 52) (args := #[.pointer (some ⟨w.heap.size, 0, none⟩)]) (by simp) (by simp [go_sem]) ?_
  refine (caught_panic ⟨w.heap.size, 0, none⟩ _ [] _ c1 f1).mono ?_
  rintro e u' w'' ⟨rfl, rfl, rfl⟩
  refine ⟨.bool false, ?_, rfl, w1, HP.out, rfl⟩
  simp [Leaves, settle, results, Tryd.results31, go_sem, c2]

theorem closure1_yes (ps : List (List Stm)) (i : Int) (v x : Value) (a b c : Nat) (w : World) (hl : ps.length ≤ maxLen) (hp : ∀ p ∈ ps, p.length ≤ maxLen) (hok : hasB ps i = true) (hv : ReadsP w v ps)
    (ha : w.heap[a]? = some (.cells #[v] 29 (0, 0))) (hb : w.heap[b]? = some (.cells #[.int .i64 i] 2 (0, 0))) (hc : w.heap[c]? = some (.cells #[x] 29 (0, 0))) :
    Calls Tryd.prog 50 #[.pointer (some ⟨a, 0, none⟩), .pointer (some ⟨b, 0, none⟩), .pointer (some ⟨c, 0, none⟩)] w fun e w' => e = .returned (.tuple #[]) ∧
      ∃ u us, Own13 w' w.heap.size u us (clo14 ps (ord14 ps i)) ∧ w'.heap[c]? = some (.cells #[u] 29 (0, 0)) ∧ w.grownBy w' (some c) := by
  have hcl := closureOf ps i v w hl hp hok hv
  obtain ⟨R, hR⟩ : ∃ R, clo14 ps (ord14 ps i) = R := ⟨_, rfl⟩
  rw [hR] at hcl ⊢
  have c0 := (one_cell ha).1
  have c1 := (one_cell hb).1
  have hcl' := (Array.getElem?_eq_some_iff.1 hc).1
  obtain ⟨ao, vcap, rfl, _⟩ := hv
  clear hR
  go_enter Tryd.func50, Tryd.ntmps50
  go_wp2_with fail
  go_at_call 51
  refine hcl.mono ?_
  rintro e w1 ⟨u, us, rfl, own1, b1⟩
  obtain ⟨ua, um, uc, rfl⟩ := own_slice own1.row
  have hc1 := (b1.block c hcl').trans hc
  obtain ⟨d1, f1⟩ := one_cell hc1
  have HC : Hid _ := one_set hc1 (.slice ua um uc)
  have HG : Hid (w.grownBy (w1.setCell ⟨c, 0, none⟩ (.slice ua um uc)) (some c)) := grown_trans (grown_of_below b1 _) (grown_setRow13 _ _ _ _)
  have HO : Hid (Own13 (w1.setCell ⟨c, 0, none⟩ (.slice ua um uc)) w.heap.size (.slice ua um uc) us R) := own1.grown (grown_setRow13 _ _ _ _) (fun k hk => .inl (by have := Option.some.inj hk; omega))
  clear hc1 hcl own1 b1 hc
  go_wp2
  go_end0
  exact ⟨rfl, _, us, HO.out, HC.out, HG.out⟩

theorem closure1_no (ps : List (List Stm)) (i : Int) (v x : Value) (a b c : Nat) (w : World) (hl : ps.length ≤ maxLen) (hp : ∀ p ∈ ps, p.length ≤ maxLen) (hok : hasB ps i = false) (hv : ReadsP w v ps)
    (ha : w.heap[a]? = some (.cells #[v] 29 (0, 0))) (hb : w.heap[b]? = some (.cells #[.int .i64 i] 2 (0, 0))) :
    Calls Tryd.prog 50 #[.pointer (some ⟨a, 0, none⟩), .pointer (some ⟨b, 0, none⟩), .pointer (some ⟨c, 0, none⟩)] w fun e w' => e = .panicked [{ v := notTold, recovered := false }] ∧ Below w.heap.size w w' := by
  have hcl := closureOf_no ps i v w hl hp hok hv
  have c0 := (one_cell ha).1
  have c1 := (one_cell hb).1
  obtain ⟨ao, vcap, rfl, _⟩ := hv
  go_enter Tryd.func50, Tryd.ntmps50
  go_wp2_with fail
  go_at_call 51
  refine hcl.mono ?_
  rintro e w1 ⟨rfl, b1⟩
  clear hcl
  go_wp2
  exact ⟨rfl, rfl, b1⟩

theorem implClosure (ps : List (List Stm)) (i : Int) (v : Value) (w : World) (hl : ps.length ≤ maxLen) (hp : ∀ p ∈ ps, p.length ≤ maxLen) (hv : ReadsP w v ps) :
    Calls Tryd.prog 30 #[.agg #[v], .int .i64 i] w fun e w' => ∃ u us, e = .returned (.agg #[u]) ∧ Own13 w' w.heap.size u us (cloA ps i) ∧ Below w.heap.size w w' := by
  have hmf : ∀ (fn : Fn) (first cap : Array Value) (w : World), (Instr.makeFunc fn first cap).run Tryd.prog w = .ok (.func fn first cap) w := fun _ _ _ _ => rfl
  obtain ⟨W0, hW0⟩ : ∃ W0, (((w.alloc (.cells #[v] 29)).alloc (.cells #[.int .i64 i] 2)).alloc (.cells #[.slice none 0 0] 29)).alloc (.cells #[.slice none 0 0] 29) = W0 := ⟨_, rfl⟩
  have b0 : Below w.heap.size w W0 := by rw [← hW0]; go_grown
  have s0 : W0.heap.size = w.heap.size + 4 := by rw [← hW0]; simp
  have H0 : W0.heap[w.heap.size]? = some (.cells #[v] 29 (0, 0)) := by
    rw [← hW0, old_block (by simp <;> omega), old_block (by simp <;> omega), old_block (by simp)]; exact heap_alloc_new w _
  have H1 : W0.heap[w.heap.size + 1]? = some (.cells #[.int .i64 i] 2 (0, 0)) := by
    rw [← hW0, old_block (by simp <;> omega), old_block (by simp)]
    have := heap_alloc_new (w.alloc (.cells #[v] 29)) (.cells #[.int .i64 i] 2)
    simpa using this
  have H2 : W0.heap[w.heap.size + 1 + 1]? = some (.cells #[.slice none 0 0] 29 (0, 0)) := by
    rw [← hW0, old_block (by simp)]
    have := heap_alloc_new ((w.alloc (.cells #[v] 29)).alloc (.cells #[.int .i64 i] 2)) (.cells #[.slice none 0 0] 29)
    simpa using this
  have H3 : W0.heap[w.heap.size + 1 + 1 + 1]? = some (.cells #[.slice none 0 0] 29 (0, 0)) := by
    rw [← hW0]
    have := heap_alloc_new (((w.alloc (.cells #[v] 29)).alloc (.cells #[.int .i64 i] 2)).alloc (.cells #[.slice none 0 0] 29)) (.cells #[.slice none 0 0] 29)
    simpa using this
  have bB : Below W0.heap.size W0 (W0.alloc (.cells #[.bool false] 4)) := by go_grown
  have HW0 : Hid _ := hW0
  clear hW0
  cases hok : hasB ps i
  · have hca : cloA ps i = [] := by unfold cloA; rw [hok]; rfl
    rw [hca]
    have h1 := closure1_no ps i v (.slice none 0 0) w.heap.size (w.heap.size + 1) (w.heap.size + 1 + 1 + 1) _ hl hp hok (readsP_below (readsP_below hv b0) bB) ((bB.block _ (by omega)).trans H0) ((bB.block _ (by omega)).trans H1)
    have h2 := came_no _ _ _ W0 (fun w' => Below W0.heap.size W0 w') (h1.mono (by
      rintro e w' ⟨rfl, b1⟩
      have hz : W0.heap.size < (W0.alloc (.cells #[.bool false] 4)).heap.size := by simp
      exact ⟨rfl, (b1.block _ hz).trans (heap_alloc_new W0 _), below_le bB b1 (by omega)⟩))
    clear h1 hok hca
    go_enter Tryd.func30, Tryd.ntmps30
    go_wp2_with fail
    rw [HW0.out]
    clear HW0
    go_wp2_with fail
    go_at_call 31
    refine h2.mono ?_
    rintro e w2 ⟨rfl, w1, b1, rfl⟩
    have s1 := b1.size
    have L1 : Below W0.heap.size W0 (w1.setCell ⟨W0.heap.size, 0, none⟩ (.bool false)) := b1.setCell (by simp) _
    have H22 := (L1.block (w.heap.size + 1 + 1) (by omega)).trans H2
    have L2 : Below w.heap.size w (w1.setCell ⟨W0.heap.size, 0, none⟩ (.bool false)) := below_le b0 L1 (by omega)
    clear h2 b1 L1
    generalize w1.setCell ⟨W0.heap.size, 0, none⟩ (.bool false) = w2 at *
    obtain ⟨d1, f1⟩ := one_cell H22
    have d2 := (one_cell (one_set H22 (.slice none 0 0))).1
    have HB : Hid (Below w.heap.size w (w2.setCell ⟨w.heap.size + 1 + 1, 0, none⟩ (.slice none 0 0))) := L2.setCell (by simp; omega) _
    go_wp2
    refine bodyPost_ret (v := .agg #[.slice none 0 0]) (by simp [results, Tryd.results30, go_sem, d2]) rfl ?_
    exact ⟨_, [], rfl, own13_nil _ _, HB.out⟩
  · have hca : cloA ps i = clo14 ps (ord14 ps i) := by unfold cloA; rw [hok]; rfl
    rw [hca]
    have h1 := closure1_yes ps i v (.slice none 0 0) w.heap.size (w.heap.size + 1) (w.heap.size + 1 + 1 + 1) _ hl hp hok (readsP_below (readsP_below hv b0) bB) ((bB.block _ (by omega)).trans H0) ((bB.block _ (by omega)).trans H1) ((bB.block _ (by omega)).trans H3)
    obtain ⟨C, hC⟩ : ∃ C, clo14 ps (ord14 ps i) = C := ⟨_, rfl⟩
    rw [hC] at h1 ⊢
    have h2 := came_yes _ _ _ W0 (fun w' => ∃ u us, Own13 w' (W0.heap.size + 1) u us C ∧ w'.heap[w.heap.size + 1 + 1 + 1]? = some (.cells #[u] 29 (0, 0)) ∧ W0.grownBy w' (some (w.heap.size + 1 + 1 + 1))) (h1.mono (by
      rintro e w' ⟨rfl, u, us, o1, hc1, g1⟩
      have hz : (W0.alloc (.cells #[.bool false] 4)).heap.size = W0.heap.size + 1 := by simp
      rw [hz] at o1
      exact ⟨rfl, (g1.block _ (by omega) (by simp; omega)).trans (heap_alloc_new W0 _), u, us, o1, hc1, grown_trans (grown_of_below bB _) g1⟩))
    clear h1 hok hca hC
    go_enter Tryd.func30, Tryd.ntmps30
    go_wp2_with fail
    rw [HW0.out]
    clear HW0
    go_wp2_with fail
    go_at_call 31
    refine h2.mono ?_
    rintro e w2 ⟨rfl, w1, ⟨u, us, o1, hc1, g1⟩, rfl⟩
    have s1 := g1.size
    have o2 : Own13 ((w1.setCell ⟨W0.heap.size, 0, none⟩ (.bool true)).setCell ⟨W0.heap.size, 0, none⟩ (.bool true)) (W0.heap.size + 1) u us C := (o1.grown (grown_setRow13 _ _ _ _) (fun k hk => .inl (by have := Option.some.inj hk; omega))).grown (grown_setRow13 _ _ _ _) (fun k hk => .inl (by have := Option.some.inj hk; omega))
    have hc2 : ((w1.setCell ⟨W0.heap.size, 0, none⟩ (.bool true)).setCell ⟨W0.heap.size, 0, none⟩ (.bool true)).heap[w.heap.size + 1 + 1 + 1]? = some (.cells #[u] 29 (0, 0)) := (Below.heap_setCell _ _ _ _ (by simp; omega)).trans ((Below.heap_setCell _ _ _ _ (by simp; omega)).trans hc1)
    have hd2 : ((w1.setCell ⟨W0.heap.size, 0, none⟩ (.bool true)).setCell ⟨W0.heap.size, 0, none⟩ (.bool true)).heap[w.heap.size + 1 + 1]? = some (.cells #[.slice none 0 0] 29 (0, 0)) := (Below.heap_setCell _ _ _ _ (by simp; omega)).trans ((Below.heap_setCell _ _ _ _ (by simp; omega)).trans ((g1.block _ (by omega) (by simp)).trans H2))
    have L2 : Below w.heap.size w ((w1.setCell ⟨W0.heap.size, 0, none⟩ (.bool true)).setCell ⟨W0.heap.size, 0, none⟩ (.bool true)) := ((b0.grown g1 (by omega) (fun k hk => by have := Option.some.inj hk; omega)).setCell (by simp; omega) _).setCell (by simp; omega) _
    clear h2 o1 hc1 g1 H0 H1 H2 H3
    generalize (w1.setCell ⟨W0.heap.size, 0, none⟩ (.bool true)).setCell ⟨W0.heap.size, 0, none⟩ (.bool true) = w2 at *
    obtain ⟨ua, um, uc, rfl⟩ := own_slice o2.row
    obtain ⟨d0, _⟩ := one_cell hc2
    obtain ⟨d1, f1⟩ := one_cell hd2
    have d2 := (one_cell (one_set hd2 (.slice ua um uc))).1
    have HB : Hid (Below w.heap.size w (w2.setCell ⟨w.heap.size + 1 + 1, 0, none⟩ (.slice ua um uc))) := L2.setCell (by simp; omega) _
    have HO : Hid (Own13 (w2.setCell ⟨w.heap.size + 1 + 1, 0, none⟩ (.slice ua um uc)) w.heap.size (.slice ua um uc) us C) := (o2.grown (grown_setRow13 _ _ _ _) (fun k hk => .inl (by have := Option.some.inj hk; omega))).mono (by omega)
    clear o2
    go_wp2
    refine bodyPost_ret (v := .agg #[.slice ua um uc]) (by simp [results, Tryd.results30, go_sem, d2]) rfl ?_
    exact ⟨_, us, rfl, HO.out, HB.out⟩

end Go.Proofs.YtgpnoahmpmbgfaaDoor
