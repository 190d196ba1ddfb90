/-
  impl.Edited.
-/
import Derived.Test.YtoflfeegllpifaaMade
namespace Go.Proofs.Ytoflfeegllpifaa
open Go.RowKit
set_option linter.unusedVariables false
set_option linter.unusedSimpArgs false
set_option maxHeartbeats 4000000
set_option maxRecDepth 20000

theorem editB_made (ps : List (List Stm)) (e : Edt) : editB ps e = (made13 ps e.k e.pr e.a e.s).isSome := by
  obtain ⟨k, pr, a, s⟩ := e
  unfold editB made13 placeB
  simp only
  generalize ps.getD pr.toNat [] = q
  generalize wiB pr ps.length = b1
  generalize wiB a q.length = b2
  rcases (by omega : k = 1 ∨ k = 2 ∨ k = 3 ∨ k = 4 ∨ (k ≠ 1 ∧ k ≠ 2 ∧ k ≠ 3 ∧ k ≠ 4)) with rfl | rfl | rfl | rfl | ⟨h1, h2, h3, h4⟩
  · cases b1 <;> cases b2 <;> simp
  · cases b1 <;> cases b2 <;> simp
  · cases b1 <;> cases b2 <;> cases hz : zeroS s <;> simp
  · by_cases h1 : pr = 0 <;> by_cases h2 : a = 0 <;> cases hz : zeroS s <;> simp [h1, h2]
  · simp [h1, h2, h3, h4]

theorem own13_nil (w : World) (base : Nat) : Own13 w base (.slice none 0 0) [] [] :=
  ⟨⟨rfl, .inl ⟨rfl, rfl⟩⟩, fun j u p h => by simp at h, fun i j a b k _ h => by simp at h⟩

theorem Own13.small {w : World} {base : Nat} {v : Value} {us : List Value} {ps : List (List Stm)} (h : Own13 w base v us ps) : ps.length ≤ maxLen ∧ ∀ p ∈ ps, p.length ≤ maxLen := by
  have len : ∀ {e : TypeId} {s n : Nat} {x : Value} {xs : List Value}, w.ownsRow base e s x n xs → n ≤ maxLen := by
    intro e s n x xs hx
    rcases hx.2 with ⟨_, h0⟩ | ⟨g, cap, cur, _, _, _, h1, h2, _⟩
    · omega
    · exact Nat.le_trans h1 h2
  refine ⟨len h.row, fun p hp => ?_⟩
  obtain ⟨j, hj⟩ := List.getElem?_of_mem hp
  have hjl := (List.getElem?_eq_some_iff.1 hj).1
  have hju : j < us.length := by rw [h.len]; exact hjl
  exact len (h.each j us[j] p (by simp) hj)

theorem implEdited (ps : List (List Stm)) (e : Edt) (v : Value) (w : World) (hl : ps.length ≤ maxLen) (hp : ∀ p ∈ ps, p.length ≤ maxLen) (hv : ReadsP w v ps) :
    Calls Try.prog 25 #[.agg #[v], edV e] w fun r w' => ∃ u us, r = .returned (.tuple #[.agg #[u], .bool (edited13 ps e.k e.pr e.a e.s).isSome]) ∧ Own13 w' w.heap.size u us ((edited13 ps e.k e.pr e.a e.s).getD []) ∧ Below w.heap.size w w' := by
  obtain ⟨A, hA⟩ : ∃ A, edited13 ps e.k e.pr e.a e.s = A := ⟨_, rfl⟩
  rw [hA]
  unfold edited13 at hA
  have hpo := implProgramOk ps v
  have heo := editOk ps e v
  have hmd := fun qs => madeBy ps qs e v
  have hme := editB_made ps e
  obtain ⟨k, pr, a, ⟨sk, sx, sy⟩⟩ := e
  unfold edV at *
  simp only at hA hpo heo hmd hme ⊢
  obtain ⟨ao, vcap, rfl, hcv⟩ := id hv
  clear hcv
  obtain ⟨W0, hW0⟩ : ∃ W0, ((w.alloc (.cells #[.slice ao ps.length vcap] 26)).alloc (.cells #[.int .i64 k, .int .i64 pr, .int .i64 a, .int .i64 sk, .int .i64 sx, .int .i64 sy] 47)).alloc (.cells #[.slice none 0 0] 26) = W0 := ⟨_, rfl⟩
  have b0 : Below w.heap.size w W0 := by rw [← hW0]; go_grown
  have s0 : W0.heap.size = w.heap.size + 3 := by rw [← hW0]; simp
  have H0 : W0.heap[w.heap.size]? = some (.cells #[.slice ao ps.length vcap] 26 (0, 0)) := by rw [← hW0, old_block (by simp; omega), old_block (by simp)]; exact heap_alloc_new w _
  have H1 : W0.heap[w.heap.size + 1]? = some (.cells #[.int .i64 k, .int .i64 pr, .int .i64 a, .int .i64 sk, .int .i64 sx, .int .i64 sy] 47 (0, 0)) := by
    rw [← hW0, old_block (by simp)]
    have := heap_alloc_new (w.alloc (.cells #[.slice ao ps.length vcap] 26)) (.cells #[.int .i64 k, .int .i64 pr, .int .i64 a, .int .i64 sk, .int .i64 sx, .int .i64 sy] 47)
    simpa using this
  have H2 : W0.heap[w.heap.size + 1 + 1]? = some (.cells #[.slice none 0 0] 26 (0, 0)) := by
    rw [← hW0]
    have := heap_alloc_new ((w.alloc (.cells #[.slice ao ps.length vcap] 26)).alloc (.cells #[.int .i64 k, .int .i64 pr, .int .i64 a, .int .i64 sk, .int .i64 sx, .int .i64 sy] 47)) (.cells #[.slice none 0 0] 26)
    simpa using this
  have c0 := (one_cell H0).1
  -- the end where it says false
  have hno : ∀ w5 : World, Below W0.heap.size W0 w5 → w5.cell? ⟨w.heap.size + 1 + 1, 0, none⟩ = some (.slice none 0 0) ∧ w5.frozen? ⟨w.heap.size + 1 + 1, 0, none⟩ = false ∧ (w5.setCell ⟨w.heap.size + 1 + 1, 0, none⟩ (.slice none 0 0)).cell? ⟨w.heap.size + 1 + 1, 0, none⟩ = some (.slice none 0 0) ∧ Below w.heap.size w (w5.setCell ⟨w.heap.size + 1 + 1, 0, none⟩ (.slice none 0 0)) := fun w5 hb => by
    have h1 := (hb.block (w.heap.size + 1 + 1) (by omega)).trans H2
    exact ⟨(one_cell h1).1, (one_cell h1).2, (one_cell (one_set h1 _)).1, (b0.trans (hb.mono b0.size)).setCell (by simp; omega) _⟩
  have HNO : Hid _ := hno
  clear hno
  cases hok : programOk ps
  · rw [hok] at hA hpo
    simp only [Bool.false_eq_true, if_false] at hA
    subst hA
    go_enter Try.func25, Try.ntmps25
    go_wp2_with fail
    go_at_call 11
    refine (hpo W0 hl hp (readsP_below hv b0)).mono ?_
    rintro r w1 ⟨rfl, b1⟩
    obtain ⟨d0, d1, d2, d3⟩ := HNO.out w1 b1
    have HB : Hid _ := d3
    clear d3 hmd heo
    go_wp2
    refine bodyPost_ret (v := .tuple #[.agg #[.slice none 0 0], .bool false]) (by simp [results, Try.results25, go_sem, d2]) rfl ?_
    exact ⟨_, [], rfl, own13_nil _ _, HB.out⟩
  rw [hok] at hA hpo
  simp only [if_true] at hA
  obtain ⟨hl1, hl4, hprc⟩ := progs13 hok
  have hp100 : ∀ p ∈ ps, p.length ≤ 100 := fun p hp => by have := (procs13 (hprc p hp)).2.1; omega
  cases hm : made13 ps k pr a ⟨sk, sx, sy⟩ with
  | none =>
    rw [hm] at hA hme
    simp only [Option.isSome_none] at hme
    subst hA
    rw [hme] at heo
    go_enter Try.func25, Try.ntmps25
    go_wp2_with fail
    go_at_call 11
    refine (hpo W0 hl hp (readsP_below hv b0)).mono ?_
    rintro r w1 ⟨rfl, b1⟩
    have bb := b0.trans (b1.mono b0.size)
    have z1 := b1.size
    have c1 := (one_cell ((b1.block w.heap.size (by omega)).trans H0)).1
    have E1 := (b1.block (w.heap.size + 1) (by omega)).trans H1
    obtain ⟨k0, k1, k2⟩ := edit_cells0 E1
    obtain ⟨k3, k4, k5⟩ := edit_cells E1
    have heo1 := heo w1 (by omega) hp100 (readsP_below hv bb)
    clear hmd heo E1
    go_wp2_with fail
    go_at_call 45
    refine heo1.mono ?_
    rintro r w2 ⟨rfl, b2⟩
    obtain ⟨d0, d1, d2, d3⟩ := HNO.out w2 (b1.trans (b2.mono b1.size))
    have HB : Hid _ := d3
    clear d3 heo1
    go_wp2
    refine bodyPost_ret (v := .tuple #[.agg #[.slice none 0 0], .bool false]) (by simp [results, Try.results25, go_sem, d2]) rfl ?_
    exact ⟨_, [], rfl, own13_nil _ _, HB.out⟩
  | some qs =>
    rw [hm] at hA hme
    simp only [Option.isSome_some] at hme
    simp only at hA
    have hmq := fun W hW => hmd qs W hok hme hm hW
    rw [hme] at heo
    clear hmd
    go_enter Try.func25, Try.ntmps25
    go_wp2_with fail
    go_at_call 11
    refine (hpo W0 hl hp (readsP_below hv b0)).mono ?_
    rintro r w1 ⟨rfl, b1⟩
    have bb := b0.trans (b1.mono b0.size)
    have z1 := b1.size
    have P1 := (b1.block w.heap.size (by omega)).trans H0
    have E1 := (b1.block (w.heap.size + 1) (by omega)).trans H1
    have c1 := (one_cell P1).1
    obtain ⟨k0, k1, k2⟩ := edit_cells0 E1
    obtain ⟨k3, k4, k5⟩ := edit_cells E1
    have heo1 := heo w1 (by omega) hp100 (readsP_below hv bb)
    clear heo c0
    go_wp2_with fail
    go_at_call 45
    refine heo1.mono ?_
    rintro r w2 ⟨rfl, b2⟩
    have z2 := b2.size
    have B2 := b1.trans (b2.mono b1.size)
    have bb2 := bb.trans (b2.mono bb.size)
    have P2 := (b2.block w.heap.size (by omega)).trans P1
    have E2 := (b2.block (w.heap.size + 1) (by omega)).trans E1
    clear c1 k0 k1 k2 k3 k4 k5 heo1
    have c1 := (one_cell P2).1
    obtain ⟨k0, k1, k2⟩ := edit_cells0 E2
    obtain ⟨k3, k4, k5⟩ := edit_cells E2
    have hmq2 := hmq w2 (readsP_below hv bb2)
    clear hmq
    go_wp2_with fail
    go_at_call 46
    refine hmq2.mono ?_
    rintro r w3 ⟨u, us, rfl, OW, b3⟩
    have z3 := b3.size
    have B3 := B2.trans (b3.mono B2.size)
    obtain ⟨q1, q2⟩ := OW.small
    obtain ⟨ua, um, uc, rfl⟩ := own_slice OW.row
    have b4 : Below w3.heap.size w3 (w3.alloc (.cells #[.slice ua um uc] 26)) := by go_grown
    have z4 : (w3.alloc (.cells #[.slice ua um uc] 26)).heap.size = w3.heap.size + 1 := by simp
    have OW4 := OW.kept b4
    have B4 := B3.trans (b4.mono B3.size)
    have Q4 := heap_alloc_new w3 (.cells #[.slice ua um uc] 26)
    have hpo4 := implProgramOk qs (.slice ua um uc) (w3.alloc (.cells #[.slice ua um uc] 26)) q1 q2 (readsP_own OW4.ownP)
    have HOW : Hid _ := OW4
    clear OW OW4 hmq2 k0 k1 k2 k3 k4 k5 c1 E2 P2
    go_wp2_with fail
    go_at_call 11
    refine hpo4.mono ?_
    rintro r w5 ⟨rfl, b5⟩
    have B5 := B4.trans (b5.mono B4.size)
    have Q5 := (b5.block w3.heap.size (by omega)).trans Q4
    have c5 := (one_cell Q5).1
    have HOW5 : Hid (Own13 w5 w2.heap.size (.slice ua um uc) us qs) := HOW.out.kept b5
    have HBB : Hid (Below W0.heap.size W0 w5) := B5
    have R5 := (B5.block (w.heap.size + 1 + 1) (by omega)).trans H2
    cases hq : programOk qs
    · rw [hq] at hA
      simp only [Bool.false_eq_true, if_false] at hA
      subst hA
      obtain ⟨d0, d1, d2, d3⟩ := HNO.out w5 B5
      have HB : Hid _ := d3
      clear d3 hpo4
      go_wp2
      refine bodyPost_ret (v := .tuple #[.agg #[.slice none 0 0], .bool false]) (by simp [results, Try.results25, go_sem, d2]) rfl ?_
      exact ⟨_, [], rfl, own13_nil _ _, HB.out⟩
    · rw [hq] at hA
      simp only [if_true] at hA
      subst hA
      obtain ⟨d0, d1⟩ := one_cell R5
      have d2 := (one_cell (one_set R5 (.slice ua um uc))).1
      have HF : Hid (Own13 (w5.setCell ⟨w.heap.size + 1 + 1, 0, none⟩ (.slice ua um uc)) w.heap.size (.slice ua um uc) us qs ∧ Below w.heap.size w (w5.setCell ⟨w.heap.size + 1 + 1, 0, none⟩ (.slice ua um uc))) :=
        ⟨(HOW5.out.grown (grown_setRow13 _ _ _ _) (fun k hk => .inl (by have := Option.some.inj hk; omega))).mono (by omega), (b0.trans (HBB.out.mono b0.size)).setCell (by simp; omega) _⟩
      clear hpo4
      go_wp2
      refine bodyPost_ret (v := .tuple #[.agg #[.slice ua um uc], .bool true]) (by simp [results, Try.results25, go_sem, d2]) rfl ?_
      exact ⟨_, us, rfl, HF.out.1, HF.out.2⟩

end Go.Proofs.Ytoflfeegllpifaa
