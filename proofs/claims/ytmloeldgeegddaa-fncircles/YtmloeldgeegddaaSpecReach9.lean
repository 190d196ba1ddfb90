/-
  spec.l9Reach, spec.Reach.
-/
import Derived.Test.YtmloeldgeegddaaReach9M
namespace Go.Proofs.Ytmloeldgeegddaa
open Go.RowKit
set_option linter.unusedVariables false
set_option maxHeartbeats 4000000
set_option maxRecDepth 20000

theorem l9Reach (ps : List (List Stm)) (p : Nat) (A : List Int) (v : Value) (w : World) (hok : programOk ps = true) (hpl : p < ps.length) (hA : IsReach (callG ps) p A) (hv : ReadsP w v ps) :
    Calls Try.prog 91 #[.agg #[v], .int .i64 (p : Int)] w fun e w' => ∃ g cap, e = .returned (.slice (some ⟨g, 0, none⟩) A.length cap) ∧
      w'.ownsRow w.heap.size 2 1 (.slice (some ⟨g, 0, none⟩) A.length cap) A.length (ints A) ∧ Below w.heap.size w w' := by
  obtain ⟨i0, hi, hz0, hz1, hz2⟩ := info_parts infoInt
  have hg := graph_of hok
  obtain ⟨h4, _, hpr⟩ := programOk_len hok
  go_enter Try.func91, Try.ntmps91
  go_wp2
  obtain ⟨W1, hW1⟩ : ∃ W1, w.alloc (.cells #[v] 26) = W1 := ⟨_, rfl⟩
  obtain ⟨W2, hW2⟩ : ∃ W2, W1.alloc (.cells #[] 2) = W2 := ⟨_, rfl⟩
  have s1 : W1.heap.size = w.heap.size + 1 := by rw [← hW1]; simp
  have s2 : W2.heap.size = w.heap.size + 1 + 1 := by rw [← hW2]; simp [s1]
  have q0 : Queue (W2.alloc (.cells #[.int .i64 (p : Int)] 2)) (w.heap.size + 1) (.slice (some ⟨w.heap.size + 1 + 1, 0, none⟩) 1 1) [(p : Int)] := queue_own (xs := [(p : Int)]) (own_mono (by have := World.ownsRow_lit W2 (e := 2) #[.int .i64 (p : Int)] 1 (size := 1) (Nat.le_refl _) (by decide) (by simp); rw [s2] at this; exact this) (by omega))
  have m0 : (W2.alloc (.cells #[.int .i64 (p : Int)] 2)).ownsRow (w.heap.size + 1) 2 1 (.slice (some ⟨w.heap.size + 1, 0, none⟩) 0 0) 0 [] := by
    have := made0 W1
    rw [hW2, s1] at this
    exact this.alloc _
  have L0 : Below w.heap.size w (W2.alloc (.cells #[.int .i64 (p : Int)] 2)) := by rw [← hW2, ← hW1]; go_grown
  have X0 : (W2.alloc (.cells #[.int .i64 (p : Int)] 2)).heap[w.heap.size]? = some (.cells #[v] 26 (0, 0)) := by
    rw [old_block (by omega), ← hW2, old_block (by omega), ← hW1]
    exact heap_alloc_new w _
  rw [hW1, hW2]
  clear hW1 hW2
  go_loopw [5, 6] (fun o t wr => ∃ (out todo : List Int) (g cap : Nat), o = .slice (some ⟨g, 0, none⟩) out.length cap ∧ wr.ownsRow (w.heap.size + 1) 2 1 (.slice (some ⟨g, 0, none⟩) out.length cap) out.length (ints out) ∧ Queue wr (w.heap.size + 1) t todo ∧
      (∀ k, t.ownBlock = some k → k ≠ g) ∧ CInv (callG ps) p ps.length out todo ∧ Below w.heap.size w wr ∧ wr.heap[w.heap.size]? = some (.cells #[v] 26 (0, 0))) (fun o t _ => 5 * (4 - lenOf o) + lenOf t)
  case atStart => exact ⟨[], [(p : Int)], w.heap.size + 1, 0, rfl, m0, q0, fun k hk => by simp [Value.ownBlock] at hk; omega, CInv.start hpl, L0, X0⟩
  case round =>
    obtain ⟨out, todo, g, cap, rfl, hown, hq, hne, hR, hL, hX⟩ := hrel
    clear q0 m0 L0 X0
    have hol := hR.outLen hg hpl
    have htl := hR.len
    have hbx : w.heap.size < wr.heap.size := (Array.getElem?_eq_some_iff.1 hX).1
    cases todo with
    | nil =>
      have he := isReach_unique hA hR.done
      obtain ⟨gq, offq, capq, rfl, _⟩ := hq
      subst he
      go_wp2
      go_ret
      exact ⟨g, cap, rfl, own_mono hown (by omega), hL⟩
    | cons x todo =>
      obtain ⟨i, rfl, hil, _⟩ := hR.todoR x (by simp)
      obtain ⟨gq, offq, capq, hgq, _⟩ := id hq
      obtain ⟨t1, t2, t3, t4⟩ := (hgq ▸ hq : Queue wr (w.heap.size + 1) (.slice (some ⟨gq, offq, none⟩) (todo.length + 1) capq) ((i : Int) :: todo)).tail
      subst hgq
      have hgne : gq ≠ g := hne gq rfl
      obtain ⟨a1, c1, hcase, qT, qB⟩ : ∃ a1 c1, ((capq = 1 ∧ a1 = some ⟨gq, offq, none⟩ ∧ c1 = 0) ∨ (¬ capq = 1 ∧ a1 = some ⟨gq, offq + 1, none⟩ ∧ c1 = capq - 1)) ∧ Queue wr (w.heap.size + 1) (.slice a1 todo.length c1) todo ∧ (Value.slice a1 todo.length c1).ownBlock = some gq := by
        by_cases hc1 : capq = 1
        · have hq0 : todo.length = 0 := by omega
          refine ⟨_, _, .inl ⟨hc1, rfl, rfl⟩, ?_, rfl⟩
          rw [hq0]
          exact t3 hc1
        · exact ⟨_, _, .inr ⟨hc1, rfl, rfl⟩, t4, rfl⟩
      have hlen0 : (0 : Int) < ((((i : Int) :: todo).length : Nat) : Int) := by simp only [List.length_cons]; omega
      have hlen1 : (1 : Int) ≤ ((((i : Int) :: todo).length : Nat) : Int) := by simp only [List.length_cons]; omega
      have hz3 : ((i : Int) :: todo).length - 1 = todo.length := by simp
      have hcap : ((i : Int) :: todo).length ≤ capq := by simpa using t2
      have htl' : todo.length + 1 ≤ 25 := by simp at htl; omega
      obtain ⟨M, hM⟩ : ∃ M, ((i : Int) :: todo).length = M := ⟨_, rfl⟩
      have HM : Hid _ := hM
      have hM25 : M ≤ 25 := by rw [← hM]; simp; omega
      have hMt : M = todo.length + 1 := by rw [← hM]; simp
      rw [hM] at hlen0 hlen1 hz3 hcap
      rw [hM]
      obtain ⟨cx, _⟩ := one_cell hX
      have hh := l1Has out i (.slice (some ⟨g, 0, none⟩) out.length cap) wr (by unfold maxLen; omega) (reads_own hown)
      rw [hasI_mem] at hh
      have HT : Hid (Queue wr (w.heap.size + 1) (.slice a1 todo.length c1) todo) := qT
      have HX : Hid (wr.heap[w.heap.size]? = some (.cells #[v] 26 (0, 0))) := hX
      clear t3 t4 hM qT hq hX hMt
      rcases hcase with ⟨hc1, rfl, rfl⟩ | ⟨hc1, rfl, rfl⟩
      all_goals
        by_cases hin : (i : Int) ∈ out
        · rw [decide_eq_true hin] at hh
          have hsk : Hid (CInv (callG ps) p ps.length out todo) := hR.skip hin
          clear hR hin
          go_wp2_with fail
          go_at_call 90
          refine hh.mono ?_
          rintro e w2 ⟨rfl, b2⟩
          clear hh
          have hown2 := own_kept hown b2
          have hq2 : Hid (Queue w2 (w.heap.size + 1) _ todo) := HT.out.kept (grown_of_below b2 none) (by simp)
          have hX2 := (b2.block w.heap.size hbx).trans HX.out
          have hL2 := hL.trans (b2.mono hL.size)
          go_wp2
          go_roundw
          case rel => exact ⟨out, todo, g, cap, rfl, hown2, hq2.out, fun k hk => by simp [Value.ownBlock] at hk; omega, hsk.out, hL2, hX2⟩
          case measure => simp only [lenOf]; omega
        · rw [decide_eq_false hin] at hh
          have hst : Hid (CInv (callG ps) p ps.length (ins i out) (todo ++ callG ps i)) := hR.step hg hin
          have hil2 := ins_len_new (i : Int) out hin
          have HI : Hid _ := hil2
          have hnl : (callG ps i).length ≤ 4 := hg.len i
          have hio : (ins (i : Int) out).length ≤ 4 := hst.out.outLen hg hpl
          clear hR hin hil2
          go_wp2_with fail
          go_at_call 90
          refine hh.mono ?_
          rintro e w2 ⟨rfl, b2⟩
          clear hh
          have sb2 := b2.size
          have hown2 := own_kept hown b2
          have hq2 : Hid (Queue w2 (w.heap.size + 1) _ todo) := HT.out.kept (grown_of_below b2 none) (by simp)
          have hX2 := (b2.block w.heap.size hbx).trans HX.out
          have hL2 := hL.trans (b2.mono hL.size)
          have hput := l1PutAt out i g cap (w.heap.size + 1) w2 (by omega) (by omega) hown2
          go_wp2_with fail
          go_at_call 96
          refine hput.mono ?_
          rintro e w3 ⟨g3, c3, rfl, own3, b3, hg3⟩
          clear hput
          have sb3 := b3.size
          have hq3 : Hid (Queue w3 (w.heap.size + 1) _ todo) := hq2.out.kept (grown_of_below b3 none) (by simp)
          have hX3 := (b3.block w.heap.size (by omega)).trans hX2
          have hL3 := hL2.trans (b3.mono hL2.size)
          have hnx := l3Calls ps i v w3 hil (by unfold maxLen; omega) (procOk_len (hpr ps[i] (List.getElem_mem hil)).1) (readsP_below hv hL3)
          rw [← callG_eq hok hil] at hnx
          obtain ⟨cx3, _⟩ := one_cell hX3
          have hg3q : g3 ≠ gq := by
            rcases hg3 with h | h
            · omega
            · have := (HT.out.lt gq rfl).2; omega
          clear cx
          go_wp2_with fail
          go_at_call 55
          refine hnx.mono ?_
          rintro e w4 ⟨g4, c4, rfl, own4, b4⟩
          clear hnx cx3
          have sb4 := b4.size
          have hq4 : Hid (Queue w4 (w.heap.size + 1) _ todo) := hq3.out.kept (grown_of_below b4 none) (by simp)
          have hX4 := (b4.block w.heap.size (by omega)).trans hX3
          have hL4 := hL3.trans (b4.mono hL3.size)
          have own5 := own_kept own3 b4
          have hcs : Hid (∀ j u, (ints (callG ps i))[j]? = some u → w4.cell? ((⟨g4, 0, none⟩ : Addr).add j) = some u) := own4.cells rfl
          have HX4 : Hid (w4.heap[w.heap.size]? = some (.cells #[v] 26 (0, 0))) := hX4
          clear hX4 hX3 hX2
          go_wp2_with (first
            | (at_builtin; refine wpList_append_queue rfl (.tmp 25) (.tmp 28) 30 rfl i0 Try.underlying30 hi hz0 hz1 hz2 rfl hq4.out ⟨g4, 0, none⟩ (callG ps i).length _ (callG ps i) rfl rfl hcs.out (by omega) (by omega) ?_; intro v7 w7 q7 gr7 k7)
            | go_in)
          replace gr7 : w4.grownBy w7 (some gq) := gr7
          replace k7 : ∀ k, v7.ownBlock = some k → some gq = some k ∨ w4.heap.size ≤ k := k7
          have hX7 := (gr7.block w.heap.size (by omega) (fun e => by have := (hq4.out.lt gq rfl).1; simp at e; omega)).trans HX4.out
          have hL7 : Below w.heap.size w w7 := hL4.grown gr7 hL4.size (fun k e => by have := (hq4.out.lt gq rfl).1; simp at e; omega)
          have own7 := own_grown own5 gr7 (fun k hk e => by simp [Value.ownBlock] at hk; simp at e; omega)
          have hv7 : ∃ a7 c7, v7 = .slice a7 (todo ++ callG ps i).length c7 := by
            obtain ⟨x1, x2, x3, e, _⟩ := q7
            exact ⟨_, _, e⟩
          obtain ⟨a7, c7, rfl⟩ := hv7
          go_roundw
          case rel =>
            refine ⟨ins i out, todo ++ callG ps i, g3, c3, rfl, own7, q7, fun k hk => ?_, hst.out, hL7, hX7⟩
            rcases k7 k hk with h | h
            · simp at h; omega
            · have := (own5.lt g3 rfl).2; omega
          case measure =>
            have := HI.out
            simp only [lenOf, List.length_append]
            omega

theorem specReach (ps : List (List Stm)) (i : Int) (A : List Int) (hA : ReachA ps i A) (v : Value) (w : World) (hl : ps.length ≤ maxLen) (hp : ∀ p ∈ ps, p.length ≤ maxLen) (hv : ReadsP w v ps) :
    Calls Try.prog 41 #[.agg #[v], .int .i64 i] w fun e w' => ∃ u, e = .returned u ∧ w'.ownsRow w.heap.size 2 1 u A.length (ints A) ∧ Below w.heap.size w w' := by
  have hb0 : Below w.heap.size w (w.alloc (.cells #[v] 26)) := by go_grown
  have he := l3In ps i v _ hl hp (readsP_below hv hb0)
  have H0 := heap_alloc_new w (.cells #[v] 26)
  have s0 : (w.alloc (.cells #[v] 26)).heap.size = w.heap.size + 1 := by simp
  cases hok : hasB ps i
  · rw [hok] at he
    obtain rfl := hA.2 hok
    go_enter Try.func41, Try.ntmps41
    go_wp2_with (go_at_call 54; refine he.mono ?_; rintro e w2 ⟨rfl, b2⟩)
    go_ret
    have L2 := hb0.trans (b2.mono hb0.size)
    exact ⟨_, rfl, by simpa [ints] using own_mono (made0 w2) L2.size, L2.alloc L2.size _⟩
  · rw [hok] at he
    have hA1 := hA.1 hok
    obtain ⟨hpok, j, hj, rfl, _⟩ := hasB_true hok
    rw [Int.toNat_natCast] at hA1
    go_enter Try.func41, Try.ntmps41
    go_wp2_with fail
    go_at_call 54
    refine he.mono ?_
    rintro e w2 ⟨rfl, b2⟩
    obtain ⟨c2, f2⟩ := one_cell ((b2.block w.heap.size (by omega)).trans H0)
    have L2 := hb0.trans (b2.mono hb0.size)
    have h3 := l9Reach ps j A v w2 hpok hj hA1 (readsP_below hv L2)
    clear he
    go_wp2_with fail
    go_at_call 91
    refine h3.mono ?_
    rintro e w3 ⟨g, cap, rfl, own3, b3⟩
    go_wp2
    go_ret
    exact ⟨_, rfl, own_mono own3 L2.size, L2.trans (b3.mono L2.size)⟩

end Go.Proofs.Ytmloeldgeegddaa
