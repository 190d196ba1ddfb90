/-
  impl.isLoop, by slices.ContainsFunc and slices.IndexFunc.
-/
import Derived.Test.YtjlfmjoallnojadImplLoops
import Derived.Test.YtjlfmjoallnojadBodyM
namespace Go.Proofs.Ytjlfmjoallnojad
open Go.RowKit
set_option linter.unusedVariables false
set_option linter.unusedSimpArgs false
set_option maxHeartbeats 4000000

theorem isLoop1 (x y f g : Int) (u : Value) (a b : Nat) (w : World) (hu : Reads w u (ints [x, y])) (ha : w.cell? ⟨a, 0, none⟩ = some (.int .i64 f)) (hb : w.cell? ⟨b, 0, none⟩ = some (.int .i64 g)) :
    Calls Try.prog 40 #[u, .pointer (some ⟨a, 0, none⟩), .pointer (some ⟨b, 0, none⟩)] w fun e w' => e = .returned (.bool (decide (x = f) && decide (y = g))) ∧ Below w.heap.size w w' := by
  obtain ⟨ao, cap, rfl, hc⟩ := hu
  obtain ⟨q, off, rfl, c0⟩ := hc 0 (.int .i64 x) rfl
  obtain ⟨q', off', e', c1⟩ := hc 1 (.int .i64 y) rfl
  obtain ⟨rfl, rfl⟩ : q = q' ∧ off = off' := by simpa using e'
  rw [Nat.add_zero] at c0
  clear hc e'
  change Calls Try.prog 40 #[.slice (some ⟨q, off, none⟩) 2 cap, .pointer (some ⟨a, 0, none⟩), .pointer (some ⟨b, 0, none⟩)] w _
  by_cases hx : x = f
  · subst hx
    by_cases hy : y = g
    · subst hy
      have e : (decide (x = x) && decide (y = y)) = true := by simp
      rw [e]
      clear e
      go_enter Try.func40, Try.ntmps40
      go_wp2_with fail
      go_quiet (fail)
      go_wp2
      go_ret
      exact ⟨rfl, below_drewN (Below.refl _ _) _⟩
    · have hy' : (y == g) = false := by simpa using hy
      have e : (decide (x = x) && decide (y = g)) = false := by simp [hy]
      rw [e]
      clear e hy
      go_enter Try.func40, Try.ntmps40
      go_wp2_with fail
      go_quiet (fail)
      go_wp2
      go_ret
      exact ⟨rfl, below_drewN (Below.refl _ _) _⟩
  · have hx' : (x == f) = false := by simpa using hx
    have e : (decide (x = f) && decide (y = g)) = false := by simp [hx]
    rw [e]
    clear e hx
    go_enter Try.func40, Try.ntmps40
    go_wp2_with fail
    go_quiet (fail)
    go_wp2
    go_ret
    exact ⟨rfl, below_drewN (Below.refl _ _) _⟩

theorem indexFunc (xss : List (List Int)) (f g : Int) (a b : Nat) (v : Value) (w : World) (hl : xss.length ≤ 1000) (h2 : ∀ xs ∈ xss, xs.length = 2) (hv : ReadsSS w v xss) (ha : w.cell? ⟨a, 0, none⟩ = some (.int .i64 f)) (hb : w.cell? ⟨b, 0, none⟩ = some (.int .i64 g)) :
    Calls Try.prog 49 #[v, .func (.func 40) #[] #[.pointer (some ⟨a, 0, none⟩), .pointer (some ⟨b, 0, none⟩)]] w fun e w' => ∃ r : Int, e = .returned (.int .i64 r) ∧ decide (0 ≤ r) = decide ([f, g] ∈ xss) ∧ Below w.heap.size w w' := by
  obtain ⟨ao, cap, rfl, hc⟩ := hv
  have HC : Hid (∀ j xs, xss[j]? = some xs → ∃ g off u, ao = some ⟨g, off, none⟩ ∧ w.cell? ⟨g, off + j, none⟩ = some u ∧ Reads w u (ints xs)) := hc
  clear hc
  have la := World.block_lt_of_cell? w _ ha
  have lb := World.block_lt_of_cell? w _ hb
  go_enter Try.func49, Try.ntmps49
  go_wp2_with fail
  go_loopw [5, 8] (fun _ iv wr => ∃ k : Nat, k ≤ xss.length ∧ iv = .int .i64 k ∧ [f, g] ∉ xss.take k ∧ Below w.heap.size w wr) (fun _ iv _ => xss.length - (intOf iv).toNat)
  case atStart => exact ⟨0, Nat.zero_le _, rfl, by simp, Below.refl _ _⟩
  case round =>
    obtain ⟨k, hk, rfl, hno, hL⟩ := hrel
    have HNO : Hid ([f, g] ∉ xss.take k) := hno
    clear hno
    by_cases hlt : k < xss.length
    · have hlt' : (k : Int) < (xss.length : Int) := by omega
      obtain ⟨xs, hxs⟩ : ∃ xs, xss[k] = xs := ⟨_, rfl⟩
      have hlen := h2 _ (List.getElem_mem hlt)
      rw [hxs] at hlen
      obtain ⟨x, y, rfl⟩ : ∃ x y, xs = [x, y] := by
        match xs, hlen with
        | [x, y], _ => exact ⟨x, y, rfl⟩
      obtain ⟨q, off, u, rfl, cu, ru⟩ := HC.out k [x, y] (by rw [List.getElem?_eq_getElem hlt, hxs])
      have cu := (hL.cell (World.block_lt_of_cell? w _ cu)).trans cu
      have h1 := isLoop1 x y f g u a b wr (reads_below ru hL) ((hL.cell la).trans ha) ((hL.cell lb).trans hb)
      have HX : Hid (xss[k] = [x, y]) := hxs
      obtain ⟨ub, un, uc, rfl⟩ : ∃ a n c, u = .slice a n c := by obtain ⟨a, c, rfl, _⟩ := ru; exact ⟨_, _, _, rfl⟩
      clear hxs hlen ru
      go_wp2_with fail
      go_at_call 40
      refine h1.mono ?_
      rintro e w2 ⟨rfl, b2⟩
      have L2 := hL.trans (b2.mono hL.size)
      clear h1
      by_cases hxy : x = f ∧ y = g
      · obtain ⟨rfl, rfl⟩ := hxy
        have e : (decide (x = x) && decide (y = y)) = true := by simp
        rw [e]
        clear e
        have HM : Hid ([x, y] ∈ xss) := HX.out ▸ List.getElem_mem hlt
        go_wp2
        go_ret
        exact ⟨k, rfl, by rw [decide_eq_true HM.out]; simp, L2⟩
      · have e : (decide (x = f) && decide (y = g)) = false := by
          by_cases h1 : x = f
          · have h2 : ¬ y = g := fun h2 => hxy ⟨h1, h2⟩
            simp [h2]
          · simp [h1]
        rw [e]
        clear e
        go_wp2
        go_roundw
        case rel =>
          refine ⟨k + 1, by omega, by go_num, ?_, L2⟩
          rw [List.take_succ_eq_append_getElem hlt, HX.out]
          intro h
          rcases List.mem_append.1 h with h | h
          · exact HNO.out h
          · simp at h; exact hxy ⟨h.1.symm, h.2.symm⟩
        case measure => simp [intOf]; omega
    · have hkk : k = xss.length := by omega
      subst hkk
      rw [List.take_length] at HNO
      go_wp2
      go_ret
      exact ⟨-1, rfl, by rw [decide_eq_false HNO.out]; rfl, hL⟩

theorem containsFunc (xss : List (List Int)) (f g : Int) (a b : Nat) (v : Value) (w : World) (hl : xss.length ≤ 1000) (h2 : ∀ xs ∈ xss, xs.length = 2) (hv : ReadsSS w v xss) (ha : w.cell? ⟨a, 0, none⟩ = some (.int .i64 f)) (hb : w.cell? ⟨b, 0, none⟩ = some (.int .i64 g)) :
    Calls Try.prog 39 #[v, .func (.func 40) #[] #[.pointer (some ⟨a, 0, none⟩), .pointer (some ⟨b, 0, none⟩)]] w fun e w' => e = .returned (.bool (decide ([f, g] ∈ xss))) ∧ Below w.heap.size w w' := by
  have hi := indexFunc xss f g a b v w hl h2 hv ha hb
  go_enter Try.func39, Try.ntmps39
  go_wp2_with fail
  go_at_call 49
  refine hi.mono ?_
  rintro e w1 ⟨r, rfl, hr, b1⟩
  have HR : Hid _ := hr
  clear hi hr
  go_wp2
  go_ret
  exact ⟨by rw [← HR.out]; simp, b1⟩

theorem loopsAns_two {ss : List Stm} {xs : List Int} (h : xs ∈ loopsAns ss) : xs.length = 2 := by
  unfold loopsAns at h
  split at h
  · obtain ⟨j, y, _, rfl, _⟩ := loopsTo_mem h
    rfl
  · simp at h

theorem isLoop (ss : List Stm) (f g : Int) (v : Value) (w : World) (hl : ss.length ≤ maxLen) (hv : Reads3 w v ss) :
    Calls Try.prog 21 #[.agg #[v], .int .i64 f, .int .i64 g] w fun e w' => e = .returned (.bool (decide ([f, g] ∈ loopsAns ss))) ∧ Below w.heap.size w w' := by
  obtain ⟨W, hW⟩ : ∃ W, ((w.alloc (.cells #[v] 26)).alloc (.cells #[.int .i64 f] 2)).alloc (.cells #[.int .i64 g] 2) = W := ⟨_, rfl⟩
  have hb0 : Below w.heap.size w W := by rw [← hW]; go_grown
  have hA : W.heap[w.heap.size + 1]? = some (.cells #[.int .i64 f] 2 (0, 0)) := by
    rw [← hW, old_block (by simp)]
    have := heap_alloc_new (w.alloc (.cells #[v] 26)) (.cells #[.int .i64 f] 2)
    simpa using this
  have hB : W.heap[w.heap.size + 1 + 1]? = some (.cells #[.int .i64 g] 2 (0, 0)) := by
    rw [← hW]
    have := heap_alloc_new ((w.alloc (.cells #[v] 26)).alloc (.cells #[.int .i64 f] 2)) (.cells #[.int .i64 g] 2)
    simpa using this
  have hlo := implLoops ss v W hl (reads3_below hv hb0)
  have HW : Hid (((w.alloc (.cells #[v] 26)).alloc (.cells #[.int .i64 f] 2)).alloc (.cells #[.int .i64 g] 2) = W) := hW
  clear hW
  have hln := loopsAns_length ss
  have hmf : ∀ (fn : Fn) (first cap : Array Value) (w : World), (Instr.makeFunc fn first cap).run Try.prog w = .ok (.func fn first cap) w := fun _ _ _ _ => rfl
  go_enter Try.func21, Try.ntmps21
  go_wp2_with fail
  go_at_call 7
  rw [HW.out]
  refine hlo.mono ?_
  rintro e w1 ⟨u, us, rfl, o1, -, b1⟩
  have hA1 := one_cell ((b1.block _ (set_lt hA)).trans hA)
  have hB1 := one_cell ((b1.block _ (set_lt hB)).trans hB)
  have hcf := containsFunc (loopsAns ss) f g (w.heap.size + 1) (w.heap.size + 1 + 1) u w1 (by omega) (fun xs h => loopsAns_two h) o1.reads hA1.1 hB1.1
  have L1 := hb0.trans (b1.mono hb0.size)
  clear hlo hA hB HW
  go_wp2_with fail
  go_at_call 39
  refine hcf.mono ?_
  rintro e w2 ⟨rfl, b2⟩
  go_wp2
  go_ret
  exact ⟨rfl, L1.trans (b2.mono L1.size)⟩

end Go.Proofs.Ytjlfmjoallnojad
