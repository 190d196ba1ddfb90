/-
  impl.groupsOf, impl.Circles.
-/
import Derived.Test.YtefdagbdoaaogaaImplGroups
namespace Go.Proofs.Ytefdagbdoaaogaa
open Go.RowKit
set_option linter.unusedVariables false
set_option maxHeartbeats 4000000
set_option maxRecDepth 20000

theorem six (w : World) (a b c d e f : Obj) : ((((((w.alloc a).alloc b).alloc c).alloc d).alloc e).alloc f).heap[w.heap.size]? = some a ∧ ((((((w.alloc a).alloc b).alloc c).alloc d).alloc e).alloc f).heap[w.heap.size + 1]? = some b ∧ ((((((w.alloc a).alloc b).alloc c).alloc d).alloc e).alloc f).heap[w.heap.size + 2]? = some c ∧
    ((((((w.alloc a).alloc b).alloc c).alloc d).alloc e).alloc f).heap[w.heap.size + 3]? = some d ∧ ((((((w.alloc a).alloc b).alloc c).alloc d).alloc e).alloc f).heap[w.heap.size + 4]? = some e ∧ ((((((w.alloc a).alloc b).alloc c).alloc d).alloc e).alloc f).heap[w.heap.size + 5]? = some f ∧ Below w.heap.size w ((((((w.alloc a).alloc b).alloc c).alloc d).alloc e).alloc f) := by
  have z1 : (w.alloc a).heap.size = w.heap.size + 1 := by simp
  have z2 : ((w.alloc a).alloc b).heap.size = w.heap.size + 2 := by simp
  have z3 : (((w.alloc a).alloc b).alloc c).heap.size = w.heap.size + 3 := by simp
  have z4 : ((((w.alloc a).alloc b).alloc c).alloc d).heap.size = w.heap.size + 4 := by simp
  have z5 : (((((w.alloc a).alloc b).alloc c).alloc d).alloc e).heap.size = w.heap.size + 5 := by simp
  have n0 := heap_alloc_new w a
  have n1 := heap_alloc_new (w.alloc a) b
  have n2 := heap_alloc_new ((w.alloc a).alloc b) c
  have n3 := heap_alloc_new (((w.alloc a).alloc b).alloc c) d
  have n4 := heap_alloc_new ((((w.alloc a).alloc b).alloc c).alloc d) e
  have n5 := heap_alloc_new (((((w.alloc a).alloc b).alloc c).alloc d).alloc e) f
  rw [z1] at n1
  rw [z2] at n2
  rw [z3] at n3
  rw [z4] at n4
  rw [z5] at n5
  refine ⟨?_, ?_, ?_, ?_, ?_, n5, by go_grown⟩
  · rw [old_block (by omega), old_block (by omega), old_block (by omega), old_block (by omega), old_block (by omega)]; exact n0
  · rw [old_block (by omega), old_block (by omega), old_block (by omega), old_block (by omega)]; exact n1
  · rw [old_block (by omega), old_block (by omega), old_block (by omega)]; exact n2
  · rw [old_block (by omega), old_block (by omega)]; exact n3
  · rw [old_block (by omega)]; exact n4

theorem groupsOf (ps : List (List Stm)) (v : Value) (w : World) (hok : programOk ps = true) (hl : ps.length ≤ maxLen) (hp : ∀ p ∈ ps, p.length ≤ maxLen) (hv : ReadsP w v ps) :
    Calls Try.prog 32 #[.agg #[v]] w fun e w' => ∃ gv L, e = .returned gv ∧ GR w' w.heap.size gv L ∧ L.map Prod.snd = (tarjan ps.length (NC ps)).groups ∧ Below w.heap.size w w' := by
  obtain ⟨h4, h1, _⟩ := programOk_len hok
  have hC : ∀ i, i < 4 → ∀ y ∈ NC ps i, y < 4 := fun i _ y hy => by have := NC_lt hy; omega
  obtain ⟨vo, vc, hvv⟩ : ∃ ao cap, v = .slice ao ps.length cap := by obtain ⟨ao, cap, rfl, _⟩ := hv; exact ⟨_, _, rfl⟩
  have hcl := earliest ps v w w.heap.size hok hl hp hv 4
  subst hvv
  go_enter Try.func32, Try.ntmps32
  go_wp2_with fail
  simp only [Nat.add_assoc, Nat.reduceAdd]
  obtain ⟨x0, x1, x2, x3, x4, x5, bW⟩ := six w (.cells #[.slice vo ps.length vc] 26) (.cells #[.slice none 0 0] 28) (.cells #[.slice none 0 0] 32) (.cells #[.int .i64 0, .int .i64 0, .int .i64 0, .int .i64 0] 77) (.cells #[.int .i64 0] 3) (.cells #[.func (.func 65) #[] #[.pointer (some ⟨w.heap.size + 4, 0, none⟩), .pointer (some ⟨w.heap.size + 2, 0, none⟩), .pointer (some ⟨w.heap.size + 3, 0, none⟩), .pointer (some ⟨w.heap.size, 0, none⟩), .pointer (some ⟨w.heap.size + 5, 0, none⟩), .pointer (some ⟨w.heap.size + 1, 0, none⟩)]] 78)
  generalize (((((w.alloc (.cells #[.slice vo ps.length vc] 26)).alloc (.cells #[.slice none 0 0] 28)).alloc (.cells #[.slice none 0 0] 32)).alloc (.cells #[.int .i64 0, .int .i64 0, .int .i64 0, .int .i64 0] 77)).alloc (.cells #[.int .i64 0] 3)).alloc (.cells #[.func (.func 65) #[] #[.pointer (some ⟨w.heap.size + 4, 0, none⟩), .pointer (some ⟨w.heap.size + 2, 0, none⟩), .pointer (some ⟨w.heap.size + 3, 0, none⟩), .pointer (some ⟨w.heap.size, 0, none⟩), .pointer (some ⟨w.heap.size + 5, 0, none⟩), .pointer (some ⟨w.heap.size + 1, 0, none⟩)]] 78) = W0 at *
  have S0 : Hid (TSt ps (.slice vo ps.length vc) w w.heap.size begT (.slice none 0 0) (.slice none 0 0) [] W0) :=
    ⟨x0, x1, x2, x3, x4, x5, ⟨by simp [begT, nats, ints], .inl ⟨rfl, rfl⟩⟩, GR.nil _ _, by simp, rfl, bW, Nat.le_refl _⟩
  clear x0 x1 x2 x3 x4 x5 bW
  have HCL : Hid _ := hcl
  have hps4 : (ps.length : Int) ≤ 4 := by omega
  clear hcl
  go_loopw [13] (fun iv wr => ∃ (k : Nat) (uv gv : Value) (L : List LV), k ≤ ps.length ∧ iv = .int .i64 k ∧ TSt ps (.slice vo ps.length vc) w w.heap.size ((List.range k).foldl (stepT (NC ps)) begT) uv gv L wr) (fun iv _ => ps.length - (intOf iv).toNat)
  case atStart => exact ⟨0, _, _, _, Nat.zero_le _, rfl, S0.out⟩
  case round =>
    obtain ⟨k, uv, gv, L, hk, rfl, hS⟩ := hrel
    clear S0
    have HS : Hid _ := hS
    have hinv := foldT_inv hC (List.range k) begT begT_inv (fun p hp => by have := List.mem_range.1 hp; omega)
    have hsn : (List.range (k + 1)).foldl (stepT (NC ps)) begT = stepT (NC ps) ((List.range k).foldl (stepT (NC ps)) begT) k := by rw [List.range_succ, List.foldl_append]; rfl
    obtain ⟨st, hst⟩ : ∃ st, (List.range k).foldl (stepT (NC ps)) begT = st := ⟨_, rfl⟩
    rw [hst] at hS hinv hsn HS
    have HSN : Hid _ := hsn
    have HST : Hid _ := hst
    clear hst hsn
    by_cases hlt : k < ps.length
    · have hlt' : (k : Int) < (ps.length : Int) := by omega
      have hk4 : (k : Int) < 4 := by omega
      obtain ⟨ct, _⟩ := hS.turn (i := k) (by omega)
      obtain ⟨cK, _⟩ := one_cell hS.ck
      obtain ⟨t0, ht0⟩ : ∃ t0, st.turns.getD k 0 = t0 := ⟨_, rfl⟩
      rw [ht0] at ct
      by_cases ht : t0 = 0
      · have hcall := HCL.out k st uv gv L wr hlt hinv (by rw [ht0]; exact ht) (by have := hinv.zer; omega) hS
        have HE : Hid (stepT (NC ps) st k = (visit (NC ps) 4 k st).2) := by
          show stepT (NC ps) st k = _
          unfold stepT
          rw [ht0, ht]
          rfl
        subst ht
        clear hS hinv ht0
        go_wp2_with fail
        go_at_call 65
        refine hcall.mono ?_
        rintro e w7 ⟨rfl, uv7, gv7, L7, S7, F7⟩
        clear hcall
        have HS7 : Hid _ := S7
        clear S7 F7
        obtain ⟨r, hr⟩ : ∃ r, visit (NC ps) 4 k st = r := ⟨_, rfl⟩
        rw [hr] at HS7 HE ⊢
        clear hr
        go_wp2
        go_roundw
        case rel => exact ⟨k + 1, uv7, gv7, L7, by omega, by go_num, by rw [HSN.out, HE.out]; exact HS7.out⟩
        case measure => simp [intOf]; omega
      · have htb : ((t0 : Int) == 0) = false := by simp; omega
        have htb2 : ¬ (t0 : Int) = 0 := by omega
        have HE : Hid (stepT (NC ps) st k = st) := by
          show stepT (NC ps) st k = _
          unfold stepT
          rw [ht0, beq0f.2 ht]
          rfl
        clear hS hinv ht0
        go_wp2
        go_roundw
        case rel => exact ⟨k + 1, uv, gv, L, by omega, by go_num, by rw [HSN.out, HE.out]; exact HS.out⟩
        case measure => simp [intOf]; omega
    · obtain rfl : k = ps.length := by omega
      obtain ⟨cg, _⟩ := one_cell hS.cg
      have hge : ¬ (ps.length : Int) < (ps.length : Int) := by omega
      obtain ⟨go_, gn_, gc_, hgw⟩ : ∃ x n c, gv = .slice x n c := by
        obtain ⟨x, c, e, _⟩ := reads_own hS.gr.row
        exact ⟨_, _, _, e⟩
      have HGW : Hid _ := hgw
      rw [hgw] at cg
      clear hS hinv hgw
      go_wp2
      go_ret
      refine ⟨gv, by rw [HGW.out]; rfl, L, ⟨own_mono HS.out.gr.row (by omega), fun x hx => ⟨(HS.out.gr.each x hx).1, own_mono (HS.out.gr.each x hx).2 (by omega)⟩, HS.out.gr.ap⟩, ?_, HS.out.below⟩
      rw [HS.out.gs, ← HST.out]
      rfl

end Go.Proofs.Ytefdagbdoaaogaa
