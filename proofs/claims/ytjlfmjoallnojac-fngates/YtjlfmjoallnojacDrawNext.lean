/-
  spec.DrawNext: some Proc in rows of its own, and some number.
-/
import Derived.Test.YtjlfmjoallnojacDrawProc4
namespace Go.Proofs.Ytjlfmjoallnojac
open Go.RowKit
set_option linter.unusedVariables false
set_option maxHeartbeats 1000000
attribute [local go_sem ↓] Go.wp_at_zero Go.wp_at_succ

theorem drawNext (bs : List Int) (v : Value) (w : World) (hl : bs.length ≤ 1048576) (hv : Reads w v (bs.map (Value.int .u8))) :
    Calls Try.prog 15 #[v] w fun e w' => ∃ (u : Value) (ss : List Stm) (i : Int), e = .returned (.tuple #[.agg #[u], .int .i64 i]) ∧ 1 ≤ ss.length ∧ ss.length ≤ 7 ∧ w'.ownsRow w.heap.size 59 3 u ss.length (cells3 ss) ∧ Below w.heap.size w w' := by
  have hb0 : Below w.heap.size w (w.alloc (.cells #[.slice none 0 0] 26)) := by go_grown
  go_enter Try.func15, Try.ntmps15
  go_wp2_with fail
  go_at_call 27
  refine (l1New bs v _ hl (reads_below hv hb0)).mono ?_
  rintro e w1 ⟨g, rfl, hg, hc1, b1⟩
  have lt1 : w.heap.size < g := by have := hg; simp at this; omega
  have R1 : w1.heap[w.heap.size]? = some (.cells #[.slice none 0 0] 26 (0, 0)) := (b1.block _ (by simp)).trans (heap_alloc_new w _)
  have L1 : Below w.heap.size w w1 := hb0.trans (b1.mono hb0.size)
  have g1 := curLt hc1
  go_wp2_with fail
  go_at_call 28
  refine (l4DrawProc g bs w1 hl hc1).mono ?_
  rintro e w2 ⟨u, ss, rfl, h1, h7, own2, hc2, hg2⟩
  have s2 := hg2.size
  have R2 := (hg2.block w.heap.size (by omega) (by simp; omega)).trans R1
  have L2 : Below w.heap.size w w2 := L1.grown hg2 L1.size (fun k e => by simp at e; omega)
  have X3 := heap_alloc_new w2 (.cells #[u] 26)
  have hc3 := curAlloc hc2 (.cells #[u] 26)
  have R3 : (w2.alloc (.cells #[u] 26)).heap[w.heap.size]? = _ := (old_block (by omega)).trans R2
  have L3 : Below w.heap.size w (w2.alloc (.cells #[u] 26)) := L2.alloc L2.size _
  have own3 := own2.alloc (.cells #[u] 26)
  have z3 : (w2.alloc (.cells #[u] 26)).heap.size = w2.heap.size + 1 := by simp
  have W3 : Hid _ := R3
  obtain ⟨ua, un, uc, hu⟩ := ownSlice own2
  have hun : un = ss.length := by
    have := reads3_own own2
    rw [hu] at this
    obtain ⟨_, _, e, _⟩ := this
    simp at e
    exact e.2.1
  subst hu
  subst hun
  obtain ⟨c3, f3⟩ := oneCell X3
  obtain ⟨r3, fr3⟩ := oneCell R3
  have hss7 : (ss.length : Int) ≤ 7 := by omega
  have hwr : IntKind.i64.wrap ((ss.length : Int) + 1) = (ss.length : Int) + 1 := IntWalk.i64_in _ (by omega)
  have hfr : ∀ W, Cur W g bs → _ := fun W hW => l1From g bs (-1) ((ss.length : Int) + 1) (by omega) (by omega) (by omega) W hl hW
  go_wp2_with fail
  go_region_held3 (fun w' => w'.cell? ⟨w2.heap.size, 0, none⟩ = some (.slice ua ss.length uc)) (first | exact c3 | exact c4 | exact c5.out) (first
    | (go_at_call 29; refine (hfr _ (cur_below hc3 (by go_grown))).mono ?_; rintro e w4 ⟨y, rfl, _, _, hc4, hg4'⟩; have hg4 : (w2.alloc (.cells #[.slice ua ss.length uc] 26)).grownBy w4 (some g) := grown_trans (grown_of_below (by go_grown) (some g)) hg4'; have X4 := blockGrown X3 hg4 (by omega); (have c4 := (oneCell X4).1); have R4 := (hg4.block w.heap.size (by rw [z3]; omega) (by simp; omega)).trans W3.out; obtain ⟨r4, fr4⟩ := oneCell R4; have c5 : Hid ((w4.setCell ⟨w.heap.size, 0, none⟩ (.slice ua ss.length uc)).cell? ⟨w2.heap.size, 0, none⟩ = some (.slice ua ss.length uc)) := (oneCell ((Below.heap_setCell _ _ _ _ (by simp; omega)).trans X4)).1))
  all_goals
    have G5 := one_set' R4 (.slice ua ss.length uc)
    obtain ⟨d5, _⟩ := oneCell G5
    go_wp2
    refine bodyPost_ret (v := .tuple #[.agg #[.slice ua ss.length uc], .int .i64 y]) (by simp [results, Try.results15, go_sem, d5]) rfl ?_
    have own4 := own_grown own3 hg4 (fun k hk e => by have := (own2.lt k hk).1; simp at e; omega)
    have L4 : Below w.heap.size w w4 := L3.grown hg4 L3.size (fun k e => by simp at e; omega)
    exact ⟨_, ss, y, rfl, h1, h7, own_mono (ownsRow_setCell_other own4 (a := ⟨w.heap.size, 0, none⟩) (fun e => by have h : w1.heap.size ≤ w.heap.size := (own4.lt _ e).1; omega) _) (by omega), L4.setCell (by simp) _⟩

theorem drawGates (bs : List Int) (v : Value) (w : World) (hl : bs.length ≤ 1048576) (hv : Reads w v (bs.map (Value.int .u8))) :
    Calls Try.prog 5 #[v] w fun e w' => ∃ (u : Value) (ss : List Stm) (i : Int), e = .returned (.tuple #[.agg #[u], .int .i64 i]) ∧ 1 ≤ ss.length ∧ ss.length ≤ 7 ∧ w'.ownsRow w.heap.size 59 3 u ss.length (cells3 ss) ∧ Below w.heap.size w w' := by
  have hb0 : Below w.heap.size w (w.alloc (.cells #[.slice none 0 0] 26)) := by go_grown
  go_enter Try.func5, Try.ntmps5
  go_wp2_with fail
  go_at_call 15
  refine (drawNext bs v _ hl (reads_below hv hb0)).mono ?_
  rintro e w1 ⟨u, ss, i, rfl, h1, h7, own1, b1⟩
  obtain ⟨ua, un, uc, rfl⟩ := ownSlice own1
  have R1 : w1.heap[w.heap.size]? = some (.cells #[.slice none 0 0] 26 (0, 0)) := (b1.block _ (by simp)).trans (heap_alloc_new w _)
  have L1 : Below w.heap.size w w1 := hb0.trans (b1.mono hb0.size)
  have z1 : (w.alloc (.cells #[.slice none 0 0] 26)).heap.size = w.heap.size + 1 := by simp
  rw [z1] at own1
  obtain ⟨r1, fr1⟩ := oneCell R1
  have G5 := one_set' R1 (.slice ua un uc)
  obtain ⟨d5, _⟩ := oneCell G5
  have oW := own_mono (ownsRow_setCell_other own1 (a := ⟨w.heap.size, 0, none⟩) (fun e => by have h : w.heap.size + 1 ≤ w.heap.size := (own1.lt _ e).1; omega) (.slice ua un uc)) (base' := w.heap.size) (by omega)
  have LW := Below.setCell (p := ⟨w.heap.size, 0, none⟩) L1 (Nat.le_refl _) (.slice ua un uc)
  go_wp2
  refine bodyPost_ret (v := .tuple #[.agg #[.slice ua un uc], .int .i64 i]) (by simp [results, Try.results5, go_sem, d5]) rfl ?_
  exact ⟨_, ss, i, rfl, h1, h7, oW, LW⟩

end Go.Proofs.Ytjlfmjoallnojac
