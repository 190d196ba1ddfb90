/-
  spec.DrawSolved: some Proc in rows of its own, and two numbers.
-/
import Derived.Test.YtciccbbgamklbaaDrawNext
import Derived.Test.YtciccbbgamklbaaDrawFlow
import Derived.Test.YtciccbbgamklbaaDrawRel
import Derived.Test.YtciccbbgamklbaaG03Proc
namespace Go.Proofs.Ytciccbbgamklbaa
open Go.RowKit
set_option linter.unusedVariables false
set_option maxHeartbeats 2000000
set_option maxRecDepth 20000
attribute [local go_sem ↓] Go.wp_at_zero Go.wp_at_succ

theorem l1Max (a b : Int) (w : World) : Calls Try.prog 61 #[.int .i64 a, .int .i64 b] w fun e w' => (∃ x : Int, e = .returned (.int .i64 x)) ∧ w = w' := by
  by_cases h : b < a
  · go_enter Try.func61, Try.ntmps61
    go_wp2
    go_ret
    exact ⟨⟨_, rfl⟩, rfl⟩
  · go_enter Try.func61, Try.ntmps61
    go_wp2
    go_ret
    exact ⟨⟨_, rfl⟩, rfl⟩

theorem drawSolved (bs : List Int) (v : Value) (w : World) (hl : bs.length ≤ 1048576) (hv : Reads w v (bs.map (Value.int .u8))) :
    Calls Try.prog 38 #[v] w fun e w' => ∃ (u : Value) (ss : List Stm) (n s : Int), e = .returned (.tuple #[.agg #[u], .int .i64 n, .int .i64 s]) ∧ 1 ≤ ss.length ∧ ss.length ≤ 7 ∧ w'.ownsRow w.heap.size 54 3 u ss.length (cells3 ss) ∧ Below w.heap.size w w' := by
  have hb0 : Below w.heap.size w (w.alloc (.cells #[.slice none 0 0] 30)) := by go_grown
  go_enter Try.func38, Try.ntmps38
  go_wp2_with fail
  go_at_call 37
  refine (l1New bs v _ hl (reads_below hv hb0)).mono ?_
  rintro e w1 ⟨g, rfl, hg, hc1, b1⟩
  have lt1 : w.heap.size < g := by have := hg; simp at this; omega
  have R1 : w1.heap[w.heap.size]? = some (.cells #[.slice none 0 0] 30 (0, 0)) := (b1.block _ (by simp)).trans (heap_alloc_new w _)
  have L1 : Below w.heap.size w w1 := hb0.trans (b1.mono hb0.size)
  have g1 := curLt hc1
  go_wp2_with fail
  go_at_call 58
  refine (l4DrawProc g bs w1 hl hc1).mono ?_
  rintro e w2 ⟨u, ss, rfl, h1, h7, own2, hc2, hg2⟩
  have s2 := hg2.size
  have R2 := (hg2.block w.heap.size (by omega) (by simp; omega)).trans R1
  have L2 : Below w.heap.size w w2 := L1.grown hg2 L1.size (fun k e => by simp at e; omega)
  have X3 := heap_alloc_new w2 (.cells #[u] 30)
  have hc3 := curAlloc hc2 (.cells #[u] 30)
  have R3 : (w2.alloc (.cells #[u] 30)).heap[w.heap.size]? = _ := (old_block (by omega)).trans R2
  have L3 : Below w.heap.size w (w2.alloc (.cells #[u] 30)) := L2.alloc L2.size _
  have own3 := own2.alloc (.cells #[u] 30)
  have z3 : (w2.alloc (.cells #[u] 30)).heap.size = w2.heap.size + 1 := by simp
  obtain ⟨ua, un, uc, hu⟩ := ownSlice own2
  subst hu
  have HO : Hid (∀ W, (w2.alloc (.cells #[.slice ua un uc] 30)).grownBy W (some g) → W.ownsRow w1.heap.size 54 3 (.slice ua un uc) ss.length (cells3 ss) ∧ Below w.heap.size w W ∧ W.heap[w.heap.size]? = some (.cells #[.slice none 0 0] 30 (0, 0)) ∧ W.heap[w2.heap.size]? = some (.cells #[.slice ua un uc] 30 (0, 0))) := fun W hg4 =>
    ⟨own_grown own3 hg4 (fun k hk e => by have := (own2.lt k hk).1; simp at e; omega), L3.grown hg4 L3.size (fun k e => by simp at e; omega), (hg4.block w.heap.size (by rw [z3]; omega) (by simp; omega)).trans R3, blockGrown X3 hg4 (by omega)⟩
  have HEND : Hid (∀ W, (w2.alloc (.cells #[.slice ua un uc] 30)).grownBy W (some g) → (W.setCell ⟨w.heap.size, 0, none⟩ (.slice ua un uc)).ownsRow w.heap.size 54 3 (.slice ua un uc) ss.length (cells3 ss) ∧ Below w.heap.size w (W.setCell ⟨w.heap.size, 0, none⟩ (.slice ua un uc)) ∧ (W.setCell ⟨w.heap.size, 0, none⟩ (.slice ua un uc)).cell? ⟨w.heap.size, 0, none⟩ = some (.slice ua un uc)) := fun W hW => by
    obtain ⟨q1, q2, q3, q4⟩ := HO.out W hW
    exact ⟨own_mono (ownsRow_setCell_other q1 (a := ⟨w.heap.size, 0, none⟩) (fun e => by have h : w1.heap.size ≤ w.heap.size := (q1.lt _ e).1; omega) _) (by omega), q2.setCell (by simp) _, (oneCell (one_set' q3 (.slice ua un uc))).1⟩
  clear R3 R2 R1 own3 X3 L3
  go_wp2_with fail
  go_at_call 59
  refine (l7DrawClient g bs _ hl hc3).mono ?_
  rintro e w4 ⟨n, rfl, hc4, hg4⟩
  go_wp2_with fail
  go_at_call 60
  refine (l1Once g bs 2 (by omega) w4 hl hc4).mono ?_
  rintro e w5 ⟨b, rfl, hc5, hg5⟩
  have hg45 := grown_trans hg4 hg5
  obtain ⟨_, _, r5, x5⟩ := HO.out _ hg45
  obtain ⟨c5, f5⟩ := oneCell x5
  obtain ⟨d5, e5⟩ := oneCell r5
  have zw : w.heap.size < w5.heap.size := by have := hg45.size; rw [z3] at this; omega
  have zu : w2.heap.size < w5.heap.size := by have := hg45.size; rw [z3] at this; omega
  have HC7 : Hid (∀ W, (w2.alloc (.cells #[.slice ua un uc] 30)).grownBy W (some g) → (W.setCell ⟨w.heap.size, 0, none⟩ (.slice ua un uc)).cell? ⟨w2.heap.size, 0, none⟩ = some (.slice ua un uc)) := fun W hW =>
    (oneCell ((Below.heap_setCell _ _ _ _ (by simp; omega)).trans (HO.out W hW).2.2.2)).1
  cases b
  · have hds := fun W hW => l6DrawSet g bs W hl hW
    go_wp2_with fail
    go_region_held3 (fun w' => w'.cell? ⟨w2.heap.size, 0, none⟩ = some (.slice ua un uc)) (first | exact c5 | exact c6 | exact c7.out) (first
      | (go_at_call 63; refine (hds _ (cur_below hc5 (by go_grown))).mono ?_; rintro e w6 ⟨y, rfl, hc6, hg6'⟩; have hg6 : w5.grownBy w6 (some g) := grown_trans (grown_of_below (by go_grown) (some g)) hg6'; have hgA := grown_trans hg45 hg6; have Z6 := HO.out _ hgA; (have c6 := (oneCell Z6.2.2.2).1); obtain ⟨r6, fr6⟩ := oneCell Z6.2.2.1; have c7 : Hid _ := HC7.out _ hgA))
    all_goals
      obtain ⟨q1, q2, q3⟩ := HEND.out _ hgA
      clear Z6 c6 c7
      go_wp2
      refine bodyPost_ret (v := .tuple #[.agg #[.slice ua un uc], .int .i64 n, .int .i64 y]) (by simp [results, Try.results38, go_sem, q3]) rfl ?_
      exact ⟨_, ss, n, y, rfl, h1, h7, q1, q2⟩
  · have hst := fun W => specStart n W
    have hmx := fun W => l1Max 0 (startAns n) W
    go_wp2_with fail
    go_region_held3 (fun w' => w'.cell? ⟨w2.heap.size, 0, none⟩ = some (.slice ua un uc)) (first | exact c5 | exact c6 | exact c7.out) (first
      | (go_at_call 62; refine (hst _).mono ?_; rintro e w6 ⟨rfl, b6⟩; have M6 : Below w5.heap.size w5 w6 := Below.trans (by go_grown) b6; have hg6 : w5.grownBy w6 (some g) := grown_of_below M6 (some g); have hgA := grown_trans hg45 hg6; have Z6 := HO.out _ hgA; (have c6 := (oneCell Z6.2.2.2).1); obtain ⟨r6, fr6⟩ := oneCell Z6.2.2.1; have c7 : Hid _ := HC7.out _ hgA)
      | (go_at_call 61; refine (hmx _).mono ?_; rintro e w7 ⟨⟨y, rfl⟩, rfl⟩))
    all_goals
      obtain ⟨q1, q2, q3⟩ := HEND.out _ hgA
      clear Z6 c6 c7
      go_wp2
      refine bodyPost_ret (v := .tuple #[.agg #[.slice ua un uc], .int .i64 n, .int .i64 y]) (by simp [results, Try.results38, go_sem, q3]) rfl ?_
      exact ⟨_, ss, n, y, rfl, h1, h7, q1, q2⟩

end Go.Proofs.Ytciccbbgamklbaa
