/-
  impl.Gates.
-/
import Derived.Test.YtjlfmjoallnojacSets2
namespace Go.Proofs.Ytjlfmjoallnojac
open Go.RowKit
set_option linter.unusedVariables false
set_option linter.unusedSimpArgs false
set_option maxHeartbeats 2000000

theorem implGates (ss : List Stm) (n : Int) (A : List Int) (h1 : hasS ss n = true → IsGates ss n A) (h0 : hasS ss n = false → A = []) (v : Value) (w : World) (hl : ss.length ≤ maxLen) (hv : Reads3 w v ss) :
    Calls Try.prog 6 #[.agg #[v], .int .i64 n] w fun e w' => ∃ u, e = .returned u ∧ w'.ownsRow w.heap.size 2 1 u A.length (ints A) ∧ Below w.heap.size w w' := by
  have hb0 : Below w.heap.size w (w.alloc (.cells #[v] 26)) := by go_grown
  have he := hasStmt ss n v _ hl (reads3_below hv hb0)
  have H0 := heap_alloc_new w (.cells #[v] 26)
  have s0 : (w.alloc (.cells #[v] 26)).heap.size = w.heap.size + 1 := by simp
  cases hok : hasS ss n
  · rw [hok] at he
    obtain rfl := h0 hok
    go_enter Try.func6, Try.ntmps6
    go_wp2_with (go_at_call 16; refine he.mono ?_; rintro e w2 ⟨rfl, b2⟩)
    go_ret
    exact ⟨_, rfl, nil_own _ _, hb0.trans (b2.mono hb0.size)⟩
  · rw [hok] at he
    have hA := h1 hok
    obtain ⟨hp, i, rfl, hi⟩ := hasS_true hok
    have h12 := (procOk_parts hp).2.1
    obtain ⟨R, hR⟩ := isReached_some hp (-1)
    have hg : ∀ w', Below w.heap.size w w' → _ := fun w' hw' => gatesOfAll ss R hR hp v w' hl (reads3_below hv hw')
    go_enter Try.func6, Try.ntmps6
    go_wp2_with fail
    go_at_call 16
    refine he.mono ?_
    rintro e w2 ⟨rfl, b2⟩
    have L2 := hb0.trans (b2.mono hb0.size)
    have B2 := (b2.block w.heap.size (by omega)).trans H0
    obtain ⟨c2, f2⟩ := one_cell B2
    go_wp2_with fail
    go_at_call 17
    refine (hg w2 L2).mono ?_
    rintro e w3 ⟨gs, rfl, g1, g2, g3, b3⟩
    have L3 := L2.trans (b3.mono L2.size)
    have e1 := row_gates g3 i hA
    have hig : i < gs.length := by rw [g1]; omega
    have rl : (gs.getD i []).length = 12 := by
      rw [show gs.getD i [] = gs[i] by simp [List.getD, hig]]
      exact g2 _ (List.getElem_mem _)
    clear hg he
    obtain ⟨bs, hbs⟩ : ∃ bs, gs.getD i [] = bs := ⟨_, rfl⟩
    have HBS : Hid (gs.getD i [] = bs) := hbs
    rw [hbs] at e1 rl
    clear hbs
    go_wp2_with (first | (refine wpList_indexTab rfl (.tmp 11) (.tmp 12) rfl gs i rfl rfl g1 g2 (by omega) ?_; rw [HBS.out]) | refine wpList_storeSet rfl rfl (.tmp 5) (.tmp 13) rfl w3.heap.size 0 bs rfl rfl rl ?_ ?_)
    · exact there_c w3
    obtain ⟨w4, hw4⟩ : ∃ w4, (w3.alloc (.cells #[.bool false, .bool false, .bool false, .bool false, .bool false, .bool false, .bool false, .bool false, .bool false, .bool false, .bool false, .bool false] 40)).setCells w3.heap.size 0 (bls bs) = w4 := ⟨_, rfl⟩
    have q4 : w4.rangeAt w3.heap.size 0 (bls bs) := by rw [← hw4]; exact World.rangeAt_setCells_same _ _ _ _ (by rw [List.length_map, rl]; exact there_c w3)
    have L4 : Below w.heap.size w w4 := by
      rw [← hw4]
      exact Below.grown (L3.alloc L3.size _) (grown_setCells _ _ _ _) (by have := L3.size; simp; omega) (fun k e => by cases e; exact L3.size)
    rw [hw4]
    clear hw4
    have hn := numbersIn bs _ w4 (by omega) (reads_set rl q4)
    rw [e1] at hn
    go_at_call 18
    refine hn.mono ?_
    rintro e w5 ⟨u, rfl, own5, b5⟩
    go_wp2
    go_ret
    exact ⟨u, rfl, own_mono own5 L4.size, L4.trans (b5.mono L4.size)⟩

end Go.Proofs.Ytjlfmjoallnojac
