/-
  Chapter 18: servers of which only the Room and the Lines say something: alike, marked, held.
-/
import Derived.Test.YtggglcjdnllnjaaGreatDoorSrvNil
namespace Go.Proofs.YtggglcjdnllnjaaGreatDoor
open Go.ChangeShapes Go.WideShapes Go.ChangeAt Go.RowKit
set_option linter.unusedVariables false
set_option linter.unusedSimpArgs false
set_option maxHeartbeats 8000000
set_option maxRecDepth 20000

theorem nine_in {w : World} {b : Nat} {x0 x1 x2 x3 x4 x5 x6 x7 x8 : Value} {T : TypeId} (h : w.heap[b]? = some (.cells #[x0, x1, x2, x3, x4, x5, x6, x7, x8] T (0, 0))) :
    w.cell? ⟨b, 0, none⟩ = some x0 ∧ w.cell? ⟨b, 1, none⟩ = some x1 ∧ w.cell? ⟨b, 2, none⟩ = some x2 ∧ w.cell? ⟨b, 3, none⟩ = some x3 ∧ w.cell? ⟨b, 4, none⟩ = some x4 ∧ w.cell? ⟨b, 5, none⟩ = some x5 ∧ w.cell? ⟨b, 6, none⟩ = some x6 ∧ w.cell? ⟨b, 7, none⟩ = some x7 ∧ w.cell? ⟨b, 8, none⟩ = some x8 := by
  refine ⟨?_, ?_, ?_, ?_, ?_, ?_, ?_, ?_, ?_⟩ <;> simp [World.cell?, h]

theorem eqCache0 (rm : Int) (w : World) : Calls Tryz.prog 14 #[.agg #[.int .i64 rm, .slice none 0 0], .agg #[.int .i64 rm, .slice none 0 0]] w fun e w' => e = .returned (.bool true) ∧ Below w.heap.size w w' := by
  have hn := eqNilItem
  have LOW : Hid (Below w.heap.size w w) := Below.refl _ _
  obtain ⟨w1, hAw1⟩ : ∃ W, (w.alloc (.cells #[.int .i64 rm, .slice none 0 0] 25)).alloc (.cells #[.int .i64 rm, .slice none 0 0] 25) = W := ⟨_, rfl⟩
  have bb : Below w.heap.size w w1 := by rw [← hAw1]; go_grown
  obtain ⟨bBA, hBw1⟩ : ∃ n, w.heap.size = n := ⟨_, rfl⟩
  have BAn : Hid (w1.heap[bBA]? = some (.cells #[.int .i64 rm, .slice none 0 0] 25 (0, 0))) := by
    show w1.heap[bBA]? = _
    rw [← hAw1, ← hBw1, old_block (by simp)]; exact heap_alloc_new w _
  have BBn : Hid (w1.heap[bBA + 1]? = some (.cells #[.int .i64 rm, .slice none 0 0] 25 (0, 0))) := by
    show w1.heap[bBA + 1]? = _
    rw [← hAw1, ← hBw1]
    have h9 := heap_alloc_new (w.alloc (.cells #[.int .i64 rm, .slice none 0 0] 25)) (.cells #[.int .i64 rm, .slice none 0 0] 25)
    simpa using h9
  have LOWx : Hid (Below w.heap.size w w1) := low_stepQ LOW.out bb
  clear LOW
  have LOW : Hid (Below w.heap.size w w1) := LOWx.out
  clear LOWx
  clear bb
  have BA : Hid (w1.heap[bBA]? = some (.cells #[.int .i64 rm, .slice none 0 0] 25 (0, 0))) := BAn.out
  clear BAn
  have BB : Hid (w1.heap[bBA + 1]? = some (.cells #[.int .i64 rm, .slice none 0 0] 25 (0, 0))) := BBn.out
  clear BBn
  obtain ⟨c0, c1, -, -⟩ := two_cellsQ BA.out
  obtain ⟨d0, d1, -, -⟩ := two_cellsQ BB.out
  go_enter Tryz.func14, Tryz.ntmps14
  have hcall := hn w1
  go_wp2_with fail
  go_at_call 36
  clear hAw1 hBw1
  refine hcall.mono ?_
  rintro r w2 ⟨rfl, hww⟩
  clear hcall c0 c1 d0 d1
  have LOWx : Hid (Below w.heap.size w w2) := low_stepQ LOW.out (hww ▸ Below.refl _ _)
  have BAx : Hid (w2.heap[bBA]? = some (.cells #[.int .i64 rm, .slice none 0 0] 25 (0, 0))) := box_stepQ BA.out (hww ▸ Below.refl _ _)
  have BBx : Hid (w2.heap[bBA + 1]? = some (.cells #[.int .i64 rm, .slice none 0 0] 25 (0, 0))) := box_stepQ BB.out (hww ▸ Below.refl _ _)
  clear LOW BA BB
  have LOW : Hid (Below w.heap.size w w2) := LOWx.out
  have BA : Hid (w2.heap[bBA]? = some (.cells #[.int .i64 rm, .slice none 0 0] 25 (0, 0))) := BAx.out
  have BB : Hid (w2.heap[bBA + 1]? = some (.cells #[.int .i64 rm, .slice none 0 0] 25 (0, 0))) := BBx.out
  clear LOWx BAx BBx
  go_wp2
  go_ret
  exact ⟨rfl, LOW.out⟩

theorem markCache0 (rm k : Int) (hk : 0 ≤ k) (w : World) : Calls Tryz.prog 19 #[.agg #[.int .i64 rm, .slice none 0 0], .int .i64 k] w fun e w' => e = .returned (.int .i64 k) ∧ Below w.heap.size w w' ∧ Above w.heap.size w w' := by
  have hk' : decide (k < 0) = false := by simp; omega
  obtain ⟨W0, hW0⟩ : ∃ W, w.alloc (.cells #[.int .i64 rm, .slice none 0 0] 25) = W := ⟨_, rfl⟩
  have hB : Below w.heap.size w W0 := by rw [← hW0]; go_grown
  have hA : Above w.heap.size w W0 := by rw [← hW0]; exact Above.alloc _
  have hX : W0.heap[w.heap.size]? = some (.cells #[.int .i64 rm, .slice none 0 0] 25 (0, 0)) := by rw [← hW0]; exact heap_alloc_new w _
  obtain ⟨c0, c1, -, -⟩ := two_cellsQ hX
  have hn := markNilItem k W0
  have HB : Hid _ := hB
  have HA : Hid _ := hA
  clear hB hA hX
  go_enter Tryz.func19, Tryz.ntmps19
  go_wp2_with fail
  go_at_call 42
  clear hW0
  refine hn.mono ?_
  rintro r w1 ⟨rfl, rfl⟩
  go_wp2
  go_ret
  exact ⟨rfl, HB.out, HA.out⟩

theorem heldCache0 (rm k : Int) (hk : 0 ≤ k) (w : World) : Calls Tryz.prog 24 #[.agg #[.int .i64 rm, .slice none 0 0], .int .i64 k] w fun e w' => e = .returned (.int .i64 k) ∧ Below w.heap.size w w' ∧ Above w.heap.size w w' := by
  have hk' : decide (k < 0) = false := by simp; omega
  obtain ⟨W0, hW0⟩ : ∃ W, w.alloc (.cells #[.int .i64 rm, .slice none 0 0] 25) = W := ⟨_, rfl⟩
  have hB : Below w.heap.size w W0 := by rw [← hW0]; go_grown
  have hA : Above w.heap.size w W0 := by rw [← hW0]; exact Above.alloc _
  have hX : W0.heap[w.heap.size]? = some (.cells #[.int .i64 rm, .slice none 0 0] 25 (0, 0)) := by rw [← hW0]; exact heap_alloc_new w _
  obtain ⟨c0, c1, -, -⟩ := two_cellsQ hX
  have hn := heldNilItem k W0
  have HB : Hid _ := hB
  have HA : Hid _ := hA
  clear hB hA hX
  go_enter Tryz.func24, Tryz.ntmps24
  go_wp2_with fail
  go_at_call 45
  clear hW0
  refine hn.mono ?_
  rintro r w1 ⟨rfl, rfl⟩
  go_wp2
  go_ret
  exact ⟨rfl, HB.out, HA.out⟩

theorem eqServer0 (nx rm : Int) (X : List (List Int)) (v u : Value) (w : World) (hl : X.length ≤ maxLen) (hx : ∀ xs ∈ X, xs.length ≤ maxLen) (hv : ReadsSS w v X) (hu : ReadsSS w u X) :
    Calls Tryz.prog 6 #[.agg #[.int .i64 0, .int .i64 nx, .slice none 0 0, .int .i64 rm, .slice none 0 0, .int .i64 0, v, .slice none 0 0, .slice none 0 0], .agg #[.int .i64 0, .int .i64 nx, .slice none 0 0, .int .i64 rm, .slice none 0 0, .int .i64 0, u, .slice none 0 0, .slice none 0 0]] w fun e w' => e = .returned (.bool true) ∧ Below w.heap.size w w' := by
  obtain ⟨va, vm, vc, hvv⟩ : ∃ a m c, v = .slice a m c := by obtain ⟨a, c, e, _⟩ := hv; exact ⟨_, _, _, e⟩
  obtain ⟨ua, um, uc, huu⟩ : ∃ a m c, u = .slice a m c := by obtain ⟨a, c, e, _⟩ := hu; exact ⟨_, _, _, e⟩
  subst hvv
  subst huu
  have LOW : Hid (Below w.heap.size w w) := Below.refl _ _
  have RV : Hid (ReadsSS w (.slice va vm vc) X) := hv
  have RU : Hid (ReadsSS w (.slice ua um uc) X) := hu
  clear hv hu
  obtain ⟨w1, hAw1⟩ : ∃ W, (w.alloc (.cells #[.int .i64 0, .int .i64 nx, .slice none 0 0, .int .i64 rm, .slice none 0 0, .int .i64 0, .slice va vm vc, .slice none 0 0, .slice none 0 0] 32)).alloc (.cells #[.int .i64 0, .int .i64 nx, .slice none 0 0, .int .i64 rm, .slice none 0 0, .int .i64 0, .slice ua um uc, .slice none 0 0, .slice none 0 0] 32) = W := ⟨_, rfl⟩
  have bb : Below w.heap.size w w1 := by rw [← hAw1]; go_grown
  obtain ⟨bBA, hBw1⟩ : ∃ n, w.heap.size = n := ⟨_, rfl⟩
  have BAn : Hid (w1.heap[bBA]? = some (.cells #[.int .i64 0, .int .i64 nx, .slice none 0 0, .int .i64 rm, .slice none 0 0, .int .i64 0, .slice va vm vc, .slice none 0 0, .slice none 0 0] 32 (0, 0))) := by
    show w1.heap[bBA]? = _
    rw [← hAw1, ← hBw1, old_block (by simp)]; exact heap_alloc_new w _
  have BBn : Hid (w1.heap[bBA + 1]? = some (.cells #[.int .i64 0, .int .i64 nx, .slice none 0 0, .int .i64 rm, .slice none 0 0, .int .i64 0, .slice ua um uc, .slice none 0 0, .slice none 0 0] 32 (0, 0))) := by
    show w1.heap[bBA + 1]? = _
    rw [← hAw1, ← hBw1]
    have h9 := heap_alloc_new (w.alloc (.cells #[.int .i64 0, .int .i64 nx, .slice none 0 0, .int .i64 rm, .slice none 0 0, .int .i64 0, .slice va vm vc, .slice none 0 0, .slice none 0 0] 32)) (.cells #[.int .i64 0, .int .i64 nx, .slice none 0 0, .int .i64 rm, .slice none 0 0, .int .i64 0, .slice ua um uc, .slice none 0 0, .slice none 0 0] 32)
    simpa using h9
  have LOWx : Hid (Below w.heap.size w w1) := low_stepQ LOW.out bb
  have RVx : Hid (ReadsSS w1 (.slice va vm vc) X) := readsSS_below RV.out bb
  have RUx : Hid (ReadsSS w1 (.slice ua um uc) X) := readsSS_below RU.out bb
  clear LOW RV RU
  have LOW : Hid (Below w.heap.size w w1) := LOWx.out
  have RV : Hid (ReadsSS w1 (.slice va vm vc) X) := RVx.out
  have RU : Hid (ReadsSS w1 (.slice ua um uc) X) := RUx.out
  clear LOWx RVx RUx
  clear bb
  have BA : Hid (w1.heap[bBA]? = some (.cells #[.int .i64 0, .int .i64 nx, .slice none 0 0, .int .i64 rm, .slice none 0 0, .int .i64 0, .slice va vm vc, .slice none 0 0, .slice none 0 0] 32 (0, 0))) := BAn.out
  clear BAn
  have BB : Hid (w1.heap[bBA + 1]? = some (.cells #[.int .i64 0, .int .i64 nx, .slice none 0 0, .int .i64 rm, .slice none 0 0, .int .i64 0, .slice ua um uc, .slice none 0 0, .slice none 0 0] 32 (0, 0))) := BBn.out
  clear BBn
  obtain ⟨c0, c1, c2, c3, c4, c5, c6, c7, c8⟩ := nine_in BA.out
  obtain ⟨d0, d1, d2, d3, d4, d5, d6, d7, d8⟩ := nine_in BB.out
  go_enter Tryz.func6, Tryz.ntmps6
  have hcall := eqNilProject w1
  go_wp2_with fail
  go_at_call 13
  clear hAw1 hBw1
  refine hcall.mono ?_
  rintro r w2 ⟨rfl, hww⟩
  clear hcall c0 c1 c2 c3 c4 c5 c6 c7 c8 d0 d1 d2 d3 d4 d5 d6 d7 d8
  have LOWx : Hid (Below w.heap.size w w2) := low_stepQ LOW.out (hww ▸ Below.refl _ _)
  have RVx : Hid (ReadsSS w2 (.slice va vm vc) X) := readsSS_below RV.out (hww ▸ Below.refl _ _)
  have RUx : Hid (ReadsSS w2 (.slice ua um uc) X) := readsSS_below RU.out (hww ▸ Below.refl _ _)
  have BAx : Hid (w2.heap[bBA]? = some (.cells #[.int .i64 0, .int .i64 nx, .slice none 0 0, .int .i64 rm, .slice none 0 0, .int .i64 0, .slice va vm vc, .slice none 0 0, .slice none 0 0] 32 (0, 0))) := box_stepQ BA.out (hww ▸ Below.refl _ _)
  have BBx : Hid (w2.heap[bBA + 1]? = some (.cells #[.int .i64 0, .int .i64 nx, .slice none 0 0, .int .i64 rm, .slice none 0 0, .int .i64 0, .slice ua um uc, .slice none 0 0, .slice none 0 0] 32 (0, 0))) := box_stepQ BB.out (hww ▸ Below.refl _ _)
  clear LOW RV RU BA BB
  have LOW : Hid (Below w.heap.size w w2) := LOWx.out
  have RV : Hid (ReadsSS w2 (.slice va vm vc) X) := RVx.out
  have RU : Hid (ReadsSS w2 (.slice ua um uc) X) := RUx.out
  have BA : Hid (w2.heap[bBA]? = some (.cells #[.int .i64 0, .int .i64 nx, .slice none 0 0, .int .i64 rm, .slice none 0 0, .int .i64 0, .slice va vm vc, .slice none 0 0, .slice none 0 0] 32 (0, 0))) := BAx.out
  have BB : Hid (w2.heap[bBA + 1]? = some (.cells #[.int .i64 0, .int .i64 nx, .slice none 0 0, .int .i64 rm, .slice none 0 0, .int .i64 0, .slice ua um uc, .slice none 0 0, .slice none 0 0] 32 (0, 0))) := BBx.out
  clear LOWx RVx RUx BAx BBx
  clear hww
  obtain ⟨c0, c1, c2, c3, c4, c5, c6, c7, c8⟩ := nine_in BA.out
  obtain ⟨d0, d1, d2, d3, d4, d5, d6, d7, d8⟩ := nine_in BB.out
  have hcall := eqCache0 rm w2
  go_wp2_with fail
  go_at_call 14
  refine hcall.mono ?_
  rintro r w3 ⟨rfl, bc⟩
  clear hcall c0 c1 c2 c3 c4 c5 c6 c7 c8 d0 d1 d2 d3 d4 d5 d6 d7 d8
  have LOWx : Hid (Below w.heap.size w w3) := low_stepQ LOW.out bc
  have RVx : Hid (ReadsSS w3 (.slice va vm vc) X) := readsSS_below RV.out bc
  have RUx : Hid (ReadsSS w3 (.slice ua um uc) X) := readsSS_below RU.out bc
  have BAx : Hid (w3.heap[bBA]? = some (.cells #[.int .i64 0, .int .i64 nx, .slice none 0 0, .int .i64 rm, .slice none 0 0, .int .i64 0, .slice va vm vc, .slice none 0 0, .slice none 0 0] 32 (0, 0))) := box_stepQ BA.out bc
  have BBx : Hid (w3.heap[bBA + 1]? = some (.cells #[.int .i64 0, .int .i64 nx, .slice none 0 0, .int .i64 rm, .slice none 0 0, .int .i64 0, .slice ua um uc, .slice none 0 0, .slice none 0 0] 32 (0, 0))) := box_stepQ BB.out bc
  clear LOW RV RU BA BB
  have LOW : Hid (Below w.heap.size w w3) := LOWx.out
  have RV : Hid (ReadsSS w3 (.slice va vm vc) X) := RVx.out
  have RU : Hid (ReadsSS w3 (.slice ua um uc) X) := RUx.out
  have BA : Hid (w3.heap[bBA]? = some (.cells #[.int .i64 0, .int .i64 nx, .slice none 0 0, .int .i64 rm, .slice none 0 0, .int .i64 0, .slice va vm vc, .slice none 0 0, .slice none 0 0] 32 (0, 0))) := BAx.out
  have BB : Hid (w3.heap[bBA + 1]? = some (.cells #[.int .i64 0, .int .i64 nx, .slice none 0 0, .int .i64 rm, .slice none 0 0, .int .i64 0, .slice ua um uc, .slice none 0 0, .slice none 0 0] 32 (0, 0))) := BBx.out
  clear LOWx RVx RUx BAx BBx
  obtain ⟨c0, c1, c2, c3, c4, c5, c6, c7, c8⟩ := nine_in BA.out
  obtain ⟨d0, d1, d2, d3, d4, d5, d6, d7, d8⟩ := nine_in BB.out
  have hcall := eqQueue 0 X (.slice va vm vc) (.slice ua um uc) w3 hl hx RV.out RU.out
  go_wp2_with fail
  go_at_call 15
  refine hcall.mono ?_
  rintro r w4 ⟨rfl, bc⟩
  clear hcall c0 c1 c2 c3 c4 c5 c6 c7 c8 d0 d1 d2 d3 d4 d5 d6 d7 d8
  have LOWx : Hid (Below w.heap.size w w4) := low_stepQ LOW.out bc
  have RVx : Hid (ReadsSS w4 (.slice va vm vc) X) := readsSS_below RV.out bc
  have RUx : Hid (ReadsSS w4 (.slice ua um uc) X) := readsSS_below RU.out bc
  have BAx : Hid (w4.heap[bBA]? = some (.cells #[.int .i64 0, .int .i64 nx, .slice none 0 0, .int .i64 rm, .slice none 0 0, .int .i64 0, .slice va vm vc, .slice none 0 0, .slice none 0 0] 32 (0, 0))) := box_stepQ BA.out bc
  have BBx : Hid (w4.heap[bBA + 1]? = some (.cells #[.int .i64 0, .int .i64 nx, .slice none 0 0, .int .i64 rm, .slice none 0 0, .int .i64 0, .slice ua um uc, .slice none 0 0, .slice none 0 0] 32 (0, 0))) := box_stepQ BB.out bc
  clear LOW RV RU BA BB
  have LOW : Hid (Below w.heap.size w w4) := LOWx.out
  have RV : Hid (ReadsSS w4 (.slice va vm vc) X) := RVx.out
  have RU : Hid (ReadsSS w4 (.slice ua um uc) X) := RUx.out
  have BA : Hid (w4.heap[bBA]? = some (.cells #[.int .i64 0, .int .i64 nx, .slice none 0 0, .int .i64 rm, .slice none 0 0, .int .i64 0, .slice va vm vc, .slice none 0 0, .slice none 0 0] 32 (0, 0))) := BAx.out
  have BB : Hid (w4.heap[bBA + 1]? = some (.cells #[.int .i64 0, .int .i64 nx, .slice none 0 0, .int .i64 rm, .slice none 0 0, .int .i64 0, .slice ua um uc, .slice none 0 0, .slice none 0 0] 32 (0, 0))) := BBx.out
  clear LOWx RVx RUx BAx BBx
  obtain ⟨c0, c1, c2, c3, c4, c5, c6, c7, c8⟩ := nine_in BA.out
  obtain ⟨d0, d1, d2, d3, d4, d5, d6, d7, d8⟩ := nine_in BB.out
  have hcall := eqNilQuestion w4
  go_wp2_with fail
  go_at_call 16
  refine hcall.mono ?_
  rintro r w5 ⟨rfl, hww⟩
  clear hcall c0 c1 c2 c3 c4 c5 c6 c7 c8 d0 d1 d2 d3 d4 d5 d6 d7 d8
  have LOWx : Hid (Below w.heap.size w w5) := low_stepQ LOW.out (hww ▸ Below.refl _ _)
  have RVx : Hid (ReadsSS w5 (.slice va vm vc) X) := readsSS_below RV.out (hww ▸ Below.refl _ _)
  have RUx : Hid (ReadsSS w5 (.slice ua um uc) X) := readsSS_below RU.out (hww ▸ Below.refl _ _)
  have BAx : Hid (w5.heap[bBA]? = some (.cells #[.int .i64 0, .int .i64 nx, .slice none 0 0, .int .i64 rm, .slice none 0 0, .int .i64 0, .slice va vm vc, .slice none 0 0, .slice none 0 0] 32 (0, 0))) := box_stepQ BA.out (hww ▸ Below.refl _ _)
  have BBx : Hid (w5.heap[bBA + 1]? = some (.cells #[.int .i64 0, .int .i64 nx, .slice none 0 0, .int .i64 rm, .slice none 0 0, .int .i64 0, .slice ua um uc, .slice none 0 0, .slice none 0 0] 32 (0, 0))) := box_stepQ BB.out (hww ▸ Below.refl _ _)
  clear LOW RV RU BA BB
  have LOW : Hid (Below w.heap.size w w5) := LOWx.out
  have RV : Hid (ReadsSS w5 (.slice va vm vc) X) := RVx.out
  have RU : Hid (ReadsSS w5 (.slice ua um uc) X) := RUx.out
  have BA : Hid (w5.heap[bBA]? = some (.cells #[.int .i64 0, .int .i64 nx, .slice none 0 0, .int .i64 rm, .slice none 0 0, .int .i64 0, .slice va vm vc, .slice none 0 0, .slice none 0 0] 32 (0, 0))) := BAx.out
  have BB : Hid (w5.heap[bBA + 1]? = some (.cells #[.int .i64 0, .int .i64 nx, .slice none 0 0, .int .i64 rm, .slice none 0 0, .int .i64 0, .slice ua um uc, .slice none 0 0, .slice none 0 0] 32 (0, 0))) := BBx.out
  clear LOWx RVx RUx BAx BBx
  clear hww
  obtain ⟨c0, c1, c2, c3, c4, c5, c6, c7, c8⟩ := nine_in BA.out
  obtain ⟨d0, d1, d2, d3, d4, d5, d6, d7, d8⟩ := nine_in BB.out
  have hcall := eqNilAnswer w5
  go_wp2_with fail
  go_at_call 17
  refine hcall.mono ?_
  rintro r w6 ⟨rfl, hww⟩
  clear hcall c0 c1 c2 c3 c4 c5 c6 c7 c8 d0 d1 d2 d3 d4 d5 d6 d7 d8
  have LOWx : Hid (Below w.heap.size w w6) := low_stepQ LOW.out (hww ▸ Below.refl _ _)
  have RVx : Hid (ReadsSS w6 (.slice va vm vc) X) := readsSS_below RV.out (hww ▸ Below.refl _ _)
  have RUx : Hid (ReadsSS w6 (.slice ua um uc) X) := readsSS_below RU.out (hww ▸ Below.refl _ _)
  have BAx : Hid (w6.heap[bBA]? = some (.cells #[.int .i64 0, .int .i64 nx, .slice none 0 0, .int .i64 rm, .slice none 0 0, .int .i64 0, .slice va vm vc, .slice none 0 0, .slice none 0 0] 32 (0, 0))) := box_stepQ BA.out (hww ▸ Below.refl _ _)
  have BBx : Hid (w6.heap[bBA + 1]? = some (.cells #[.int .i64 0, .int .i64 nx, .slice none 0 0, .int .i64 rm, .slice none 0 0, .int .i64 0, .slice ua um uc, .slice none 0 0, .slice none 0 0] 32 (0, 0))) := box_stepQ BB.out (hww ▸ Below.refl _ _)
  clear LOW RV RU BA BB
  have LOW : Hid (Below w.heap.size w w6) := LOWx.out
  have RV : Hid (ReadsSS w6 (.slice va vm vc) X) := RVx.out
  have RU : Hid (ReadsSS w6 (.slice ua um uc) X) := RUx.out
  have BA : Hid (w6.heap[bBA]? = some (.cells #[.int .i64 0, .int .i64 nx, .slice none 0 0, .int .i64 rm, .slice none 0 0, .int .i64 0, .slice va vm vc, .slice none 0 0, .slice none 0 0] 32 (0, 0))) := BAx.out
  have BB : Hid (w6.heap[bBA + 1]? = some (.cells #[.int .i64 0, .int .i64 nx, .slice none 0 0, .int .i64 rm, .slice none 0 0, .int .i64 0, .slice ua um uc, .slice none 0 0, .slice none 0 0] 32 (0, 0))) := BBx.out
  clear LOWx RVx RUx BAx BBx
  clear hww
  go_wp2
  go_ret
  exact ⟨rfl, LOW.out⟩

theorem markServer0 (nx rm : Int) (X : List (List Int)) (v : Value) (us : List Value) (base top : Nat) (k : Int) (w : World) (h1 : 1 ≤ k) (hl : X.length ≤ 1048576) (h2 : k + tot X ≤ 4398046511104) (hbase : base ≤ w.heap.size)
    (hv : OwnQ w base v us X) (ha : ApartSS us) (ht : ∀ u ∈ us, ∀ b, u.ownBlock = some b → b < top) (htop : top ≤ w.heap.size) :
    Calls Tryz.prog 7 #[.agg #[.int .i64 0, .int .i64 nx, .slice none 0 0, .int .i64 rm, .slice none 0 0, .int .i64 0, v, .slice none 0 0, .slice none 0 0], .int .i64 k] w fun e w' => e = .returned (.int .i64 (k + tot X)) ∧ w'.ownsRow base 74 1 v X.length us ∧ MarkedQ base us X k X.length w' ∧ Below base w w' ∧ Above top w w' := by
  obtain ⟨va, vm, vc, rfl⟩ := own_sliceQ hv.row
  obtain ⟨W0, hW0⟩ : ∃ W0, w.alloc (.cells #[.int .i64 0, .int .i64 nx, .slice none 0 0, .int .i64 rm, .slice none 0 0, .int .i64 0, .slice va vm vc, .slice none 0 0, .slice none 0 0] 32) = W0 := ⟨_, rfl⟩
  have b0 : Below w.heap.size w W0 := by rw [← hW0]; go_grown
  have a0 : Above top w W0 := by rw [← hW0]; exact Above.alloc _
  obtain ⟨bX, hbX⟩ : ∃ n, w.heap.size = n := ⟨_, rfl⟩
  have HX0 : Hid (W0.heap[bX]? = some (.cells #[.int .i64 0, .int .i64 nx, .slice none 0 0, .int .i64 rm, .slice none 0 0, .int .i64 0, .slice va vm vc, .slice none 0 0, .slice none 0 0] 32 (0, 0))) := by show W0.heap[bX]? = _; rw [← hW0, ← hbX]; exact heap_alloc_new w _
  have H1 := markNilProject k W0
  have H2 := markCache0 rm k (by omega) W0
  obtain ⟨c0, c1, c2, c3, c4, c5, c6, c7, c8⟩ := nine_in HX0.out
  have OV : Hid (OwnQ W0 base (.slice va vm vc) us X) := hv.below b0
  have HB0 : Hid (Below base w W0) := b0.mono hbase
  have HA0 : Hid (Above top w W0) := a0
  have HBX : Hid (base ≤ W0.heap.size ∧ top ≤ bX ∧ bX < W0.heap.size ∧ top ≤ W0.heap.size) := by
    have h9 := (Array.getElem?_eq_some_iff.1 HX0.out).1
    have h8 := b0.size
    exact ⟨by omega, by omega, h9, by omega⟩
  clear b0 a0 hv
  go_enter Tryz.func7, Tryz.ntmps7
  go_wp2_with fail
  go_at_call 18
  clear hW0
  refine H1.mono ?_
  rintro r w1 ⟨rfl, rfl⟩
  go_wp2_with fail
  go_at_call 19
  clear hbX
  refine H2.mono ?_
  rintro r w2 ⟨rfl, b2, a2⟩
  have HX2 : Hid (w2.heap[bX]? = some (.cells #[.int .i64 0, .int .i64 nx, .slice none 0 0, .int .i64 rm, .slice none 0 0, .int .i64 0, .slice va vm vc, .slice none 0 0, .slice none 0 0] 32 (0, 0))) := box_stepQ HX0.out b2
  have OV2 : Hid (OwnQ w2 base (.slice va vm vc) us X) := OV.out.below b2
  have HB2 : Hid (Below base w w2) := HB0.out.trans (b2.mono HBX.out.1)
  have HA2 : Hid (Above top w w2) := HA0.out.trans ⟨a2.1, fun b h1 h2 => by
    have := HBX.out
    exact b2.block b h2⟩
  have HS2 : Hid (base ≤ w2.heap.size ∧ top ≤ bX ∧ bX < w2.heap.size) := ⟨Nat.le_trans HBX.out.1 b2.size, HBX.out.2.1, Nat.lt_of_lt_of_le HBX.out.2.2.1 b2.size⟩
  have H3 := markQueue 0 X (.slice va vm vc) us base top k w2 h1 hl h2 HS2.out.1 OV2.out ha ht
  clear H1 H2 HX0 OV HB0 HA0 HBX c0 c1 c2 c3 c4 c5 c6 c7 c8 b2 a2
  obtain ⟨c0, c1, c2, c3, c4, c5, c6, c7, c8⟩ := nine_in HX2.out
  go_wp2_with fail
  go_at_call 20
  refine H3.mono ?_
  rintro r w3 ⟨rfl, m1, m2, m3, m4⟩
  have HX3 : Hid (w3.heap[bX]? = some (.cells #[.int .i64 0, .int .i64 nx, .slice none 0 0, .int .i64 rm, .slice none 0 0, .int .i64 0, .slice va vm vc, .slice none 0 0, .slice none 0 0] 32 (0, 0))) := box_highQ HX2.out m4 HS2.out.2.1
  have HE : Hid (w3.ownsRow base 74 1 (.slice va vm vc) X.length us ∧ MarkedQ base us X k X.length w3 ∧ Below base w w3 ∧ Above top w w3) := ⟨m1, m2, HB2.out.trans m3, HA2.out.trans m4⟩
  have H4 := markNilQuestion (k + tot X) w3
  have H5 := markNilAnswer (k + tot X) w3
  clear H3 c0 c1 c2 c3 c4 c5 c6 c7 c8 m1 m2 m3 m4
  obtain ⟨c0, c1, c2, c3, c4, c5, c6, c7, c8⟩ := nine_in HX3.out
  go_wp2_with fail
  go_at_call 21
  refine H4.mono ?_
  rintro r w4 ⟨rfl, rfl⟩
  go_wp2_with fail
  go_at_call 22
  refine H5.mono ?_
  rintro r w5 ⟨rfl, rfl⟩
  go_wp2
  go_ret
  exact ⟨rfl, HE.out.1, HE.out.2.1, HE.out.2.2.1, HE.out.2.2.2⟩

theorem heldServer0 (nx rm : Int) (X : List (List Int)) (v : Value) (us : List Value) (base : Nat) (w : World) (hl : X.length ≤ 1048576) (h2 : (1 : Int) + tot X ≤ 1099511627776)
    (hrow : w.ownsRow base 74 1 v X.length us) (hM : MarkedQ base us X 1 X.length w) :
    Calls Tryz.prog 8 #[.agg #[.int .i64 0, .int .i64 nx, .slice none 0 0, .int .i64 rm, .slice none 0 0, .int .i64 0, v, .slice none 0 0, .slice none 0 0], .int .i64 1] w fun e w' => e = .returned (.int .i64 (1 + tot X)) ∧ Below w.heap.size w w' := by
  obtain ⟨va, vm, vc, rfl⟩ := own_sliceQ hrow
  have hneg : decide (1 + (tot X : Int) < 0) = false := by simp; omega
  have LOW : Hid (Below w.heap.size w w) := Below.refl _ _
  have OM : Hid (MAt w base (.slice va vm vc) us X) := ⟨hrow, hM⟩
  clear hrow hM
  obtain ⟨w1, hAw1⟩ : ∃ W, w.alloc (.cells #[.int .i64 0, .int .i64 nx, .slice none 0 0, .int .i64 rm, .slice none 0 0, .int .i64 0, .slice va vm vc, .slice none 0 0, .slice none 0 0] 32) = W := ⟨_, rfl⟩
  have bb : Below w.heap.size w w1 := by rw [← hAw1]; go_grown
  obtain ⟨bBA, hBw1⟩ : ∃ n, w.heap.size = n := ⟨_, rfl⟩
  have BAn : Hid (w1.heap[bBA]? = some (.cells #[.int .i64 0, .int .i64 nx, .slice none 0 0, .int .i64 rm, .slice none 0 0, .int .i64 0, .slice va vm vc, .slice none 0 0, .slice none 0 0] 32 (0, 0))) := by
    show w1.heap[bBA]? = _
    rw [← hAw1, ← hBw1]; exact heap_alloc_new w _
  have LOWx : Hid (Below w.heap.size w w1) := low_stepQ LOW.out bb
  have OMx : Hid (MAt w1 base (.slice va vm vc) us X) := mat_step OM.out bb
  clear LOW OM
  have LOW : Hid (Below w.heap.size w w1) := LOWx.out
  have OM : Hid (MAt w1 base (.slice va vm vc) us X) := OMx.out
  clear LOWx OMx
  clear bb
  have BA : Hid (w1.heap[bBA]? = some (.cells #[.int .i64 0, .int .i64 nx, .slice none 0 0, .int .i64 rm, .slice none 0 0, .int .i64 0, .slice va vm vc, .slice none 0 0, .slice none 0 0] 32 (0, 0))) := BAn.out
  clear BAn
  obtain ⟨c0, c1, c2, c3, c4, c5, c6, c7, c8⟩ := nine_in BA.out
  go_enter Tryz.func8, Tryz.ntmps8
  have hcall := heldNilProject 1 w1
  go_wp2_with fail
  go_at_call 23
  clear hAw1 hBw1
  refine hcall.mono ?_
  rintro r w2 ⟨rfl, hww⟩
  clear hcall c0 c1 c2 c3 c4 c5 c6 c7 c8
  have LOWx : Hid (Below w.heap.size w w2) := low_stepQ LOW.out (hww ▸ Below.refl _ _)
  have OMx : Hid (MAt w2 base (.slice va vm vc) us X) := mat_step OM.out (hww ▸ Below.refl _ _)
  have BAx : Hid (w2.heap[bBA]? = some (.cells #[.int .i64 0, .int .i64 nx, .slice none 0 0, .int .i64 rm, .slice none 0 0, .int .i64 0, .slice va vm vc, .slice none 0 0, .slice none 0 0] 32 (0, 0))) := box_stepQ BA.out (hww ▸ Below.refl _ _)
  clear LOW OM BA
  have LOW : Hid (Below w.heap.size w w2) := LOWx.out
  have OM : Hid (MAt w2 base (.slice va vm vc) us X) := OMx.out
  have BA : Hid (w2.heap[bBA]? = some (.cells #[.int .i64 0, .int .i64 nx, .slice none 0 0, .int .i64 rm, .slice none 0 0, .int .i64 0, .slice va vm vc, .slice none 0 0, .slice none 0 0] 32 (0, 0))) := BAx.out
  clear LOWx OMx BAx
  clear hww
  obtain ⟨c0, c1, c2, c3, c4, c5, c6, c7, c8⟩ := nine_in BA.out
  have hcall := heldCache0 rm 1 (by omega) w2
  go_wp2_with fail
  go_at_call 24
  refine hcall.mono ?_
  rintro r w3 ⟨rfl, bc, -⟩
  clear hcall c0 c1 c2 c3 c4 c5 c6 c7 c8
  have LOWx : Hid (Below w.heap.size w w3) := low_stepQ LOW.out bc
  have OMx : Hid (MAt w3 base (.slice va vm vc) us X) := mat_step OM.out bc
  have BAx : Hid (w3.heap[bBA]? = some (.cells #[.int .i64 0, .int .i64 nx, .slice none 0 0, .int .i64 rm, .slice none 0 0, .int .i64 0, .slice va vm vc, .slice none 0 0, .slice none 0 0] 32 (0, 0))) := box_stepQ BA.out bc
  clear LOW OM BA
  have LOW : Hid (Below w.heap.size w w3) := LOWx.out
  have OM : Hid (MAt w3 base (.slice va vm vc) us X) := OMx.out
  have BA : Hid (w3.heap[bBA]? = some (.cells #[.int .i64 0, .int .i64 nx, .slice none 0 0, .int .i64 rm, .slice none 0 0, .int .i64 0, .slice va vm vc, .slice none 0 0, .slice none 0 0] 32 (0, 0))) := BAx.out
  clear LOWx OMx BAx
  obtain ⟨c0, c1, c2, c3, c4, c5, c6, c7, c8⟩ := nine_in BA.out
  have hcall := heldQueue 0 X (.slice va vm vc) us base 1 w3 (by omega) hl h2 OM.out.1 OM.out.2
  go_wp2_with fail
  go_at_call 25
  refine hcall.mono ?_
  rintro r w4 ⟨rfl, bc⟩
  clear hcall c0 c1 c2 c3 c4 c5 c6 c7 c8
  have LOWx : Hid (Below w.heap.size w w4) := low_stepQ LOW.out bc
  have OMx : Hid (MAt w4 base (.slice va vm vc) us X) := mat_step OM.out bc
  have BAx : Hid (w4.heap[bBA]? = some (.cells #[.int .i64 0, .int .i64 nx, .slice none 0 0, .int .i64 rm, .slice none 0 0, .int .i64 0, .slice va vm vc, .slice none 0 0, .slice none 0 0] 32 (0, 0))) := box_stepQ BA.out bc
  clear LOW OM BA
  have LOW : Hid (Below w.heap.size w w4) := LOWx.out
  have OM : Hid (MAt w4 base (.slice va vm vc) us X) := OMx.out
  have BA : Hid (w4.heap[bBA]? = some (.cells #[.int .i64 0, .int .i64 nx, .slice none 0 0, .int .i64 rm, .slice none 0 0, .int .i64 0, .slice va vm vc, .slice none 0 0, .slice none 0 0] 32 (0, 0))) := BAx.out
  clear LOWx OMx BAx
  obtain ⟨c0, c1, c2, c3, c4, c5, c6, c7, c8⟩ := nine_in BA.out
  have hcall := heldNilQuestion (1 + tot X) w4
  go_wp2_with fail
  go_at_call 26
  refine hcall.mono ?_
  rintro r w5 ⟨rfl, hww⟩
  clear hcall c0 c1 c2 c3 c4 c5 c6 c7 c8
  have LOWx : Hid (Below w.heap.size w w5) := low_stepQ LOW.out (hww ▸ Below.refl _ _)
  have OMx : Hid (MAt w5 base (.slice va vm vc) us X) := mat_step OM.out (hww ▸ Below.refl _ _)
  have BAx : Hid (w5.heap[bBA]? = some (.cells #[.int .i64 0, .int .i64 nx, .slice none 0 0, .int .i64 rm, .slice none 0 0, .int .i64 0, .slice va vm vc, .slice none 0 0, .slice none 0 0] 32 (0, 0))) := box_stepQ BA.out (hww ▸ Below.refl _ _)
  clear LOW OM BA
  have LOW : Hid (Below w.heap.size w w5) := LOWx.out
  have OM : Hid (MAt w5 base (.slice va vm vc) us X) := OMx.out
  have BA : Hid (w5.heap[bBA]? = some (.cells #[.int .i64 0, .int .i64 nx, .slice none 0 0, .int .i64 rm, .slice none 0 0, .int .i64 0, .slice va vm vc, .slice none 0 0, .slice none 0 0] 32 (0, 0))) := BAx.out
  clear LOWx OMx BAx
  clear hww
  obtain ⟨c0, c1, c2, c3, c4, c5, c6, c7, c8⟩ := nine_in BA.out
  have hcall := heldNilAnswer (1 + tot X) w5
  go_wp2_with fail
  go_at_call 27
  refine hcall.mono ?_
  rintro r w6 ⟨rfl, hww⟩
  clear hcall c0 c1 c2 c3 c4 c5 c6 c7 c8
  have LOWx : Hid (Below w.heap.size w w6) := low_stepQ LOW.out (hww ▸ Below.refl _ _)
  have OMx : Hid (MAt w6 base (.slice va vm vc) us X) := mat_step OM.out (hww ▸ Below.refl _ _)
  have BAx : Hid (w6.heap[bBA]? = some (.cells #[.int .i64 0, .int .i64 nx, .slice none 0 0, .int .i64 rm, .slice none 0 0, .int .i64 0, .slice va vm vc, .slice none 0 0, .slice none 0 0] 32 (0, 0))) := box_stepQ BA.out (hww ▸ Below.refl _ _)
  clear LOW OM BA
  have LOW : Hid (Below w.heap.size w w6) := LOWx.out
  have OM : Hid (MAt w6 base (.slice va vm vc) us X) := OMx.out
  have BA : Hid (w6.heap[bBA]? = some (.cells #[.int .i64 0, .int .i64 nx, .slice none 0 0, .int .i64 rm, .slice none 0 0, .int .i64 0, .slice va vm vc, .slice none 0 0, .slice none 0 0] 32 (0, 0))) := BAx.out
  clear LOWx OMx BAx
  clear hww
  go_wp2
  go_ret
  exact ⟨rfl, LOW.out⟩

end Go.Proofs.YtggglcjdnllnjaaGreatDoor
