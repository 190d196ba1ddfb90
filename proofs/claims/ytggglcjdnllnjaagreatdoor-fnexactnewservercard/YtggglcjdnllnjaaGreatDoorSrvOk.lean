/-
  Chapter 18: ServerOk of a server that is new.
-/
import Derived.Test.YtggglcjdnllnjaaGreatDoorSrvEq
import Derived.Test.YtggglcjdnllnjaaGreatDoorFnKit
import Derived.Lib.QuietBelow
namespace Go.Proofs.YtggglcjdnllnjaaGreatDoor
open Go.ChangeShapes Go.WideShapes Go.ChangeAt Go.RowKit
set_option linter.unusedVariables false
set_option linter.unusedSimpArgs false
set_option maxHeartbeats 8000000
set_option maxRecDepth 20000

/-- Is it a Room? -/
def roomB (rm : Int) : Bool := inB rm 1 20

theorem cacheOk0 (rm : Int) (w : World) : Calls Tryz.prog 55 #[.agg #[.int .i64 rm, .slice none 0 0]] w fun e w' => e = .returned (.bool (roomB rm)) ∧ Below w.heap.size w w' := by
  obtain ⟨W0, hW0⟩ : ∃ W, w.alloc (.cells #[.int .i64 rm, .slice none 0 0] 25) = W := ⟨_, rfl⟩
  have HB0 : Hid (Below w.heap.size w W0) := by show Below w.heap.size w W0; rw [← hW0]; go_grown
  obtain ⟨bX, hbX⟩ : ∃ n, w.heap.size = n := ⟨_, rfl⟩
  have HX0 : Hid (W0.heap[bX]? = some (.cells #[.int .i64 rm, .slice none 0 0] 25 (0, 0))) := by show W0.heap[bX]? = _; rw [← hW0, ← hbX]; exact heap_alloc_new w _
  obtain ⟨c0, c1, -, -⟩ := two_cellsQ HX0.out
  by_cases h1 : rm < 1
  · have h1' : decide (rm < 1) = true := decide_eq_true h1
    have hr : roomB rm = false := by unfold roomB inB; simp; omega
    rw [hr]
    clear hr h1
    go_enter Tryz.func55, Tryz.ntmps55
    go_wp2
    go_ret
    exact ⟨rfl, HB0.out⟩
  have h1' : decide (rm < 1) = false := decide_eq_false h1
  by_cases h2 : 20 < rm
  · have h2' : decide ((20 : Int) < rm) = true := decide_eq_true h2
    have hr : roomB rm = false := by unfold roomB inB; simp; omega
    rw [hr]
    clear hr h1 h2
    go_enter Tryz.func55, Tryz.ntmps55
    go_wp2
    go_ret
    exact ⟨rfl, HB0.out⟩
  have h2' : decide ((20 : Int) < rm) = false := decide_eq_false h2
  have h3' : decide (rm < 0) = false := decide_eq_false (by omega)
  have hr : roomB rm = true := by unfold roomB inB; simp; omega
  rw [hr]
  clear hr h1 h2
  have hcn := fun f => containsNilItem f W0
  go_enter Tryz.func55, Tryz.ntmps55
  go_wp2_with fail
  go_at_call 56
  clear hW0 hbX
  refine (hcn _).mono ?_
  rintro r w1 ⟨rfl, rfl⟩
  obtain ⟨W1, hW1⟩ : ∃ W, W0.alloc (.cells #[.slice none 0 0] 109) = W := ⟨_, rfl⟩
  have b1 : Below W0.heap.size W0 W1 := by rw [← hW1]; go_grown
  obtain ⟨bO, hbO⟩ : ∃ n, W0.heap.size = n := ⟨_, rfl⟩
  have HO1 : Hid (W1.heap[bO]? = some (.cells #[.slice none 0 0] 109 (0, 0))) := by show W1.heap[bO]? = _; rw [← hW1, ← hbO]; exact heap_alloc_new W0 _
  have HX1 : Hid (W1.heap[bX]? = some (.cells #[.int .i64 rm, .slice none 0 0] 25 (0, 0))) := box_stepQ HX0.out b1
  have HB1 : Hid (Below w.heap.size w W1) := low_stepQ HB0.out b1
  clear b1 hcn HX0 HB0 c0 c1
  obtain ⟨c0, c1, -, -⟩ := two_cellsQ HX1.out
  go_wp2_with fail
  clear hW1 hbO
  go_loopw [32] (fun i wr => i = .int .i64 0 ∧ wr = W1) (fun _ _ => 0)
  case atStart => exact ⟨rfl, rfl⟩
  case round =>
    obtain ⟨rfl, rfl⟩ := hrel
    have hio : ∀ Z, Z.heap[bO]? = some (.cells #[.slice none 0 0] 109 (0, 0)) → Calls Tryz.prog 75 #[.pointer (some ⟨bO, 0, none⟩)] Z fun e w' => e = .returned (.slice none 0 0) ∧ Below Z.heap.size Z w' := by
      intro Z hZ
      have o0 : Z.cell? ⟨bO, 0, none⟩ = some (.slice none 0 0) := by simp [World.cell?, hZ]
      go_enter Tryz.func75, Tryz.ntmps75
      go_wp2
      go_ret
      exact ⟨rfl, Below.refl _ _⟩
    have he : ∀ d os, _ := fun d os => Calls.regrown_of (w := wr) (d := d) (os := os) (hio _ (box_stepQ HO1.out (below_regrown wr d os)))
    have g1 := cell_regrown c1
    clear hio
    go_wp2_with fail
    refine wp_region_quiet_below (by kernel_rfl) (by kernel_rfl) ?_
    repeat (go_big_quiet_step (exact he _ _))
    refine wpQuiet_nil ?_
    intro _ hw'
    obtain ⟨⟨dq, osq⟩, hw''⟩ := hw'
    subst hw''
    have BW := below_regrown wr dq osq
    have HE := low_stepQ HB1.out BW
    clear BW he g1
    go_wp2
    go_ret
    exact ⟨rfl, HE⟩

theorem right0 (rm : Int) (w : World) : Calls Tryz.prog 34 #[.agg #[.int .i64 rm, .slice none 0 0]] w fun e w' => e = .returned (.bool (roomB rm)) ∧ Below w.heap.size w w' := by
  have LOW : Hid (Below w.heap.size w w) := Below.refl _ _
  obtain ⟨w1, hAw1⟩ : ∃ W, w.alloc (.cells #[.int .i64 rm, .slice none 0 0] 25) = W := ⟨_, rfl⟩
  have bb : Below w.heap.size w w1 := by rw [← hAw1]; go_grown
  obtain ⟨bBA, hBw1⟩ : ∃ n, w.heap.size = n := ⟨_, rfl⟩
  have BAn : Hid (w1.heap[bBA]? = some (.cells #[.int .i64 rm, .slice none 0 0] 25 (0, 0))) := by
    show w1.heap[bBA]? = _
    rw [← hAw1, ← hBw1]; exact heap_alloc_new w _
  have LOWx : Hid (Below w.heap.size w w1) := low_stepQ LOW.out bb
  clear LOW
  have LOW : Hid (Below w.heap.size w w1) := LOWx.out
  clear LOWx
  clear bb
  have BA : Hid (w1.heap[bBA]? = some (.cells #[.int .i64 rm, .slice none 0 0] 25 (0, 0))) := BAn.out
  clear BAn
  obtain ⟨c0, c1, -, -⟩ := two_cellsQ BA.out
  obtain ⟨b, hb⟩ : ∃ b, roomB rm = b := ⟨_, rfl⟩
  rw [hb]
  go_enter Tryz.func34, Tryz.ntmps34
  have hco := cacheOk0 rm w1
  rw [hb] at hco
  clear hb
  have hcall := hco
  go_wp2_with fail
  go_at_call 55
  clear hAw1 hBw1
  refine hcall.mono ?_
  rintro r w2 ⟨rfl, bc⟩
  clear hcall c0 c1
  have LOWx : Hid (Below w.heap.size w w2) := low_stepQ LOW.out bc
  have BAx : Hid (w2.heap[bBA]? = some (.cells #[.int .i64 rm, .slice none 0 0] 25 (0, 0))) := box_stepQ BA.out bc
  clear LOW BA
  have LOW : Hid (Below w.heap.size w w2) := LOWx.out
  have BA : Hid (w2.heap[bBA]? = some (.cells #[.int .i64 rm, .slice none 0 0] 25 (0, 0))) := BAx.out
  clear LOWx BAx
  clear hco
  obtain ⟨c0, c1, -, -⟩ := two_cellsQ BA.out
  have hcn := fun f => containsNilItem f w2
  cases b with
  | false =>
    go_wp2
    go_ret
    exact ⟨rfl, LOW.out⟩
  | true =>
    go_wp2_with fail
    go_at_call 56
    refine (hcn _).mono ?_
    rintro r w9 ⟨rfl, rfl⟩
    go_wp2
    go_ret
    exact ⟨rfl, LOW.out⟩

theorem questionsOk0 (nx rm : Int) (X : List (List Int)) (v : Value) (w : World) (hl : X.length ≤ maxLen) (hx : ∀ xs ∈ X, xs.length ≤ maxLen) (hv : ReadsSS w v X) (h0 : lenA 0 X = 0) :
    Calls Tryz.prog 32 #[.agg #[.int .i64 0, .int .i64 nx, .slice none 0 0, .int .i64 rm, .slice none 0 0, .int .i64 0, v, .slice none 0 0, .slice none 0 0]] w fun e w' => e = .returned (.bool true) ∧ Below w.heap.size w w' := by
  obtain ⟨va, vm, vc, hvv⟩ : ∃ a m c, v = .slice a m c := by obtain ⟨a, c, e, _⟩ := hv; exact ⟨_, _, _, e⟩
  subst hvv
  obtain ⟨W0, hW0⟩ : ∃ W, w.alloc (.cells #[.int .i64 0, .int .i64 nx, .slice none 0 0, .int .i64 rm, .slice none 0 0, .int .i64 0, .slice va vm vc, .slice none 0 0, .slice none 0 0] 32) = W := ⟨_, rfl⟩
  have hB0 : Below w.heap.size w W0 := by rw [← hW0]; go_grown
  have HB0 : Hid (Below w.heap.size w W0) := hB0
  obtain ⟨bX, hbX⟩ : ∃ n, w.heap.size = n := ⟨_, rfl⟩
  have HX0 : Hid (W0.heap[bX]? = some (.cells #[.int .i64 0, .int .i64 nx, .slice none 0 0, .int .i64 rm, .slice none 0 0, .int .i64 0, .slice va vm vc, .slice none 0 0, .slice none 0 0] 32 (0, 0))) := by show W0.heap[bX]? = _; rw [← hW0, ← hbX]; exact heap_alloc_new w _
  have hln := fun d os => implLength 0 X (.slice va vm vc) _ hl hx (readsSS_below hv (low_stepQ hB0 (below_regrown W0 d os)))
  rw [h0] at hln
  obtain ⟨c0, c1, c2, c3, c4, c5, c6, c7, c8⟩ := nine_in HX0.out
  have he : ∀ d os, _ := fun d os => Calls.regrown_of (w := W0) (d := d) (os := os) (hln d os)
  have g5 := cell_regrown c5
  have g6 := cell_regrown c6
  have g7 := cell_regrown c7
  clear hln hv hB0 h0
  go_enter Tryz.func32, Tryz.ntmps32
  go_wp2_with fail
  clear hW0 hbX
  refine wp_region_quiet_below (by kernel_rfl) (by kernel_rfl) ?_
  repeat (go_big_quiet_step (exact he _ _))
  refine wpQuiet_nil ?_
  intro _ hw'
  obtain ⟨⟨dq, osq⟩, hw''⟩ := hw'
  subst hw''
  have BW := below_regrown W0 dq osq
  have HX1q := box_stepQ HX0.out BW
  have HB1q := low_stepQ HB0.out BW
  clear BW he g5 g6 g7 c0 c1 c2 c3 c4 c5 c6 c7 c8
  dsimp only at HX1q HB1q ⊢
  generalize «Sort».grow (redrawn W0 dq) osq = W1 at HX1q HB1q ⊢
  have HX1 : Hid (W1.heap[bX]? = some (.cells #[.int .i64 0, .int .i64 nx, .slice none 0 0, .int .i64 rm, .slice none 0 0, .int .i64 0, .slice va vm vc, .slice none 0 0, .slice none 0 0] 32 (0, 0))) := HX1q
  have HB1 : Hid (Below w.heap.size w W1) := HB1q
  clear HX1q HB1q
  obtain ⟨c0, c1, c2, c3, c4, c5, c6, c7, c8⟩ := nine_in HX1.out
  go_wp2_with fail
  go_loopw [3, 22] (fun a i wr => a = .int .i64 0 ∧ i = .int .i64 0 ∧ wr = W1) (fun _ _ _ => 0)
  case atStart => exact ⟨rfl, rfl, rfl⟩
  case round =>
    obtain ⟨rfl, rfl, rfl⟩ := hrel
    go_wp2
    go_ret
    exact ⟨rfl, HB1.out⟩

theorem answersOk0 (nx rm : Int) (v : Value) (w : World) (hv : ∃ a m c, v = .slice a m c) :
    Calls Tryz.prog 33 #[.agg #[.int .i64 0, .int .i64 nx, .slice none 0 0, .int .i64 rm, .slice none 0 0, .int .i64 0, v, .slice none 0 0, .slice none 0 0]] w fun e w' => e = .returned (.bool true) ∧ Below w.heap.size w w' := by
  obtain ⟨va, vm, vc, rfl⟩ := hv
  have LOW : Hid (Below w.heap.size w w) := Below.refl _ _
  obtain ⟨w1, hAw1⟩ : ∃ W, w.alloc (.cells #[.int .i64 0, .int .i64 nx, .slice none 0 0, .int .i64 rm, .slice none 0 0, .int .i64 0, .slice va vm vc, .slice none 0 0, .slice none 0 0] 32) = W := ⟨_, rfl⟩
  have bb : Below w.heap.size w w1 := by rw [← hAw1]; go_grown
  obtain ⟨bBA, hBw1⟩ : ∃ n, w.heap.size = n := ⟨_, rfl⟩
  have BAn : Hid (w1.heap[bBA]? = some (.cells #[.int .i64 0, .int .i64 nx, .slice none 0 0, .int .i64 rm, .slice none 0 0, .int .i64 0, .slice va vm vc, .slice none 0 0, .slice none 0 0] 32 (0, 0))) := by
    show w1.heap[bBA]? = _
    rw [← hAw1, ← hBw1]; exact heap_alloc_new w _
  have LOWx : Hid (Below w.heap.size w w1) := low_stepQ LOW.out bb
  clear LOW
  have LOW : Hid (Below w.heap.size w w1) := LOWx.out
  clear LOWx
  clear bb
  have BA : Hid (w1.heap[bBA]? = some (.cells #[.int .i64 0, .int .i64 nx, .slice none 0 0, .int .i64 rm, .slice none 0 0, .int .i64 0, .slice va vm vc, .slice none 0 0, .slice none 0 0] 32 (0, 0))) := BAn.out
  clear BAn
  obtain ⟨c0, c1, c2, c3, c4, c5, c6, c7, c8⟩ := nine_in BA.out
  have hcn := fun f => containsNilAnswer f w1
  go_enter Tryz.func33, Tryz.ntmps33
  go_wp2_with fail
  go_at_call 53
  clear hAw1 hBw1
  refine (hcn _).mono ?_
  rintro r w9 ⟨rfl, rfl⟩
  go_wp2
  go_ret
  exact ⟨rfl, LOW.out⟩

theorem fromOneToM (w : World) : Calls Tryz.prog 29 #[.int .i64 1, .int .i64 1000000] w fun e w' => e = .returned (.bool true) ∧ w = w' := by
  go_enter Tryz.func29, Tryz.ntmps29
  go_wp2
  go_ret
  exact ⟨rfl, rfl⟩

theorem serverOk0 (rm : Int) (X : List (List Int)) (v : Value) (w : World) (hl : X.length ≤ maxLen) (hx : ∀ xs ∈ X, xs.length ≤ maxLen) (hv : ReadsSS w v X) (h0 : lenA 0 X = 0) (hq : queB 0 X = true) :
    Calls Tryz.prog 12 #[.agg #[.int .i64 0, .int .i64 1, .slice none 0 0, .int .i64 rm, .slice none 0 0, .int .i64 0, v, .slice none 0 0, .slice none 0 0]] w fun e w' => e = .returned (.bool (roomB rm)) ∧ Below w.heap.size w w' := by
  obtain ⟨va, vm, vc, hvv⟩ : ∃ a m c, v = .slice a m c := by obtain ⟨a, c, e, _⟩ := hv; exact ⟨_, _, _, e⟩
  subst hvv
  have hwi : ∀ W, Calls Tryz.prog 28 #[.int .i64 0, .int .i64 1000001] W fun e w' => e = .returned (.bool true) ∧ W = w' := fun W => within 0 1000001 W
  have LOW : Hid (Below w.heap.size w w) := Below.refl _ _
  have RV : Hid (ReadsSS w (.slice va vm vc) X) := hv
  clear hv
  obtain ⟨w1, hAw1⟩ : ∃ W, w.alloc (.cells #[.int .i64 0, .int .i64 1, .slice none 0 0, .int .i64 rm, .slice none 0 0, .int .i64 0, .slice va vm vc, .slice none 0 0, .slice none 0 0] 32) = W := ⟨_, rfl⟩
  have bb : Below w.heap.size w w1 := by rw [← hAw1]; go_grown
  obtain ⟨bBA, hBw1⟩ : ∃ n, w.heap.size = n := ⟨_, rfl⟩
  have BAn : Hid (w1.heap[bBA]? = some (.cells #[.int .i64 0, .int .i64 1, .slice none 0 0, .int .i64 rm, .slice none 0 0, .int .i64 0, .slice va vm vc, .slice none 0 0, .slice none 0 0] 32 (0, 0))) := by
    show w1.heap[bBA]? = _
    rw [← hAw1, ← hBw1]; exact heap_alloc_new w _
  have LOWx : Hid (Below w.heap.size w w1) := low_stepQ LOW.out bb
  have RVx : Hid (ReadsSS w1 (.slice va vm vc) X) := readsSS_below RV.out bb
  clear LOW RV
  have LOW : Hid (Below w.heap.size w w1) := LOWx.out
  have RV : Hid (ReadsSS w1 (.slice va vm vc) X) := RVx.out
  clear LOWx RVx
  clear bb
  have BA : Hid (w1.heap[bBA]? = some (.cells #[.int .i64 0, .int .i64 1, .slice none 0 0, .int .i64 rm, .slice none 0 0, .int .i64 0, .slice va vm vc, .slice none 0 0, .slice none 0 0] 32 (0, 0))) := BAn.out
  clear BAn
  obtain ⟨c0, c1, c2, c3, c4, c5, c6, c7, c8⟩ := nine_in BA.out
  go_enter Tryz.func12, Tryz.ntmps12
  have hcall := hwi w1
  go_wp2_with fail
  go_at_call 28
  clear hAw1 hBw1
  refine hcall.mono ?_
  rintro r w2 ⟨rfl, hww⟩
  clear hcall c0 c1 c2 c3 c4 c5 c6 c7 c8
  have LOWx : Hid (Below w.heap.size w w2) := low_stepQ LOW.out (hww ▸ Below.refl _ _)
  have RVx : Hid (ReadsSS w2 (.slice va vm vc) X) := readsSS_below RV.out (hww ▸ Below.refl _ _)
  have BAx : Hid (w2.heap[bBA]? = some (.cells #[.int .i64 0, .int .i64 1, .slice none 0 0, .int .i64 rm, .slice none 0 0, .int .i64 0, .slice va vm vc, .slice none 0 0, .slice none 0 0] 32 (0, 0))) := box_stepQ BA.out (hww ▸ Below.refl _ _)
  clear LOW RV BA
  have LOW : Hid (Below w.heap.size w w2) := LOWx.out
  have RV : Hid (ReadsSS w2 (.slice va vm vc) X) := RVx.out
  have BA : Hid (w2.heap[bBA]? = some (.cells #[.int .i64 0, .int .i64 1, .slice none 0 0, .int .i64 rm, .slice none 0 0, .int .i64 0, .slice va vm vc, .slice none 0 0, .slice none 0 0] 32 (0, 0))) := BAx.out
  clear LOWx RVx BAx
  clear hww hwi
  obtain ⟨c0, c1, c2, c3, c4, c5, c6, c7, c8⟩ := nine_in BA.out
  have hcall := fromOneToM w2
  go_wp2_with fail
  go_at_call 29
  refine hcall.mono ?_
  rintro r w3 ⟨rfl, hww⟩
  clear hcall c0 c1 c2 c3 c4 c5 c6 c7 c8
  have LOWx : Hid (Below w.heap.size w w3) := low_stepQ LOW.out (hww ▸ Below.refl _ _)
  have RVx : Hid (ReadsSS w3 (.slice va vm vc) X) := readsSS_below RV.out (hww ▸ Below.refl _ _)
  have BAx : Hid (w3.heap[bBA]? = some (.cells #[.int .i64 0, .int .i64 1, .slice none 0 0, .int .i64 rm, .slice none 0 0, .int .i64 0, .slice va vm vc, .slice none 0 0, .slice none 0 0] 32 (0, 0))) := box_stepQ BA.out (hww ▸ Below.refl _ _)
  clear LOW RV BA
  have LOW : Hid (Below w.heap.size w w3) := LOWx.out
  have RV : Hid (ReadsSS w3 (.slice va vm vc) X) := RVx.out
  have BA : Hid (w3.heap[bBA]? = some (.cells #[.int .i64 0, .int .i64 1, .slice none 0 0, .int .i64 rm, .slice none 0 0, .int .i64 0, .slice va vm vc, .slice none 0 0, .slice none 0 0] 32 (0, 0))) := BAx.out
  clear LOWx RVx BAx
  clear hww
  obtain ⟨c0, c1, c2, c3, c4, c5, c6, c7, c8⟩ := nine_in BA.out
  have hcall := storeNil w3
  go_wp2_with fail
  go_at_call 30
  refine hcall.mono ?_
  rintro r w4 ⟨rfl, hww⟩
  clear hcall c0 c1 c2 c3 c4 c5 c6 c7 c8
  have LOWx : Hid (Below w.heap.size w w4) := low_stepQ LOW.out (hww ▸ Below.refl _ _)
  have RVx : Hid (ReadsSS w4 (.slice va vm vc) X) := readsSS_below RV.out (hww ▸ Below.refl _ _)
  have BAx : Hid (w4.heap[bBA]? = some (.cells #[.int .i64 0, .int .i64 1, .slice none 0 0, .int .i64 rm, .slice none 0 0, .int .i64 0, .slice va vm vc, .slice none 0 0, .slice none 0 0] 32 (0, 0))) := box_stepQ BA.out (hww ▸ Below.refl _ _)
  clear LOW RV BA
  have LOW : Hid (Below w.heap.size w w4) := LOWx.out
  have RV : Hid (ReadsSS w4 (.slice va vm vc) X) := RVx.out
  have BA : Hid (w4.heap[bBA]? = some (.cells #[.int .i64 0, .int .i64 1, .slice none 0 0, .int .i64 rm, .slice none 0 0, .int .i64 0, .slice va vm vc, .slice none 0 0, .slice none 0 0] 32 (0, 0))) := BAx.out
  clear LOWx RVx BAx
  clear hww
  obtain ⟨c0, c1, c2, c3, c4, c5, c6, c7, c8⟩ := nine_in BA.out
  have hqo := implQueueOk 0 X (.slice va vm vc) w4 hl hx RV.out
  rw [hq] at hqo
  have hcall := hqo
  go_wp2_with fail
  go_at_call 31
  refine hcall.mono ?_
  rintro r w5 ⟨rfl, bc⟩
  clear hcall c0 c1 c2 c3 c4 c5 c6 c7 c8
  have LOWx : Hid (Below w.heap.size w w5) := low_stepQ LOW.out bc
  have RVx : Hid (ReadsSS w5 (.slice va vm vc) X) := readsSS_below RV.out bc
  have BAx : Hid (w5.heap[bBA]? = some (.cells #[.int .i64 0, .int .i64 1, .slice none 0 0, .int .i64 rm, .slice none 0 0, .int .i64 0, .slice va vm vc, .slice none 0 0, .slice none 0 0] 32 (0, 0))) := box_stepQ BA.out bc
  clear LOW RV BA
  have LOW : Hid (Below w.heap.size w w5) := LOWx.out
  have RV : Hid (ReadsSS w5 (.slice va vm vc) X) := RVx.out
  have BA : Hid (w5.heap[bBA]? = some (.cells #[.int .i64 0, .int .i64 1, .slice none 0 0, .int .i64 rm, .slice none 0 0, .int .i64 0, .slice va vm vc, .slice none 0 0, .slice none 0 0] 32 (0, 0))) := BAx.out
  clear LOWx RVx BAx
  clear hqo
  obtain ⟨c0, c1, c2, c3, c4, c5, c6, c7, c8⟩ := nine_in BA.out
  have hcall := questionsOk0 1 rm X (.slice va vm vc) w5 hl hx RV.out h0
  go_wp2_with fail
  go_at_call 32
  refine hcall.mono ?_
  rintro r w6 ⟨rfl, bc⟩
  clear hcall c0 c1 c2 c3 c4 c5 c6 c7 c8
  have LOWx : Hid (Below w.heap.size w w6) := low_stepQ LOW.out bc
  have RVx : Hid (ReadsSS w6 (.slice va vm vc) X) := readsSS_below RV.out bc
  have BAx : Hid (w6.heap[bBA]? = some (.cells #[.int .i64 0, .int .i64 1, .slice none 0 0, .int .i64 rm, .slice none 0 0, .int .i64 0, .slice va vm vc, .slice none 0 0, .slice none 0 0] 32 (0, 0))) := box_stepQ BA.out bc
  clear LOW RV BA
  have LOW : Hid (Below w.heap.size w w6) := LOWx.out
  have RV : Hid (ReadsSS w6 (.slice va vm vc) X) := RVx.out
  have BA : Hid (w6.heap[bBA]? = some (.cells #[.int .i64 0, .int .i64 1, .slice none 0 0, .int .i64 rm, .slice none 0 0, .int .i64 0, .slice va vm vc, .slice none 0 0, .slice none 0 0] 32 (0, 0))) := BAx.out
  clear LOWx RVx BAx
  obtain ⟨c0, c1, c2, c3, c4, c5, c6, c7, c8⟩ := nine_in BA.out
  have hcall := answersOk0 1 rm (.slice va vm vc) w6 ⟨_, _, _, rfl⟩
  go_wp2_with fail
  go_at_call 33
  refine hcall.mono ?_
  rintro r w7 ⟨rfl, bc⟩
  clear hcall c0 c1 c2 c3 c4 c5 c6 c7 c8
  have LOWx : Hid (Below w.heap.size w w7) := low_stepQ LOW.out bc
  have RVx : Hid (ReadsSS w7 (.slice va vm vc) X) := readsSS_below RV.out bc
  have BAx : Hid (w7.heap[bBA]? = some (.cells #[.int .i64 0, .int .i64 1, .slice none 0 0, .int .i64 rm, .slice none 0 0, .int .i64 0, .slice va vm vc, .slice none 0 0, .slice none 0 0] 32 (0, 0))) := box_stepQ BA.out bc
  clear LOW RV BA
  have LOW : Hid (Below w.heap.size w w7) := LOWx.out
  have RV : Hid (ReadsSS w7 (.slice va vm vc) X) := RVx.out
  have BA : Hid (w7.heap[bBA]? = some (.cells #[.int .i64 0, .int .i64 1, .slice none 0 0, .int .i64 rm, .slice none 0 0, .int .i64 0, .slice va vm vc, .slice none 0 0, .slice none 0 0] 32 (0, 0))) := BAx.out
  clear LOWx RVx BAx
  obtain ⟨c0, c1, c2, c3, c4, c5, c6, c7, c8⟩ := nine_in BA.out
  have hcall := right0 rm w7
  go_wp2_with fail
  go_at_call 34
  refine hcall.mono ?_
  rintro r w8 ⟨rfl, bc⟩
  clear hcall c0 c1 c2 c3 c4 c5 c6 c7 c8
  have LOWx : Hid (Below w.heap.size w w8) := low_stepQ LOW.out bc
  have RVx : Hid (ReadsSS w8 (.slice va vm vc) X) := readsSS_below RV.out bc
  have BAx : Hid (w8.heap[bBA]? = some (.cells #[.int .i64 0, .int .i64 1, .slice none 0 0, .int .i64 rm, .slice none 0 0, .int .i64 0, .slice va vm vc, .slice none 0 0, .slice none 0 0] 32 (0, 0))) := box_stepQ BA.out bc
  clear LOW RV BA
  have LOW : Hid (Below w.heap.size w w8) := LOWx.out
  have RV : Hid (ReadsSS w8 (.slice va vm vc) X) := RVx.out
  have BA : Hid (w8.heap[bBA]? = some (.cells #[.int .i64 0, .int .i64 1, .slice none 0 0, .int .i64 rm, .slice none 0 0, .int .i64 0, .slice va vm vc, .slice none 0 0, .slice none 0 0] 32 (0, 0))) := BAx.out
  clear LOWx RVx BAx
  go_wp2
  go_ret
  exact ⟨rfl, LOW.out⟩

end Go.Proofs.YtggglcjdnllnjaaGreatDoor
