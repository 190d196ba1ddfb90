/-
  Chapter 10, the specification's side: l10Effect.
-/
import Derived.Test.YtnjbihfceckpfaaTabM
import Derived.Test.YtnjbihfceckpfaaG26ListsLaw
namespace Go.Proofs.Ytnjbihfceckpfaa
open Go.RowKit
set_option linter.unusedVariables false
set_option linter.unusedSimpArgs false
set_option maxHeartbeats 4000000
set_option maxRecDepth 20000

theorem readsSS_at {w : World} {ao : Option Addr} {n cap : Nat} {T : List (List Int)} (h : ReadsSS w (.slice ao n cap) T) {y : Nat} (hy : y < T.length) : ∃ g off u, ao = some ⟨g, off, none⟩ ∧ w.cell? ⟨g, off + y, none⟩ = some u ∧ Reads w u (ints (T.getD y [])) := by
  obtain ⟨ao', cap', e, hc⟩ := h
  obtain ⟨rfl, -, -⟩ : ao = ao' ∧ n = T.length ∧ cap = cap' := by simpa using e
  obtain ⟨g, off, u, h1, h2, h3⟩ := hc y (T.getD y []) (by simp [List.getD, hy])
  exact ⟨g, off, u, h1, h2, h3⟩

theorem l10Effect (c : Int) (T : List (List Int)) (s : Stm) (tv : Value) (w : World) (hc : c = 1 ∨ c = 2) (hs : CanS T.length s) (hT : GoodN T.length T) (ht : ReadsSS w tv T) :
    Calls Try.prog 99 #[.int .i64 c, .agg #[.int .i64 s.k, .int .i64 s.x, .int .i64 s.y], tv] w fun e w' => ∃ a, e = .returned a ∧ w'.ownsRow w.heap.size 2 1 a 7 (ints (effL c T s)) ∧ Below w.heap.size w w' := by
  obtain ⟨k, x, y⟩ := s
  by_cases h8 : k = 8
  · subst h8
    obtain ⟨y, rfl, hy⟩ := hs.y rfl
    have e : effL c T ⟨8, x, (y : Int)⟩ = joi keepL (comp (comp (enterAns c) (T.getD y [])) leaveL) := by simp [effL]
    rw [e]
    obtain ⟨ao, cap, rfl, hc'⟩ := ht
    obtain ⟨g, off, u, hao, c0, hu⟩ := readsSS_at ⟨ao, cap, rfl, hc'⟩ hy
    subst hao
    have hr := hT y hy
    generalize T.getD y [] = r at *
    clear hs hc' hT e
    obtain ⟨W, hW⟩ : ∃ W, w.alloc (.cells #[.int .i64 8, .int .i64 x, .int .i64 (y : Int)] 92) = W := ⟨_, rfl⟩
    have bW : Below w.heap.size w W := by rw [← hW]; go_grown
    have zX : w.heap.size < W.heap.size := by rw [← hW]; simp
    have cX : W.cell? ⟨w.heap.size, 2, none⟩ = some (.int .i64 (y : Int)) := by
      rw [← hW, cell_of_row _ _ 2 _ _ (0, 0) (heap_alloc_new w _)]; rfl
    have zG : g < W.heap.size := Nat.lt_of_lt_of_le (World.block_lt_of_cell? w _ c0) bW.size
    have cG : W.cell? ⟨g, off + y, none⟩ = some u := (bW.cell (World.block_lt_of_cell? w _ c0)).trans c0
    have hu := reads_below hu bW
    have he := enter_smalls hc
    have h1 := comp_smalls he hr
    have hy' : (y : Int) < (T.length : Int) := by omega
    have HW : Hid _ := hW
    clear c0 hW
    go_enter Try.func99, Try.ntmps99
    go_wp2_with fail
    rw [HW.out]
    clear HW
    --HELD
    refine wp_region_held_drew (S := (fun w' => w'.cell? ⟨w.heap.size, 2, none⟩ = some (.int .i64 (y : Int)) ∧ w'.cell? ⟨g, off + y, none⟩ = some u)) (by kernel_rfl) ⟨cX, cG⟩ (fun hHeld => ?_)
    refine wpAnyH_take (i := 1) (oi := ?oi1) (v := .int .i64 c) ?hi1 (by kernel_rfl) (by kernel_rfl) (by kernel_rfl) ?hq1 ?hy1 hHeld ?hr1
    case hi1 =>
      simp only [List.getElem?_toArray, List.getElem?_cons_succ, List.getElem?_cons_zero]
      rfl
    case hq1 => exact fun _ _ _ h => h
    case hy1 => exact Or.inl ⟨by kernel_rfl, fun w hSw => by go_simp⟩
    try simp only [Act.put, List.setIfInBounds_toArray, List.set_cons_zero, List.set_cons_succ]
    refine wpAnyH_take (i := 3) (oi := ?oi3) (v := .slice (some ⟨g, off, none⟩) T.length cap) ?hi3 (by kernel_rfl) (by kernel_rfl) (by kernel_rfl) ?hq3 ?hy3 hHeld ?hr3
    case hi3 =>
      simp only [List.getElem?_toArray, List.getElem?_cons_succ, List.getElem?_cons_zero]
      rfl
    case hq3 => exact fun _ _ _ h => h
    case hy3 => exact Or.inl ⟨by kernel_rfl, fun w hSw => by go_simp⟩
    try simp only [Act.put, List.setIfInBounds_toArray, List.set_cons_zero, List.set_cons_succ]
    refine wpAnyH_take (i := 4) (oi := ?oi4) (v := .pointer (some ⟨w.heap.size, 2, none⟩)) ?hi4 (by kernel_rfl) (by kernel_rfl) (by kernel_rfl) ?hq4 ?hy4 hHeld ?hr4
    case hi4 =>
      simp only [List.getElem?_toArray, List.getElem?_cons_succ, List.getElem?_cons_zero]
      rfl
    case hq4 => exact fun _ _ _ h => h
    case hy4 => exact Or.inl ⟨by kernel_rfl, fun w hSw => by go_simp⟩
    try simp only [Act.put, List.setIfInBounds_toArray, List.set_cons_zero, List.set_cons_succ]
    refine wpAnyH_take (i := 5) (oi := ?oi5) (v := .int .i64 (y : Int)) ?hi5 (by kernel_rfl) (by kernel_rfl) (by kernel_rfl) ?hq5 ?hy5 hHeld ?hr5
    case hi5 =>
      simp only [List.getElem?_toArray, List.getElem?_cons_succ, List.getElem?_cons_zero]
      rfl
    case hq5 => exact fun _ _ _ h => h
    case hy5 => exact Or.inl ⟨by kernel_rfl, fun w hSw => by go_simp⟩
    try simp only [Act.put, List.setIfInBounds_toArray, List.set_cons_zero, List.set_cons_succ]
    refine wpAnyH_take (i := 6) (oi := ?oi6) (v := .pointer (some ⟨g, off + y, none⟩)) ?hi6 (by kernel_rfl) (by kernel_rfl) (by kernel_rfl) ?hq6 ?hy6 hHeld ?hr6
    case hi6 =>
      simp only [List.getElem?_toArray, List.getElem?_cons_succ, List.getElem?_cons_zero]
      rfl
    case hq6 => exact fun _ _ _ h => h
    case hy6 => exact Or.inl ⟨by kernel_rfl, fun w hSw => by go_simp⟩
    try simp only [Act.put, List.setIfInBounds_toArray, List.set_cons_zero, List.set_cons_succ]
    refine wpAnyH_take (i := 7) (oi := ?oi7) (v := u) ?hi7 (by kernel_rfl) (by kernel_rfl) (by kernel_rfl) ?hq7 ?hy7 hHeld ?hr7
    case hi7 =>
      simp only [List.getElem?_toArray, List.getElem?_cons_succ, List.getElem?_cons_zero]
      rfl
    case hq7 => exact fun _ _ _ h => h
    case hy7 => exact Or.inl ⟨by kernel_rfl, fun w hSw => by go_simp⟩
    try simp only [Act.put, List.setIfInBounds_toArray, List.set_cons_zero, List.set_cons_succ]
    refine wpAnyH_ready (rs := [0]) (by kernel_rfl) (by simp) ?_
    refine AllReadyH.cons (o := ?oo0) ?ho0 (fun K hK => ?_) AllReadyH.nil
    case ho0 =>
      simp only [List.getElem?_toArray, List.getElem?_cons_succ, List.getElem?_cons_zero]
      rfl
    go_simp
    go_at_call 132
    refine (specKeep _).mono ?_
    rintro e w1 ⟨a1, rfl, o1, b1⟩
    have L1 : Below W.heap.size W w1 := Below.trans (by go_grown) b1
    obtain ⟨k1, -⟩ := bcell L1
    go_wp2_with fail
    refine hK.out _ _ ⟨(k1 _ _ zX).trans cX, (k1 _ _ zG).trans cG⟩ (fun hHeld => ?_)
    clear hK K
    try simp only [Act.put, List.setIfInBounds_toArray, List.set_cons_zero, List.set_cons_succ]
    refine wpAnyH_ready (rs := [2]) (by kernel_rfl) (by simp) ?_
    refine AllReadyH.cons (o := ?oo2) ?ho2 (fun K hK => ?_) AllReadyH.nil
    case ho2 =>
      simp only [List.getElem?_toArray, List.getElem?_cons_succ, List.getElem?_cons_zero]
      rfl
    go_simp
    go_at_call 71
    refine (specEnter c _).mono ?_
    rintro e w2 ⟨a2, rfl, o2, b2⟩
    have o1 := own_kept o1 b2
    have L2 := L1.trans (b2.mono L1.size)
    obtain ⟨k2, -⟩ := bcell L2
    go_wp2_with fail
    refine hK.out _ _ ⟨(k2 _ _ zX).trans cX, (k2 _ _ zG).trans cG⟩ (fun hHeld => ?_)
    clear hK K
    try simp only [Act.put, List.setIfInBounds_toArray, List.set_cons_zero, List.set_cons_succ]
    refine wpAnyH_ready (rs := [8]) (by kernel_rfl) (by simp) ?_
    refine AllReadyH.cons (o := ?oo8) ?ho8 (fun K hK => ?_) AllReadyH.nil
    case ho8 =>
      simp only [List.getElem?_toArray, List.getElem?_cons_succ, List.getElem?_cons_zero]
      rfl
    go_simp
    go_at_call 98
    refine (l6Compose (enterAns c) r a2 u w2 he hr (reads_own o2) (reads_below hu L2)).mono ?_
    rintro e w3 ⟨a3, rfl, o3, b3⟩
    have o1 := own_kept o1 b3
    have L3 := L2.trans (b3.mono L2.size)
    obtain ⟨k3, -⟩ := bcell L3
    go_wp2_with fail
    refine hK.out _ _ ⟨(k3 _ _ zX).trans cX, (k3 _ _ zG).trans cG⟩ (fun hHeld => ?_)
    clear hK K
    try simp only [Act.put, List.setIfInBounds_toArray, List.set_cons_zero, List.set_cons_succ]
    refine wpAnyH_ready (rs := [9]) (by kernel_rfl) (by simp) ?_
    refine AllReadyH.cons (o := ?oo9) ?ho9 (fun K hK => ?_) AllReadyH.nil
    case ho9 =>
      simp only [List.getElem?_toArray, List.getElem?_cons_succ, List.getElem?_cons_zero]
      rfl
    go_simp
    go_at_call 131
    refine (specLeave _).mono ?_
    rintro e w4 ⟨a4, rfl, o4, b4⟩
    have o1 := own_kept o1 b4
    have o3 := own_kept o3 b4
    have L4 := L3.trans (b4.mono L3.size)
    obtain ⟨k4, -⟩ := bcell L4
    go_wp2_with fail
    refine hK.out _ _ ⟨(k4 _ _ zX).trans cX, (k4 _ _ zG).trans cG⟩ (fun hHeld => ?_)
    clear hK K
    try simp only [Act.put, List.setIfInBounds_toArray, List.set_cons_zero, List.set_cons_succ]
    refine wpAnyH_ready (rs := [10]) (by kernel_rfl) (by simp) ?_
    refine AllReadyH.cons (o := ?oo10) ?ho10 (fun K hK => ?_) AllReadyH.nil
    case ho10 =>
      simp only [List.getElem?_toArray, List.getElem?_cons_succ, List.getElem?_cons_zero]
      rfl
    go_simp
    go_at_call 98
    refine (l6Compose (comp (enterAns c) r) leaveL a3 a4 w4 h1 leave_smalls (reads_own o3) (reads_own o4)).mono ?_
    rintro e w5 ⟨a5, rfl, o5, b5⟩
    have o1 := own_kept o1 b5
    have L5 := L4.trans (b5.mono L4.size)
    obtain ⟨k5, -⟩ := bcell L5
    go_wp2_with fail
    refine hK.out _ _ ⟨(k5 _ _ zX).trans cX, (k5 _ _ zG).trans cG⟩ (fun hHeld => ?_)
    clear hK K
    try simp only [Act.put, List.setIfInBounds_toArray, List.set_cons_zero, List.set_cons_succ]
    refine wpAnyH_ready (rs := [11]) (by kernel_rfl) (by simp) ?_
    refine AllReadyH.cons (o := ?oo11) ?ho11 (fun K hK => ?_) AllReadyH.nil
    case ho11 =>
      simp only [List.getElem?_toArray, List.getElem?_cons_succ, List.getElem?_cons_zero]
      rfl
    go_simp
    go_at_call 101
    refine (l6Join keepL (comp (comp (enterAns c) r) leaveL) a1 a5 w5 keep_smalls (comp_smalls h1 leave_smalls) (reads_own o1) (reads_own o5)).mono ?_
    rintro e w6 ⟨a6, rfl, o6, b6⟩
    have L6 := L5.trans (b6.mono L5.size)
    obtain ⟨k6, -⟩ := bcell L6
    go_wp2_with fail
    refine hK.out _ _ ⟨(k6 _ _ zX).trans cX, (k6 _ _ zG).trans cG⟩ (fun hHeld => ?_)
    clear hK K
    try simp only [Act.put, List.setIfInBounds_toArray, List.set_cons_zero, List.set_cons_succ]
    refine wpAnyH_take (i := 12) (oi := ?oi12) (v := a6) ?hi12 (by kernel_rfl) (by kernel_rfl) (by kernel_rfl) ?hq12 ?hy12 hHeld ?hr12
    case hi12 =>
      simp only [List.getElem?_toArray, List.getElem?_cons_succ, List.getElem?_cons_zero]
      rfl
    case hq12 => exact fun _ _ _ h => h
    case hy12 => exact Or.inl ⟨by kernel_rfl, fun w hSw => by go_simp⟩
    try simp only [Act.put, List.setIfInBounds_toArray, List.set_cons_zero, List.set_cons_succ]
    refine wpAnyH_done (by kernel_rfl) ?_ _
    --DLEH
    rw [(joi_smalls keep_smalls (comp_smalls h1 leave_smalls)).1] at o6
    have s0 := bW.size
    have s5 := L5.size
    have HO : Hid _ := own_mono o6 (Nat.le_trans s0 s5)
    clear o6
    go_wp2
    go_ret
    exact ⟨_, rfl, HO.out, bW.trans (L6.mono bW.size)⟩
  · have e : effL c T ⟨k, x, y⟩ = flowL c k x y := by unfold effL; rw [if_neg h8]
    rw [e]
    have hf := l7Flow c k x y hc hs.1
    dsimp only at hf ⊢
    have bW : Below w.heap.size w (w.alloc (.cells #[.int .i64 k, .int .i64 x, .int .i64 y] 92)) := by go_grown
    clear hs
    go_enter Try.func99, Try.ntmps99
    go_wp2_with fail
    go_at_call 133
    refine (hf _).mono ?_
    rintro e w1 ⟨B, rfl, hB, i1, b1⟩
    go_wp2
    go_ret
    exact ⟨_, rfl, IntAt.own i1 (by simp at hB; omega) (flowL_length _ _ _ _), bW.trans (b1.mono bW.size)⟩

end Go.Proofs.Ytnjbihfceckpfaa
