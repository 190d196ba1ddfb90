/-
  Put together out of: SpecEff, TabSt.
-/
import Derived.Test.YtnjbihfceckpfaaTabM
import Derived.Test.YtnjbihfceckpfaaG33ListsLaw
/-
  Chapter 10, the specification's side: l10Effect.
-/
namespace Go.Proofs.Ytnjbihfceckpfaa
open Go.RowKit
set_option linter.unusedVariables false
set_option linter.unusedSimpArgs false
set_option maxHeartbeats 4000000
set_option maxRecDepth 20000

theorem readsSS_at {w : World} {ao : Option Addr} {n cap : Nat} {T : List (List Int)} (h : ReadsSS w (.slice ao n cap) T) {y : Nat} (hy : y < T.length) : ∃ g off u, ao = some ⟨g, off, none⟩ ∧ w.cell? ⟨g, off + y, none⟩ = some u ∧ Reads w u (ints (T.getD y [])) := by
  obtain ⟨ao', cap', e, hc⟩ := h
  obtain ⟨rfl, -, -⟩ : ao = ao' ∧ n = T.length ∧ cap = cap' := by simpa using e
  obtain ⟨g, off, u, h1, h2, h3⟩ := hc y (T.getD y []) (by simp [List.getD, hy])
  exact ⟨g, off, u, h1, h2, h3⟩

theorem l10Effect (c : Int) (T : List (List Int)) (s : Stm) (tv : Value) (w : World) (hc : c = 1 ∨ c = 2) (hs : CanS T.length s) (hT : GoodN T.length T) (ht : ReadsSS w tv T) :
    Calls Try.prog 99 #[.int .i64 c, .agg #[.int .i64 s.k, .int .i64 s.x, .int .i64 s.y], tv] w fun e w' => ∃ a, e = .returned a ∧ w'.ownsRow w.heap.size 2 1 a 7 (ints (effL c T s)) ∧ Below w.heap.size w w' := by
  obtain ⟨k, x, y⟩ := s
  by_cases h8 : k = 8
  · subst h8
    obtain ⟨y, rfl, hy⟩ := hs.y rfl
    have e : effL c T ⟨8, x, (y : Int)⟩ = joi keepL (comp (comp (enterAns c) (T.getD y [])) leaveL) := by simp [effL]
    rw [e]
    obtain ⟨ao, cap, rfl, hc'⟩ := ht
    obtain ⟨g, off, u, hao, c0, hu⟩ := readsSS_at ⟨ao, cap, rfl, hc'⟩ hy
    subst hao
    have hr := hT y hy
    generalize T.getD y [] = r at *
    clear hs hc' hT e
    obtain ⟨W, hW⟩ : ∃ W, w.alloc (.cells #[.int .i64 8, .int .i64 x, .int .i64 (y : Int)] 92) = W := ⟨_, rfl⟩
    have bW : Below w.heap.size w W := by rw [← hW]; go_grown
    have zX : w.heap.size < W.heap.size := by rw [← hW]; simp
    have cX : W.cell? ⟨w.heap.size, 2, none⟩ = some (.int .i64 (y : Int)) := by
      rw [← hW, cell_of_row _ _ 2 _ _ (0, 0) (heap_alloc_new w _)]; rfl
    have zG : g < W.heap.size := Nat.lt_of_lt_of_le (World.block_lt_of_cell? w _ c0) bW.size
    have cG : W.cell? ⟨g, off + y, none⟩ = some u := (bW.cell (World.block_lt_of_cell? w _ c0)).trans c0
    have hu := reads_below hu bW
    have he := enter_smalls hc
    have h1 := comp_smalls he hr
    have hy' : (y : Int) < (T.length : Int) := by omega
    have HW : Hid _ := hW
    clear c0 hW
    go_enter Try.func99, Try.ntmps99
    go_wp2_with fail
    rw [HW.out]
    clear HW
    --HELD
    refine wp_region_held_drew (S := (fun w' => w'.cell? ⟨w.heap.size, 2, none⟩ = some (.int .i64 (y : Int)) ∧ w'.cell? ⟨g, off + y, none⟩ = some u)) (by kernel_rfl) ⟨cX, cG⟩ (fun hHeld => ?_)
    refine wpAnyH_take (i := 1) (oi := ?oi1) (v := .int .i64 c) ?hi1 (by kernel_rfl) (by kernel_rfl) (by kernel_rfl) ?hq1 ?hy1 hHeld ?hr1
    case hi1 =>
      simp only [List.getElem?_toArray, List.getElem?_cons_succ, List.getElem?_cons_zero]
      rfl
    case hq1 => exact fun _ _ _ h => h
    case hy1 => exact Or.inl ⟨by kernel_rfl, fun w hSw => by go_simp⟩
    try simp only [Act.put, List.setIfInBounds_toArray, List.set_cons_zero, List.set_cons_succ]
    refine wpAnyH_take (i := 3) (oi := ?oi3) (v := .slice (some ⟨g, off, none⟩) T.length cap) ?hi3 (by kernel_rfl) (by kernel_rfl) (by kernel_rfl) ?hq3 ?hy3 hHeld ?hr3
    case hi3 =>
      simp only [List.getElem?_toArray, List.getElem?_cons_succ, List.getElem?_cons_zero]
      rfl
    case hq3 => exact fun _ _ _ h => h
    case hy3 => exact Or.inl ⟨by kernel_rfl, fun w hSw => by go_simp⟩
    try simp only [Act.put, List.setIfInBounds_toArray, List.set_cons_zero, List.set_cons_succ]
    refine wpAnyH_take (i := 4) (oi := ?oi4) (v := .pointer (some ⟨w.heap.size, 2, none⟩)) ?hi4 (by kernel_rfl) (by kernel_rfl) (by kernel_rfl) ?hq4 ?hy4 hHeld ?hr4
    case hi4 =>
      simp only [List.getElem?_toArray, List.getElem?_cons_succ, List.getElem?_cons_zero]
      rfl
    case hq4 => exact fun _ _ _ h => h
    case hy4 => exact Or.inl ⟨by kernel_rfl, fun w hSw => by go_simp⟩
    try simp only [Act.put, List.setIfInBounds_toArray, List.set_cons_zero, List.set_cons_succ]
    refine wpAnyH_take (i := 5) (oi := ?oi5) (v := .int .i64 (y : Int)) ?hi5 (by kernel_rfl) (by kernel_rfl) (by kernel_rfl) ?hq5 ?hy5 hHeld ?hr5
    case hi5 =>
      simp only [List.getElem?_toArray, List.getElem?_cons_succ, List.getElem?_cons_zero]
      rfl
    case hq5 => exact fun _ _ _ h => h
    case hy5 => exact Or.inl ⟨by kernel_rfl, fun w hSw => by go_simp⟩
    try simp only [Act.put, List.setIfInBounds_toArray, List.set_cons_zero, List.set_cons_succ]
    refine wpAnyH_take (i := 6) (oi := ?oi6) (v := .pointer (some ⟨g, off + y, none⟩)) ?hi6 (by kernel_rfl) (by kernel_rfl) (by kernel_rfl) ?hq6 ?hy6 hHeld ?hr6
    case hi6 =>
      simp only [List.getElem?_toArray, List.getElem?_cons_succ, List.getElem?_cons_zero]
      rfl
    case hq6 => exact fun _ _ _ h => h
    case hy6 => exact Or.inl ⟨by kernel_rfl, fun w hSw => by go_simp⟩
    try simp only [Act.put, List.setIfInBounds_toArray, List.set_cons_zero, List.set_cons_succ]
    refine wpAnyH_take (i := 7) (oi := ?oi7) (v := u) ?hi7 (by kernel_rfl) (by kernel_rfl) (by kernel_rfl) ?hq7 ?hy7 hHeld ?hr7
    case hi7 =>
      simp only [List.getElem?_toArray, List.getElem?_cons_succ, List.getElem?_cons_zero]
      rfl
    case hq7 => exact fun _ _ _ h => h
    case hy7 => exact Or.inl ⟨by kernel_rfl, fun w hSw => by go_simp⟩
    try simp only [Act.put, List.setIfInBounds_toArray, List.set_cons_zero, List.set_cons_succ]
    refine wpAnyH_ready (rs := [0]) (by kernel_rfl) (by simp) ?_
    refine AllReadyH.cons (o := ?oo0) ?ho0 (fun K hK => ?_) AllReadyH.nil
    case ho0 =>
      simp only [List.getElem?_toArray, List.getElem?_cons_succ, List.getElem?_cons_zero]
      rfl
    go_simp
    go_at_call 132
    refine (specKeep _).mono ?_
    rintro e w1 ⟨a1, rfl, o1, b1⟩
    have L1 : Below W.heap.size W w1 := Below.trans (by go_grown) b1
    obtain ⟨k1, -⟩ := bcell L1
    go_wp2_with fail
    refine hK.out _ _ ⟨(k1 _ _ zX).trans cX, (k1 _ _ zG).trans cG⟩ (fun hHeld => ?_)
    clear hK K
    try simp only [Act.put, List.setIfInBounds_toArray, List.set_cons_zero, List.set_cons_succ]
    refine wpAnyH_ready (rs := [2]) (by kernel_rfl) (by simp) ?_
    refine AllReadyH.cons (o := ?oo2) ?ho2 (fun K hK => ?_) AllReadyH.nil
    case ho2 =>
      simp only [List.getElem?_toArray, List.getElem?_cons_succ, List.getElem?_cons_zero]
      rfl
    go_simp
    go_at_call 71
    refine (specEnter c _).mono ?_
    rintro e w2 ⟨a2, rfl, o2, b2⟩
    have o1 := own_kept o1 b2
    have L2 := L1.trans (b2.mono L1.size)
    obtain ⟨k2, -⟩ := bcell L2
    go_wp2_with fail
    refine hK.out _ _ ⟨(k2 _ _ zX).trans cX, (k2 _ _ zG).trans cG⟩ (fun hHeld => ?_)
    clear hK K
    try simp only [Act.put, List.setIfInBounds_toArray, List.set_cons_zero, List.set_cons_succ]
    refine wpAnyH_ready (rs := [8]) (by kernel_rfl) (by simp) ?_
    refine AllReadyH.cons (o := ?oo8) ?ho8 (fun K hK => ?_) AllReadyH.nil
    case ho8 =>
      simp only [List.getElem?_toArray, List.getElem?_cons_succ, List.getElem?_cons_zero]
      rfl
    go_simp
    go_at_call 98
    refine (l6Compose (enterAns c) r a2 u w2 he hr (reads_own o2) (reads_below hu L2)).mono ?_
    rintro e w3 ⟨a3, rfl, o3, b3⟩
    have o1 := own_kept o1 b3
    have L3 := L2.trans (b3.mono L2.size)
    obtain ⟨k3, -⟩ := bcell L3
    go_wp2_with fail
    refine hK.out _ _ ⟨(k3 _ _ zX).trans cX, (k3 _ _ zG).trans cG⟩ (fun hHeld => ?_)
    clear hK K
    try simp only [Act.put, List.setIfInBounds_toArray, List.set_cons_zero, List.set_cons_succ]
    refine wpAnyH_ready (rs := [9]) (by kernel_rfl) (by simp) ?_
    refine AllReadyH.cons (o := ?oo9) ?ho9 (fun K hK => ?_) AllReadyH.nil
    case ho9 =>
      simp only [List.getElem?_toArray, List.getElem?_cons_succ, List.getElem?_cons_zero]
      rfl
    go_simp
    go_at_call 131
    refine (specLeave _).mono ?_
    rintro e w4 ⟨a4, rfl, o4, b4⟩
    have o1 := own_kept o1 b4
    have o3 := own_kept o3 b4
    have L4 := L3.trans (b4.mono L3.size)
    obtain ⟨k4, -⟩ := bcell L4
    go_wp2_with fail
    refine hK.out _ _ ⟨(k4 _ _ zX).trans cX, (k4 _ _ zG).trans cG⟩ (fun hHeld => ?_)
    clear hK K
    try simp only [Act.put, List.setIfInBounds_toArray, List.set_cons_zero, List.set_cons_succ]
    refine wpAnyH_ready (rs := [10]) (by kernel_rfl) (by simp) ?_
    refine AllReadyH.cons (o := ?oo10) ?ho10 (fun K hK => ?_) AllReadyH.nil
    case ho10 =>
      simp only [List.getElem?_toArray, List.getElem?_cons_succ, List.getElem?_cons_zero]
      rfl
    go_simp
    go_at_call 98
    refine (l6Compose (comp (enterAns c) r) leaveL a3 a4 w4 h1 leave_smalls (reads_own o3) (reads_own o4)).mono ?_
    rintro e w5 ⟨a5, rfl, o5, b5⟩
    have o1 := own_kept o1 b5
    have L5 := L4.trans (b5.mono L4.size)
    obtain ⟨k5, -⟩ := bcell L5
    go_wp2_with fail
    refine hK.out _ _ ⟨(k5 _ _ zX).trans cX, (k5 _ _ zG).trans cG⟩ (fun hHeld => ?_)
    clear hK K
    try simp only [Act.put, List.setIfInBounds_toArray, List.set_cons_zero, List.set_cons_succ]
    refine wpAnyH_ready (rs := [11]) (by kernel_rfl) (by simp) ?_
    refine AllReadyH.cons (o := ?oo11) ?ho11 (fun K hK => ?_) AllReadyH.nil
    case ho11 =>
      simp only [List.getElem?_toArray, List.getElem?_cons_succ, List.getElem?_cons_zero]
      rfl
    go_simp
    go_at_call 101
    refine (l6Join keepL (comp (comp (enterAns c) r) leaveL) a1 a5 w5 keep_smalls (comp_smalls h1 leave_smalls) (reads_own o1) (reads_own o5)).mono ?_
    rintro e w6 ⟨a6, rfl, o6, b6⟩
    have L6 := L5.trans (b6.mono L5.size)
    obtain ⟨k6, -⟩ := bcell L6
    go_wp2_with fail
    refine hK.out _ _ ⟨(k6 _ _ zX).trans cX, (k6 _ _ zG).trans cG⟩ (fun hHeld => ?_)
    clear hK K
    try simp only [Act.put, List.setIfInBounds_toArray, List.set_cons_zero, List.set_cons_succ]
    refine wpAnyH_take (i := 12) (oi := ?oi12) (v := a6) ?hi12 (by kernel_rfl) (by kernel_rfl) (by kernel_rfl) ?hq12 ?hy12 hHeld ?hr12
    case hi12 =>
      simp only [List.getElem?_toArray, List.getElem?_cons_succ, List.getElem?_cons_zero]
      rfl
    case hq12 => exact fun _ _ _ h => h
    case hy12 => exact Or.inl ⟨by kernel_rfl, fun w hSw => by go_simp⟩
    try simp only [Act.put, List.setIfInBounds_toArray, List.set_cons_zero, List.set_cons_succ]
    refine wpAnyH_done (by kernel_rfl) ?_ _
    --DLEH
    rw [(joi_smalls keep_smalls (comp_smalls h1 leave_smalls)).1] at o6
    have s0 := bW.size
    have s5 := L5.size
    have HO : Hid _ := own_mono o6 (Nat.le_trans s0 s5)
    clear o6
    go_wp2
    go_ret
    exact ⟨_, rfl, HO.out, bW.trans (L6.mono bW.size)⟩
  · have e : effL c T ⟨k, x, y⟩ = flowL c k x y := by unfold effL; rw [if_neg h8]
    rw [e]
    have hf := l7Flow c k x y hc hs.1
    dsimp only at hf ⊢
    have bW : Below w.heap.size w (w.alloc (.cells #[.int .i64 k, .int .i64 x, .int .i64 y] 92)) := by go_grown
    clear hs
    go_enter Try.func99, Try.ntmps99
    go_wp2_with fail
    go_at_call 133
    refine (hf _).mono ?_
    rintro e w1 ⟨B, rfl, hB, i1, b1⟩
    go_wp2
    go_ret
    exact ⟨_, rfl, IntAt.own i1 (by simp at hB; omega) (flowL_length _ _ _ _), bW.trans (b1.mono bW.size)⟩

end Go.Proofs.Ytnjbihfceckpfaa

/-
  Chapter 10: lists of relations in memory: one is put in another's place; how much room is left in them.
-/
namespace Go.Proofs.Ytnjbihfceckpfaa
open Go.RowKit
set_option linter.unusedVariables false
set_option maxHeartbeats 1000000

/-- What l10Inner has in hand. -/
structure LS (v : Value) (w : World) (ov : Value) (us : List Value) (xss : List (List Int)) (wr : World) : Prop where
  o : OwnSS wr (w.heap.size + 1) ov us xss
  bl : Below w.heap.size w wr
  p : wr.heap[w.heap.size]? = some (.cells #[v] 81 (0, 0))

theorem LS.below {v : Value} {w : World} {ov : Value} {us : List Value} {xss : List (List Int)} {wr wr' : World} (h : LS v w ov us xss wr) (hb : Below wr.heap.size wr wr') : LS v w ov us xss wr' where
  o := h.o.below hb
  bl := h.bl.trans (hb.mono h.bl.size)
  p := (hb.block _ (Array.getElem?_eq_some_iff.1 h.p).1).trans h.p

theorem LS.app {v : Value} {w : World} {ov v' u : Value} {us : List Value} {xss : List (List Int)} {xs : List Int} {W w' : World} (h : LS v w ov us xss W) (hu : W.ownsRow (w.heap.size + 1) 2 1 u xs.length (ints xs))
    (hr : w'.ownsRow (w.heap.size + 1) 26 1 v' (xss.length + 1) (us ++ [u])) (hg : W.grownBy w' ov.ownBlock) : LS v w v' (us ++ [u]) (xss ++ [xs]) w' where
  o := h.o.appended hu hr hg
  bl := h.bl.grown hg h.bl.size (fun k e => by have := (h.o.row.lt k e).1; omega)
  p := (hg.block _ (Array.getElem?_eq_some_iff.1 h.p).1 (fun e => by have := (h.o.row.lt _ e.symm).1; omega)).trans h.p

theorem own_put {base base' g n cap : Nat} {lv : Value} {us : List Value} {m : Nat} {W : World} {xs : List Value} (hl : W.ownsRow base' 2 1 lv m xs) (ho : W.ownsRow base 26 1 (.slice (some ⟨g, 0, none⟩) n cap) n us) (j : Nat) (u : Value) : (W.setCell ⟨g, j, none⟩ u).ownsRow base' 2 1 lv m xs :=
  own_same hl (fun k hk => (ho.stored j u).2.block k (hl.lt k hk).2 (fun e => row_kind hl ho (by decide) hk e.symm))

/-- Another list at place j. -/
theorem OwnSS.put {w : World} {base g cap : Nat} {u : Value} {us : List Value} {xss : List (List Int)} {xs : List Int} (h : OwnSS w base (.slice (some ⟨g, 0, none⟩) xss.length cap) us xss) (hu : w.ownsRow base 2 1 u xs.length (ints xs)) (j : Nat) :
    OwnSS (w.setCell ⟨g, j, none⟩ u) base (.slice (some ⟨g, 0, none⟩) xss.length cap) (us.set j u) (xss.set j xs) := by
  refine ⟨by simpa using (h.row.stored j u).1, fun i x ys hi hx => ?_⟩
  have hl := h.len
  by_cases e : j = i
  · subst e
    have hj : j < us.length := by have := (List.getElem?_eq_some_iff.1 hi).1; simpa using this
    rw [List.getElem?_set_self hj] at hi
    rw [List.getElem?_set_self (by omega)] at hx
    simp at hi hx
    subst hi hx
    exact own_put hu h.row j _
  · rw [List.getElem?_set_ne e] at hi hx
    exact own_put (h.each i x ys hi hx) h.row j _

theorem LS.put {v : Value} {w : World} {g cap : Nat} {u : Value} {us : List Value} {xss : List (List Int)} {xs : List Int} {wr : World} (h : LS v w (.slice (some ⟨g, 0, none⟩) xss.length cap) us xss wr) (hu : wr.ownsRow (w.heap.size + 1) 2 1 u xs.length (ints xs)) (j : Nat) :
    LS v w (.slice (some ⟨g, 0, none⟩) xss.length cap) (us.set j u) (xss.set j xs) (wr.setCell ⟨g, j, none⟩ u) where
  o := h.o.put hu j
  bl := h.bl.setCell (by have := (h.o.row.lt g rfl).1; show w.heap.size ≤ g; omega) _
  p := by
    have hg : g ≠ w.heap.size := by have := (h.o.row.lt g rfl).1; omega
    rw [heap_setCell_other wr ⟨g, j, none⟩ _ u (fun e => hg e.symm)]
    exact h.p

theorem cell_oneV (w : World) (x : Value) (t : TypeId) : ∀ (j : Nat) (u : Value), [x][j]? = some u → (w.alloc (.cells #[x] t)).cell? ((⟨w.heap.size, 0, none⟩ : Addr).add j) = some u := by
  intro j u hu
  have hj : j = 0 := by
    have := (List.getElem?_eq_some_iff.1 hu).1
    simp at this; exact this
  subst hj
  simp at hu
  subst hu
  show (w.alloc (.cells #[x] t)).cell? ⟨w.heap.size, 0 + 0, none⟩ = _
  rw [cell_of_row _ _ _ _ t (0, 0) (heap_alloc_new w _)]
  rfl

theorem own_form {w : World} {base : Nat} {t : TypeId} {v : Value} {n : Nat} {xs : List Value} (h : w.ownsRow base t 1 v n xs) (hn : 0 < n) : ∃ g cap, v = .slice (some ⟨g, 0, none⟩) n cap := by
  rcases own_shape h with ⟨_, e, _⟩ | ⟨g, cp, e, _⟩
  · omega
  · exact ⟨g, cp, e⟩

theorem made7 : (madeCells (Value.int .i64 0).cells (7 * 1)).toList = ints zero7 := by
  have := toList_madeCells_one (.int .i64 0) 7
  exact this

theorem LS.grow {v : Value} {w : World} {ov : Value} {us : List Value} {xss : List (List Int)} {wr wr' : World} (h : LS v w ov us xss wr) (hg : wr.grownBy wr' none) : LS v w ov us xss wr' :=
  h.below ⟨hg.os, hg.tape, hg.output, hg.size, fun i hi => hg.block i hi (by simp)⟩

theorem LS.put' {v : Value} {w : World} {g cap n : Nat} {u : Value} {us : List Value} {xss : List (List Int)} {xs : List Int} {wr : World} (hn : xss.length = n) (h : LS v w (.slice (some ⟨g, 0, none⟩) n cap) us xss wr) (hu : wr.ownsRow (w.heap.size + 1) 2 1 u xs.length (ints xs)) (j : Nat) :
    LS v w (.slice (some ⟨g, 0, none⟩) n cap) (us.set j u) (xss.set j xs) (wr.setCell ⟨g, j, none⟩ u) := by
  subst hn
  exact h.put hu j

theorem LS.at {v : Value} {w : World} {g cap n : Nat} {us : List Value} {xss : List (List Int)} {wr : World} (hn : xss.length = n) (h : LS v w (.slice (some ⟨g, 0, none⟩) n cap) us xss wr) {j : Nat} (hj : j < n) : ∃ u, wr.cell? ⟨g, j, none⟩ = some u ∧ wr.frozen? ⟨g, j, none⟩ = false ∧ Reads wr u (ints (xss.getD j [])) := by
  subst hn
  obtain ⟨u, h1, h2, h3⟩ := h.o.at hj
  have e : xss.getD j [] = xss[j] := by simp [List.getD, hj]
  exact ⟨u, h2, h.o.row.frozenAt j, by rw [e]; exact reads_own h3⟩

/-- Room in a slice of sets, in a slice of such. -/
def cellRoom : Option Value → Nat
  | some (.int _ x) => (127 - x).toNat
  | _ => 0
def rowRoom (w : World) : Option Value → Nat
  | some (.slice (some a) n _) => ((List.range n).map (fun j => cellRoom (w.cell? ⟨a.block, a.off + j, none⟩))).sum
  | _ => 0
def roomV (w : World) : Value → Nat
  | .slice (some a) n _ => ((List.range n).map (fun j => rowRoom w (w.cell? ⟨a.block, a.off + j, none⟩))).sum
  | _ => 0

theorem range_sum {α : Type} (L : List α) (f : Nat → Nat) (g : α → Nat) (h : ∀ j (hj : j < L.length), f j = g L[j]) : ((List.range L.length).map f).sum = (L.map g).sum := by
  congr 1
  refine List.ext_getElem (by simp) (fun i h1 h2 => ?_)
  simp at h1
  simp [h i h1]

theorem rowRoom_eq {w : World} {v : Value} {xs : List Int} (h : Reads w v (ints xs)) : rowRoom w (some v) = room xs := by
  obtain ⟨ao, cap, rfl, hc⟩ := h
  rw [ints_length]
  cases xs with
  | nil => cases ao <;> simp [rowRoom, room]
  | cons x xs =>
    obtain ⟨g, off, rfl, -⟩ := hc 0 (.int .i64 x) (by simp [ints])
    simp only [rowRoom]
    refine range_sum (x :: xs) _ _ (fun j hj => ?_)
    obtain ⟨g', off', e, c⟩ := hc j (.int .i64 (x :: xs)[j]) (by simp only [ints, List.getElem?_map, List.getElem?_eq_getElem hj]; rfl)
    simp at e
    obtain ⟨rfl, rfl⟩ := e
    rw [c]
    rfl

theorem roomV_eq {w : World} {v : Value} {T : List (List Int)} (h : ReadsSS w v T) : roomV w v = roomT T := by
  obtain ⟨ao, cap, rfl, hc⟩ := h
  cases T with
  | nil => cases ao <;> simp [roomV, roomT]
  | cons x xs =>
    obtain ⟨g, off, u, rfl, -, -⟩ := hc 0 x (by simp)
    simp only [roomV]
    refine range_sum (x :: xs) _ _ (fun j hj => ?_)
    obtain ⟨g', off', u, e, c, hu⟩ := hc j (x :: xs)[j] (by rw [List.getElem?_eq_getElem hj])
    simp at e
    obtain ⟨rfl, rfl⟩ := e
    rw [c]
    exact rowRoom_eq hu

end Go.Proofs.Ytnjbihfceckpfaa
