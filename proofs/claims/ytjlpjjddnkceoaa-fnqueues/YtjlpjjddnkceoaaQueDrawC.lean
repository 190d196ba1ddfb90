/-
  Chapter 17: spec.DrawCame.
-/
import Derived.Test.YtjlpjjddnkceoaaQueDrawQ
namespace Go.Proofs.Ytjlpjjddnkceoaa
open Go.RowKit
set_option linter.unusedVariables false
set_option linter.unusedSimpArgs false
set_option maxHeartbeats 8000000
set_option maxRecDepth 20000
attribute [local go_sem ↓] Go.wp_at_zero Go.wp_at_succ

theorem HiReads.reads {B : Nat} {w : World} {v : Value} {X : List (List Int)} (h : HiReads B w v X) : ReadsSS w v X := h w (fun _ _ _ => rfl)
theorem HiReads.below {B : Nat} {w w' : World} {v : Value} {X : List (List Int)} (h : HiReads B w v X) (hb : Below w.heap.size w w') : HiReads B w' v X :=
  fun W hW => h W (fun b h1 h2 => (hW b h1 (Nat.lt_of_lt_of_le h2 hb.size)).trans (hb.block b h2))
theorem HiReads.grown {B g : Nat} {w w' : World} {v : Value} {X : List (List Int)} (h : HiReads B w v X) (hg : w.grownBy w' (some g)) (hB : g ≤ B) : HiReads B w' v X :=
  fun W hW => h W (fun b h1 h2 => (hW b h1 (Nat.lt_of_lt_of_le h2 hg.size)).trans (hg.block b h2 (fun e => by cases e; omega)))
theorem HiReads.set {B b o : Nat} {w : World} {x v : Value} {X : List (List Int)} (h : HiReads B w v X) (hb : b ≤ B) : HiReads B (w.setCell ⟨b, o, none⟩ x) v X :=
  fun W hW => h W (fun k h1 h2 => (hW k h1 (by simpa using h2)).trans (Below.heap_setCell _ _ _ _ (by simp; omega)))

/-- What DrawCame has in hand: its cursor, the cell of what is answered, its Queue in a box. -/
structure CQ (w : World) (g : Nat) (bs : List Int) (C B : Nat) (t : Int) (u : Value) (X : List (List Int)) (W : World) : Prop where
  cur : Cur W g bs
  res : W.heap[w.heap.size]? = some (.cells #[.int .i64 0, .slice none 0 0] 26 (0, 0))
  box : W.heap[C]? = some (.cells #[.int .i64 t, u] 26 (0, 0))
  rd : HiReads B W u X
  low : Below w.heap.size w W

theorem CQ.drew {w W : World} {g C B : Nat} {bs : List Int} {t : Int} {u : Value} {X : List (List Int)} (h : CQ w g bs C B t u X W) : CQ w g bs C B t u X W.drew :=
  ⟨h.cur, h.res, h.box, h.rd, ⟨h.low.os, h.low.tape, h.low.output, h.low.size, h.low.block⟩⟩
theorem CQ.draw {w W W' : World} {g C B : Nat} {bs : List Int} {t : Int} {u : Value} {X : List (List Int)} (h : CQ w g bs C B t u X W) (hc : Cur W' g bs) (hg : W.grownBy W' (some g)) (hgw : w.heap.size < g) (hB : g ≤ B) (hC : C ≠ g) : CQ w g bs C B t u X W' :=
  ⟨hc, (hg.block _ (Array.getElem?_eq_some_iff.1 h.res).1 (fun e => by cases e; omega)).trans h.res, (hg.block _ (Array.getElem?_eq_some_iff.1 h.box).1 (fun e => hC (Option.some.inj e))).trans h.box, h.rd.grown hg hB, h.low.grown hg h.low.size (fun k e => by cases e; omega)⟩
theorem CQ.below {w W W' : World} {g C B : Nat} {bs : List Int} {t : Int} {u : Value} {X : List (List Int)} (h : CQ w g bs C B t u X W) (hb : Below W.heap.size W W') : CQ w g bs C B t u X W' :=
  ⟨cur_below h.cur hb, box_stepQ h.res hb, box_stepQ h.box hb, h.rd.below hb, low_stepQ h.low hb⟩
theorem CQ.fin {w W : World} {g C B : Nat} {bs : List Int} {t : Int} {u : Value} {X : List (List Int)} (h : CQ w g bs C B t u X W) (hB : w.heap.size ≤ B) : ReadsSS ((W.setCell ⟨w.heap.size, 0, none⟩ (.int .i64 t)).setCell ⟨w.heap.size, 1, none⟩ u) u X ∧ Below w.heap.size w ((W.setCell ⟨w.heap.size, 0, none⟩ (.int .i64 t)).setCell ⟨w.heap.size, 1, none⟩ u) :=
  ⟨((h.rd.set hB).set hB).reads, (h.low.setCell (by simp) _).setCell (by simp) _⟩
/-- Behind the store of what is answered. -/
structure EQ (w : World) (C B : Nat) (t : Int) (u : Value) (X : List (List Int)) (W : World) : Prop where
  res : W.heap[w.heap.size]? = some (.cells #[.int .i64 t, u] 26 (0, 0))
  box : W.heap[C]? = some (.cells #[.int .i64 t, u] 26 (0, 0))
  rd : HiReads B W u X
  low : Below w.heap.size w W
theorem set2_other {W : World} {a b : Nat} {x y : Value} (h : b ≠ a) : ((W.setCell ⟨a, 0, none⟩ x).setCell ⟨a, 1, none⟩ y).heap[b]? = W.heap[b]? :=
  (Below.heap_setCell _ _ _ _ (by simpa using h)).trans (Below.heap_setCell _ _ _ _ (by simpa using h))
theorem CQ.put {w W : World} {g C B : Nat} {bs : List Int} {t : Int} {u : Value} {X : List (List Int)} (h : CQ w g bs C B t u X W) (hB : w.heap.size ≤ B) (hC : w.heap.size < C) : EQ w C B t u X ((W.setCell ⟨w.heap.size, 0, none⟩ (.int .i64 t)).setCell ⟨w.heap.size, 1, none⟩ u) :=
  ⟨two_setQ h.res _ _, (set2_other (by omega)).trans h.box, (h.rd.set hB).set hB, (h.low.setCell (by simp) _).setCell (by simp) _⟩
theorem EQ.drew {w W : World} {C B : Nat} {t : Int} {u : Value} {X : List (List Int)} (h : EQ w C B t u X W) : EQ w C B t u X W.drew := ⟨h.res, h.box, h.rd, ⟨h.low.os, h.low.tape, h.low.output, h.low.size, h.low.block⟩⟩
theorem EQ.below {w W W' : World} {C B : Nat} {t : Int} {u : Value} {X : List (List Int)} (h : EQ w C B t u X W) (hb : Below W.heap.size W W') : EQ w C B t u X W' := ⟨box_stepQ h.res hb, box_stepQ h.box hb, h.rd.below hb, low_stepQ h.low hb⟩
theorem came_lit {w : World} {LB x : Nat} (h : w.heap[LB]? = some (.cells #[.int .i64 1, .int .i64 5, .int .i64 1000000, .int .i64 1000001, .int .i64 0, .int .i64 9] 2 (0, 0))) (hx : x < 6) : ∃ z, w.cell? ⟨LB, x, none⟩ = some (.int .i64 z) := by
  obtain h' | h' | h' | h' | h' | h' : x = 0 ∨ x = 1 ∨ x = 2 ∨ x = 3 ∨ x = 4 ∨ x = 5 := by omega
  all_goals
    subst h'
    simp [World.cell?, h]
theorem came_lit3 {w : World} {LB x : Nat} (h : w.heap[LB]? = some (.cells #[.int .i64 (-1), .int .i64 7, .int .i64 8] 2 (0, 0))) (hx : x < 3) : ∃ z, w.cell? ⟨LB, x, none⟩ = some (.int .i64 z) := by
  obtain h' | h' | h' : x = 0 ∨ x = 1 ∨ x = 2 := by omega
  all_goals
    subst h'
    simp [World.cell?, h]

set_option maxRecDepth 20000 in
theorem drawCame (bs : List Int) (v : Value) (w : World) (hl : bs.length ≤ 1048576) (hv : Reads w v (bs.map (Value.int .u8))) :
    Calls Try.prog 15 #[v] w fun e w' => ∃ (t s n : Int) (u : Value) (X : List (List Int)), e = .returned (.tuple #[.agg #[.int .i64 t, u], .int .i64 s, .int .i64 n]) ∧ X.length ≤ 8 ∧ (∀ x ∈ X, x.length ≤ 6) ∧ ReadsSS w' u X ∧ Below w.heap.size w w' := by
  obtain ⟨W0, hW0⟩ : ∃ W0, w.alloc (.cells #[.int .i64 0, .slice none 0 0] 26) = W0 := ⟨_, rfl⟩
  have b0 : Below w.heap.size w W0 := by rw [← hW0]; go_grown
  have s0 : W0.heap.size = w.heap.size + 1 := by rw [← hW0]; simp
  have H0 : W0.heap[w.heap.size]? = some (.cells #[.int .i64 0, .slice none 0 0] 26 (0, 0)) := by rw [← hW0]; exact heap_alloc_new w _
  have HS0 : Hid _ := s0
  clear s0
  go_enter Try.func15, Try.ntmps15
  go_wp2_with fail
  go_at_call 31
  refine (l1New bs v W0 hl (reads_below hv b0)).mono ?_
  rintro e w1 ⟨g, rfl, hg, hc, b1⟩
  have HR1 : Hid _ := box_stepQ H0 b1
  have HL1 : Hid (Below w.heap.size w w1) := low_stepQ b0 b1
  have hgw : w.heap.size < g := by have := HS0.out; omega
  have hg1 : g < w1.heap.size := by obtain ⟨ao, cap, i, x, h1, _⟩ := hc; exact (Array.getElem?_eq_some_iff.1 h1).1
  clear b1 b0 H0 hW0
  go_wp2_with fail
  go_at_call 32
  refine (l17Draw g bs w1 hl hc).mono ?_
  rintro e w2 ⟨t, u, X, rfl, h8, h6, hR, hc2, hg2⟩
  obtain ⟨ua, um, uc, hu⟩ : ∃ a m c, u = .slice a m c := by obtain ⟨a, c, e, _⟩ := hR.reads; exact ⟨_, _, _, e⟩
  subst hu
  have HR2 := (hg2.block _ (Array.getElem?_eq_some_iff.1 HR1.out).1 (fun e => by cases e; omega)).trans HR1.out
  have HL2 : Below w.heap.size w w2 := HL1.out.grown hg2 HL1.out.size (fun k e => by cases e; omega)
  obtain ⟨B, hB⟩ : ∃ B, w1.heap.size = B := ⟨_, rfl⟩
  have hBw : w.heap.size ≤ B := by have := HL1.out.size; omega
  have hgB : g ≤ B := by omega
  obtain ⟨C, hC⟩ : ∃ C, w2.heap.size = C := ⟨_, rfl⟩
  have hCg : C ≠ g := by have := hg2.size; omega
  have hCw : w.heap.size < C := by have := hg2.size; omega
  obtain ⟨w3, hw3⟩ : ∃ W, w2.alloc (.cells #[.int .i64 t, .slice ua um uc] 26) = W := ⟨_, rfl⟩
  have b3 : Below w2.heap.size w2 w3 := by rw [← hw3]; go_grown
  have HB3 : w3.heap[C]? = some (.cells #[.int .i64 t, .slice ua um uc] 26 (0, 0)) := by rw [← hw3, ← hC]; exact heap_alloc_new w2 _
  rw [hB] at hR
  have HD3 : Hid (CQ w g bs C B t (.slice ua um uc) X w3) := (⟨cur_below hc2 b3, box_stepQ HR2 b3, HB3, hR.below b3, low_stepQ HL2 b3⟩ : CQ _ _ _ _ _ _ _ _ _)
  clear HR1 HL1 hR hc2 hg2 HR2 HL2 b3 HB3 hg1 hB hc
  go_wp2_with fail
  go_at_call 33
  clear hw3 hC
  refine (l1Below g bs 4 (by omega) w3 hl HD3.out.cur).mono ?_
  rintro e w4 ⟨s, rfl, -, -, -, hc4, hg4⟩
  have HD4 : Hid (CQ w g bs C B t (.slice ua um uc) X w4) := HD3.out.draw hc4 hg4 hgw hgB hCg
  clear hc4 hg4 HD3
  go_wp2_with fail
  go_at_call 34
  refine (l1Once g bs 10 (by omega) w4 hl HD4.out.cur).mono ?_
  rintro e w5 ⟨b, rfl, hc5, hg5⟩
  have HD5 : Hid (CQ w g bs C B t (.slice ua um uc) X w5) := HD4.out.draw hc5 hg5 hgw hgB hCg
  clear hc5 hg5 HD4
  cases b with
  | false =>
    obtain ⟨d0, d1, -, -⟩ := two_cellsQ HD5.out.box
    have HD : Hid (CQ w g bs C B t (.slice ua um uc) X w5) := HD5.out
    clear HD5
    go_wp2_with fail
    refine wp_region_held_drew (S := fun w' => w'.cell? ⟨C, 0, none⟩ = some (.int .i64 t) ∧ w'.cell? ⟨C, 1, none⟩ = some (.slice ua um uc)) (by kernel_rfl) ⟨d0, d1⟩ (fun hHeld => ?_)
    refine wpAnyH_take (i := 0) (oi := ?oira0) (v := .agg #[.int .i64 t, .slice ua um uc]) ?hira0 (by kernel_rfl) (by kernel_rfl) (by kernel_rfl) ?hqra0 ?hyra0 hHeld ?hrra0
    case hira0 =>
      simp only [List.getElem?_toArray, List.getElem?_cons_succ, List.getElem?_cons_zero]
      rfl
    case hqra0 => exact fun _ _ _ h => h
    case hyra0 => exact Or.inl ⟨by kernel_rfl, fun w hSw => by obtain ⟨s0, s1⟩ := hSw; go_simp⟩
    try simp only [Act.put, List.setIfInBounds_toArray, List.set_cons_zero, List.set_cons_succ]
    refine wpAnyH_take (i := 1) (oi := ?oira1) (v := .int .i64 s) ?hira1 (by kernel_rfl) (by kernel_rfl) (by kernel_rfl) ?hqra1 ?hyra1 hHeld ?hrra1
    case hira1 =>
      simp only [List.getElem?_toArray, List.getElem?_cons_succ, List.getElem?_cons_zero]
      rfl
    case hqra1 => exact fun _ _ _ h => h
    case hyra1 => exact Or.inl ⟨by kernel_rfl, fun w hSw => by go_simp⟩
    try simp only [Act.put, List.setIfInBounds_toArray, List.set_cons_zero, List.set_cons_succ]
    refine wpAnyH_take (i := 3) (oi := ?oira3) (v := .pointer (some ⟨g, 0, none⟩)) ?hira3 (by kernel_rfl) (by kernel_rfl) (by kernel_rfl) ?hqra3 ?hyra3 hHeld ?hrra3
    case hira3 =>
      simp only [List.getElem?_toArray, List.getElem?_cons_succ, List.getElem?_cons_zero]
      rfl
    case hqra3 => exact fun _ _ _ h => h
    case hyra3 => exact Or.inl ⟨by kernel_rfl, fun w hSw => by go_simp⟩
    try simp only [Act.put, List.setIfInBounds_toArray, List.set_cons_zero, List.set_cons_succ]
    refine wpAnyH_ready (rs := [2, 4]) (by kernel_rfl) (by simp) ?_
    refine (AllReadyH.cons (o := ?oora2) ?hora2 (fun K hK => ?hkra2) (AllReadyH.cons (o := ?oora4) ?hora4 (fun K hK => ?hkra4) AllReadyH.nil))
    case hora2 =>
      simp only [List.getElem?_toArray, List.getElem?_cons_succ, List.getElem?_cons_zero]
      rfl
    case hora4 =>
      simp only [List.getElem?_toArray, List.getElem?_cons_succ, List.getElem?_cons_zero]
      rfl
    case hkra2 =>
      go_simp
      try go_wp2_with fail
      obtain ⟨wb, hwb⟩ : ∃ Z, (w5.alloc (.cells #[.int .i64 1, .int .i64 5, .int .i64 1000000, .int .i64 1000001, .int .i64 0, .int .i64 9] 2)).drew = Z := ⟨_, rfl⟩
      obtain ⟨LB, hLB⟩ : ∃ LB, w5.heap.size = LB := ⟨_, rfl⟩
      have HLb : Hid (wb.heap[LB]? = some (.cells #[.int .i64 1, .int .i64 5, .int .i64 1000000, .int .i64 1000001, .int .i64 0, .int .i64 9] 2 (0, 0))) := by
        show wb.heap[LB]? = _
        rw [← hwb, ← hLB]; exact heap_alloc_new w5 _
      have HDb : Hid (CQ w g bs C B t (.slice ua um uc) X wb) := by
        show CQ w g bs C B t (.slice ua um uc) X wb
        rw [← hwb]; exact (HD.out.below (Below.alloc (Below.refl _ _) (Nat.le_refl _) _)).drew
      have hLg : LB ≠ g := by have := HD.out.cur; obtain ⟨ao, cap, i, x, h1, _⟩ := this; have := (Array.getElem?_eq_some_iff.1 h1).1; omega
      have hLBw : LB ≠ w.heap.size := by have := HD.out.low.size; have := (Array.getElem?_eq_some_iff.1 HD.out.res).1; omega
      rw [hwb, hLB]
      clear hwb hLB
      refine hK.out _ _ ⟨(two_cellsQ HDb.out.box).1, (two_cellsQ HDb.out.box).2.1⟩ (fun hHeld => ?_)
      clear hK K
      try simp only [Act.put, List.setIfInBounds_toArray, List.set_cons_zero, List.set_cons_succ]
      refine wpAnyH_ready (rs := [4]) (by kernel_rfl) (by simp) ?_
      refine (AllReadyH.cons (o := ?ooraa4) ?horaa4 (fun K hK => ?hkraa4) AllReadyH.nil)
      case horaa4 =>
        simp only [List.getElem?_toArray, List.getElem?_cons_succ, List.getElem?_cons_zero]
        rfl
      case hkraa4 =>
        go_simp
        go_at_call 33
        refine (l1Below g bs 6 (by omega) _ hl HDb.out.cur).mono ?_
        rintro e wz ⟨x40, rfl, hx40, hx41, -, hc4, hg4⟩
        have hx6 := hx41 (by omega)
        obtain ⟨x4, rfl⟩ : ∃ x4 : Nat, x40 = (x4 : Int) := ⟨x40.toNat, by omega⟩
        have HDz : Hid (CQ w g bs C B t (.slice ua um uc) X wz) := HDb.out.draw hc4 hg4 hgw hgB hCg
        have HLB : wz.heap[LB]? = some (.cells #[.int .i64 1, .int .i64 5, .int .i64 1000000, .int .i64 1000001, .int .i64 0, .int .i64 9] 2 (0, 0)) := (hg4.block LB (Array.getElem?_eq_some_iff.1 HLb.out).1 (fun e => hLg (Option.some.inj e))).trans HLb.out
        obtain ⟨z4, hz4⟩ := came_lit HLB (x := x4) (by omega)
        clear hc4 hg4 hx41 HLB HDb HLb
        try go_wp2_with fail
        refine hK.out _ _ ⟨(two_cellsQ HDz.out.box).1, (two_cellsQ HDz.out.box).2.1⟩ (fun hHeld => ?_)
        clear hK K
        try simp only [Act.put, List.setIfInBounds_toArray, List.set_cons_zero, List.set_cons_succ]
        refine wpAnyH_take (i := 5) (oi := ?oiraa5) (v := .pointer (some ⟨LB, x4, none⟩)) ?hiraa5 (by kernel_rfl) (by kernel_rfl) (by kernel_rfl) ?hqraa5 ?hyraa5 hHeld ?hrraa5
        case hiraa5 =>
          simp only [List.getElem?_toArray, List.getElem?_cons_succ, List.getElem?_cons_zero]
          rfl
        case hqraa5 => exact fun _ _ _ h => h
        case hyraa5 => exact Or.inl ⟨by kernel_rfl, fun w hSw => by go_simp⟩
        try simp only [Act.put, List.setIfInBounds_toArray, List.set_cons_zero, List.set_cons_succ]
        refine wpAnyH_ready (rs := [6, 7]) (by kernel_rfl) (by simp) ?_
        refine (AllReadyH.cons (o := ?ooraa6) ?horaa6 (fun K hK => ?hkraa6) (AllReadyH.cons (o := ?ooraa7) ?horaa7 (fun K hK => ?hkraa7) AllReadyH.nil))
        case horaa6 =>
          simp only [List.getElem?_toArray, List.getElem?_cons_succ, List.getElem?_cons_zero]
          rfl
        case horaa7 =>
          simp only [List.getElem?_toArray, List.getElem?_cons_succ, List.getElem?_cons_zero]
          rfl
        case hkraa6 =>
          go_simp
          go_simp
          try go_wp2_with fail
          refine hK.out _ _ ⟨(two_cellsQ HDz.out.box).1, (two_cellsQ HDz.out.box).2.1⟩ (fun hHeld => ?_)
          clear hK K
          try simp only [Act.put, List.setIfInBounds_toArray, List.set_cons_zero, List.set_cons_succ]
          refine wpAnyH_ready (rs := [7]) (by kernel_rfl) (by simp) ?_
          refine (AllReadyH.cons (o := ?ooraaa7) ?horaaa7 (fun K hK => ?hkraaa7) AllReadyH.nil)
          case horaaa7 =>
            simp only [List.getElem?_toArray, List.getElem?_cons_succ, List.getElem?_cons_zero]
            rfl
          case hkraaa7 =>
            obtain ⟨r0, r1, q0, q1⟩ := two_cellsQ HDz.out.res
            go_simp
            try go_wp2_with fail
            obtain ⟨we, hwe⟩ : ∃ Z, (wz.setCell ⟨w.heap.size, 0, none⟩ (.int .i64 t)).setCell ⟨w.heap.size, 1, none⟩ (.slice ua um uc) = Z := ⟨_, rfl⟩
            have HE : Hid (EQ w C B t (.slice ua um uc) X we) := by
              show EQ w C B t (.slice ua um uc) X we
              rw [← hwe]; exact HDz.out.put hBw hCw
            rw [hwe]
            clear hwe r0 r1 q0 q1
            refine hK.out _ _ ⟨(two_cellsQ HE.out.box).1, (two_cellsQ HE.out.box).2.1⟩ (fun hHeld => ?_)
            clear hK K
            try simp only [Act.put, List.setIfInBounds_toArray, List.set_cons_zero, List.set_cons_succ]
            refine wpAnyH_take (i := 8) (oi := ?oiraaa8) (v := .int .i64 s) ?hiraaa8 (by kernel_rfl) (by kernel_rfl) (by kernel_rfl) ?hqraaa8 ?hyraaa8 hHeld ?hrraaa8
            case hiraaa8 =>
              simp only [List.getElem?_toArray, List.getElem?_cons_succ, List.getElem?_cons_zero]
              rfl
            case hqraaa8 => exact fun _ _ _ h => h
            case hyraaa8 => exact Or.inl ⟨by kernel_rfl, fun w hSw => by go_simp⟩
            try simp only [Act.put, List.setIfInBounds_toArray, List.set_cons_zero, List.set_cons_succ]
            refine wpAnyH_take (i := 9) (oi := ?oiraaa9) (v := .int .i64 z4) ?hiraaa9 (by kernel_rfl) (by kernel_rfl) (by kernel_rfl) ?hqraaa9 ?hyraaa9 hHeld ?hrraaa9
            case hiraaa9 =>
              simp only [List.getElem?_toArray, List.getElem?_cons_succ, List.getElem?_cons_zero]
              rfl
            case hqraaa9 => exact fun _ _ _ h => h
            case hyraaa9 => exact Or.inl ⟨by kernel_rfl, fun w hSw => by go_simp⟩
            try simp only [Act.put, List.setIfInBounds_toArray, List.set_cons_zero, List.set_cons_succ]
            refine wpAnyH_done (by kernel_rfl) ?_ _
            clear hz4
            clear HD d0 d1
            obtain ⟨y0, y1, _, _⟩ := two_cellsQ HE.out.res
            go_wp2
            refine bodyPost_ret (v := .tuple #[.agg #[.int .i64 t, .slice ua um uc], .int .i64 s, .int .i64 z4]) (by simp [results, Try.results15, go_sem, y0, y1]) rfl ?_
            exact ⟨t, s, z4, _, X, rfl, h8, h6, HE.out.rd.reads, HE.out.low⟩
        case hkraa7 =>
          obtain ⟨r0, r1, q0, q1⟩ := two_cellsQ HDz.out.res
          go_simp
          try go_wp2_with fail
          obtain ⟨we, hwe⟩ : ∃ Z, (wz.setCell ⟨w.heap.size, 0, none⟩ (.int .i64 t)).setCell ⟨w.heap.size, 1, none⟩ (.slice ua um uc) = Z := ⟨_, rfl⟩
          have HE : Hid (EQ w C B t (.slice ua um uc) X we) := by
            show EQ w C B t (.slice ua um uc) X we
            rw [← hwe]; exact HDz.out.put hBw hCw
          have hz5 : we.cell? ⟨LB, x4, none⟩ = some (.int .i64 z4) := by rw [← hwe]; exact (World.cell?_of_block (set2_other hLBw)).trans hz4
          clear hz4
          rw [hwe]
          clear hwe r0 r1 q0 q1
          refine hK.out _ _ ⟨(two_cellsQ HE.out.box).1, (two_cellsQ HE.out.box).2.1⟩ (fun hHeld => ?_)
          clear hK K
          try simp only [Act.put, List.setIfInBounds_toArray, List.set_cons_zero, List.set_cons_succ]
          refine wpAnyH_take (i := 8) (oi := ?oiraab8) (v := .int .i64 s) ?hiraab8 (by kernel_rfl) (by kernel_rfl) (by kernel_rfl) ?hqraab8 ?hyraab8 hHeld ?hrraab8
          case hiraab8 =>
            simp only [List.getElem?_toArray, List.getElem?_cons_succ, List.getElem?_cons_zero]
            rfl
          case hqraab8 => exact fun _ _ _ h => h
          case hyraab8 => exact Or.inl ⟨by kernel_rfl, fun w hSw => by go_simp⟩
          try simp only [Act.put, List.setIfInBounds_toArray, List.set_cons_zero, List.set_cons_succ]
          refine wpAnyH_ready (rs := [6]) (by kernel_rfl) (by simp) ?_
          refine (AllReadyH.cons (o := ?ooraab6) ?horaab6 (fun K hK => ?hkraab6) AllReadyH.nil)
          case horaab6 =>
            simp only [List.getElem?_toArray, List.getElem?_cons_succ, List.getElem?_cons_zero]
            rfl
          case hkraab6 =>
            go_simp
            go_simp
            try go_wp2_with fail
            refine hK.out _ _ ⟨(two_cellsQ HE.out.box).1, (two_cellsQ HE.out.box).2.1⟩ (fun hHeld => ?_)
            clear hK K
            try simp only [Act.put, List.setIfInBounds_toArray, List.set_cons_zero, List.set_cons_succ]
            refine wpAnyH_take (i := 9) (oi := ?oiraab9) (v := .int .i64 z4) ?hiraab9 (by kernel_rfl) (by kernel_rfl) (by kernel_rfl) ?hqraab9 ?hyraab9 hHeld ?hrraab9
            case hiraab9 =>
              simp only [List.getElem?_toArray, List.getElem?_cons_succ, List.getElem?_cons_zero]
              rfl
            case hqraab9 => exact fun _ _ _ h => h
            case hyraab9 => exact Or.inl ⟨by kernel_rfl, fun w hSw => by go_simp⟩
            try simp only [Act.put, List.setIfInBounds_toArray, List.set_cons_zero, List.set_cons_succ]
            refine wpAnyH_done (by kernel_rfl) ?_ _
            clear hz5
            clear HD d0 d1
            obtain ⟨y0, y1, _, _⟩ := two_cellsQ HE.out.res
            go_wp2
            refine bodyPost_ret (v := .tuple #[.agg #[.int .i64 t, .slice ua um uc], .int .i64 s, .int .i64 z4]) (by simp [results, Try.results15, go_sem, y0, y1]) rfl ?_
            exact ⟨t, s, z4, _, X, rfl, h8, h6, HE.out.rd.reads, HE.out.low⟩
    case hkra4 =>
      go_simp
      go_at_call 33
      refine (l1Below g bs 6 (by omega) _ hl HD.out.drew.cur).mono ?_
      rintro e wc ⟨x40, rfl, hx40, hx41, -, hc4, hg4⟩
      have hx6 := hx41 (by omega)
      obtain ⟨x4, rfl⟩ : ∃ x4 : Nat, x40 = (x4 : Int) := ⟨x40.toNat, by omega⟩
      have HDc : Hid (CQ w g bs C B t (.slice ua um uc) X wc) := HD.out.drew.draw hc4 hg4 hgw hgB hCg
      clear hc4 hg4 hx41
      try go_wp2_with fail
      refine hK.out _ _ ⟨(two_cellsQ HDc.out.box).1, (two_cellsQ HDc.out.box).2.1⟩ (fun hHeld => ?_)
      clear hK K
      try simp only [Act.put, List.setIfInBounds_toArray, List.set_cons_zero, List.set_cons_succ]
      refine wpAnyH_ready (rs := [2, 7]) (by kernel_rfl) (by simp) ?_
      refine (AllReadyH.cons (o := ?oorab2) ?horab2 (fun K hK => ?hkrab2) (AllReadyH.cons (o := ?oorab7) ?horab7 (fun K hK => ?hkrab7) AllReadyH.nil))
      case horab2 =>
        simp only [List.getElem?_toArray, List.getElem?_cons_succ, List.getElem?_cons_zero]
        rfl
      case horab7 =>
        simp only [List.getElem?_toArray, List.getElem?_cons_succ, List.getElem?_cons_zero]
        rfl
      case hkrab2 =>
        go_simp
        try go_wp2_with fail
        obtain ⟨wz, hwz⟩ : ∃ Z, wc.alloc (.cells #[.int .i64 1, .int .i64 5, .int .i64 1000000, .int .i64 1000001, .int .i64 0, .int .i64 9] 2) = Z := ⟨_, rfl⟩
        obtain ⟨LB, hLB⟩ : ∃ LB, wc.heap.size = LB := ⟨_, rfl⟩
        have HLB : wz.heap[LB]? = some (.cells #[.int .i64 1, .int .i64 5, .int .i64 1000000, .int .i64 1000001, .int .i64 0, .int .i64 9] 2 (0, 0)) := by rw [← hwz, ← hLB]; exact heap_alloc_new wc _
        have Bb : Below wc.heap.size wc wz := by rw [← hwz]; exact Below.alloc (Below.refl _ _) (Nat.le_refl _) _
        have HDz : Hid (CQ w g bs C B t (.slice ua um uc) X wz) := HDc.out.below Bb
        obtain ⟨z4, hz4⟩ := came_lit HLB (x := x4) (by omega)
        have hLBw : LB ≠ w.heap.size := by have := (Array.getElem?_eq_some_iff.1 HDc.out.res).1; omega
        rw [hwz, hLB]
        clear hwz hLB HLB Bb HDc
        refine hK.out _ _ ⟨(two_cellsQ HDz.out.box).1, (two_cellsQ HDz.out.box).2.1⟩ (fun hHeld => ?_)
        clear hK K
        try simp only [Act.put, List.setIfInBounds_toArray, List.set_cons_zero, List.set_cons_succ]
        refine wpAnyH_take (i := 5) (oi := ?oiraba5) (v := .pointer (some ⟨LB, x4, none⟩)) ?hiraba5 (by kernel_rfl) (by kernel_rfl) (by kernel_rfl) ?hqraba5 ?hyraba5 hHeld ?hrraba5
        case hiraba5 =>
          simp only [List.getElem?_toArray, List.getElem?_cons_succ, List.getElem?_cons_zero]
          rfl
        case hqraba5 => exact fun _ _ _ h => h
        case hyraba5 => exact Or.inl ⟨by kernel_rfl, fun w hSw => by go_simp⟩
        try simp only [Act.put, List.setIfInBounds_toArray, List.set_cons_zero, List.set_cons_succ]
        refine wpAnyH_ready (rs := [6, 7]) (by kernel_rfl) (by simp) ?_
        refine (AllReadyH.cons (o := ?ooraba6) ?horaba6 (fun K hK => ?hkraba6) (AllReadyH.cons (o := ?ooraba7) ?horaba7 (fun K hK => ?hkraba7) AllReadyH.nil))
        case horaba6 =>
          simp only [List.getElem?_toArray, List.getElem?_cons_succ, List.getElem?_cons_zero]
          rfl
        case horaba7 =>
          simp only [List.getElem?_toArray, List.getElem?_cons_succ, List.getElem?_cons_zero]
          rfl
        case hkraba6 =>
          go_simp
          go_simp
          try go_wp2_with fail
          refine hK.out _ _ ⟨(two_cellsQ HDz.out.box).1, (two_cellsQ HDz.out.box).2.1⟩ (fun hHeld => ?_)
          clear hK K
          try simp only [Act.put, List.setIfInBounds_toArray, List.set_cons_zero, List.set_cons_succ]
          refine wpAnyH_ready (rs := [7]) (by kernel_rfl) (by simp) ?_
          refine (AllReadyH.cons (o := ?oorabaa7) ?horabaa7 (fun K hK => ?hkrabaa7) AllReadyH.nil)
          case horabaa7 =>
            simp only [List.getElem?_toArray, List.getElem?_cons_succ, List.getElem?_cons_zero]
            rfl
          case hkrabaa7 =>
            obtain ⟨r0, r1, q0, q1⟩ := two_cellsQ HDz.out.res
            go_simp
            try go_wp2_with fail
            obtain ⟨we, hwe⟩ : ∃ Z, (wz.setCell ⟨w.heap.size, 0, none⟩ (.int .i64 t)).setCell ⟨w.heap.size, 1, none⟩ (.slice ua um uc) = Z := ⟨_, rfl⟩
            have HE : Hid (EQ w C B t (.slice ua um uc) X we) := by
              show EQ w C B t (.slice ua um uc) X we
              rw [← hwe]; exact HDz.out.put hBw hCw
            rw [hwe]
            clear hwe r0 r1 q0 q1
            refine hK.out _ _ ⟨(two_cellsQ HE.out.box).1, (two_cellsQ HE.out.box).2.1⟩ (fun hHeld => ?_)
            clear hK K
            try simp only [Act.put, List.setIfInBounds_toArray, List.set_cons_zero, List.set_cons_succ]
            refine wpAnyH_take (i := 8) (oi := ?oirabaa8) (v := .int .i64 s) ?hirabaa8 (by kernel_rfl) (by kernel_rfl) (by kernel_rfl) ?hqrabaa8 ?hyrabaa8 hHeld ?hrrabaa8
            case hirabaa8 =>
              simp only [List.getElem?_toArray, List.getElem?_cons_succ, List.getElem?_cons_zero]
              rfl
            case hqrabaa8 => exact fun _ _ _ h => h
            case hyrabaa8 => exact Or.inl ⟨by kernel_rfl, fun w hSw => by go_simp⟩
            try simp only [Act.put, List.setIfInBounds_toArray, List.set_cons_zero, List.set_cons_succ]
            refine wpAnyH_take (i := 9) (oi := ?oirabaa9) (v := .int .i64 z4) ?hirabaa9 (by kernel_rfl) (by kernel_rfl) (by kernel_rfl) ?hqrabaa9 ?hyrabaa9 hHeld ?hrrabaa9
            case hirabaa9 =>
              simp only [List.getElem?_toArray, List.getElem?_cons_succ, List.getElem?_cons_zero]
              rfl
            case hqrabaa9 => exact fun _ _ _ h => h
            case hyrabaa9 => exact Or.inl ⟨by kernel_rfl, fun w hSw => by go_simp⟩
            try simp only [Act.put, List.setIfInBounds_toArray, List.set_cons_zero, List.set_cons_succ]
            refine wpAnyH_done (by kernel_rfl) ?_ _
            clear hz4
            clear HD d0 d1
            obtain ⟨y0, y1, _, _⟩ := two_cellsQ HE.out.res
            go_wp2
            refine bodyPost_ret (v := .tuple #[.agg #[.int .i64 t, .slice ua um uc], .int .i64 s, .int .i64 z4]) (by simp [results, Try.results15, go_sem, y0, y1]) rfl ?_
            exact ⟨t, s, z4, _, X, rfl, h8, h6, HE.out.rd.reads, HE.out.low⟩
        case hkraba7 =>
          obtain ⟨r0, r1, q0, q1⟩ := two_cellsQ HDz.out.res
          go_simp
          try go_wp2_with fail
          obtain ⟨we, hwe⟩ : ∃ Z, (wz.setCell ⟨w.heap.size, 0, none⟩ (.int .i64 t)).setCell ⟨w.heap.size, 1, none⟩ (.slice ua um uc) = Z := ⟨_, rfl⟩
          have HE : Hid (EQ w C B t (.slice ua um uc) X we) := by
            show EQ w C B t (.slice ua um uc) X we
            rw [← hwe]; exact HDz.out.put hBw hCw
          have hz5 : we.cell? ⟨LB, x4, none⟩ = some (.int .i64 z4) := by rw [← hwe]; exact (World.cell?_of_block (set2_other hLBw)).trans hz4
          clear hz4
          rw [hwe]
          clear hwe r0 r1 q0 q1
          refine hK.out _ _ ⟨(two_cellsQ HE.out.box).1, (two_cellsQ HE.out.box).2.1⟩ (fun hHeld => ?_)
          clear hK K
          try simp only [Act.put, List.setIfInBounds_toArray, List.set_cons_zero, List.set_cons_succ]
          refine wpAnyH_take (i := 8) (oi := ?oirabab8) (v := .int .i64 s) ?hirabab8 (by kernel_rfl) (by kernel_rfl) (by kernel_rfl) ?hqrabab8 ?hyrabab8 hHeld ?hrrabab8
          case hirabab8 =>
            simp only [List.getElem?_toArray, List.getElem?_cons_succ, List.getElem?_cons_zero]
            rfl
          case hqrabab8 => exact fun _ _ _ h => h
          case hyrabab8 => exact Or.inl ⟨by kernel_rfl, fun w hSw => by go_simp⟩
          try simp only [Act.put, List.setIfInBounds_toArray, List.set_cons_zero, List.set_cons_succ]
          refine wpAnyH_ready (rs := [6]) (by kernel_rfl) (by simp) ?_
          refine (AllReadyH.cons (o := ?oorabab6) ?horabab6 (fun K hK => ?hkrabab6) AllReadyH.nil)
          case horabab6 =>
            simp only [List.getElem?_toArray, List.getElem?_cons_succ, List.getElem?_cons_zero]
            rfl
          case hkrabab6 =>
            go_simp
            go_simp
            try go_wp2_with fail
            refine hK.out _ _ ⟨(two_cellsQ HE.out.box).1, (two_cellsQ HE.out.box).2.1⟩ (fun hHeld => ?_)
            clear hK K
            try simp only [Act.put, List.setIfInBounds_toArray, List.set_cons_zero, List.set_cons_succ]
            refine wpAnyH_take (i := 9) (oi := ?oirabab9) (v := .int .i64 z4) ?hirabab9 (by kernel_rfl) (by kernel_rfl) (by kernel_rfl) ?hqrabab9 ?hyrabab9 hHeld ?hrrabab9
            case hirabab9 =>
              simp only [List.getElem?_toArray, List.getElem?_cons_succ, List.getElem?_cons_zero]
              rfl
            case hqrabab9 => exact fun _ _ _ h => h
            case hyrabab9 => exact Or.inl ⟨by kernel_rfl, fun w hSw => by go_simp⟩
            try simp only [Act.put, List.setIfInBounds_toArray, List.set_cons_zero, List.set_cons_succ]
            refine wpAnyH_done (by kernel_rfl) ?_ _
            clear hz5
            clear HD d0 d1
            obtain ⟨y0, y1, _, _⟩ := two_cellsQ HE.out.res
            go_wp2
            refine bodyPost_ret (v := .tuple #[.agg #[.int .i64 t, .slice ua um uc], .int .i64 s, .int .i64 z4]) (by simp [results, Try.results15, go_sem, y0, y1]) rfl ?_
            exact ⟨t, s, z4, _, X, rfl, h8, h6, HE.out.rd.reads, HE.out.low⟩
      case hkrab7 =>
        obtain ⟨r0, r1, q0, q1⟩ := two_cellsQ HDc.out.res
        go_simp
        try go_wp2_with fail
        obtain ⟨we, hwe⟩ : ∃ Z, (wc.setCell ⟨w.heap.size, 0, none⟩ (.int .i64 t)).setCell ⟨w.heap.size, 1, none⟩ (.slice ua um uc) = Z := ⟨_, rfl⟩
        have HE : Hid (EQ w C B t (.slice ua um uc) X we) := by
          show EQ w C B t (.slice ua um uc) X we
          rw [← hwe]; exact HDc.out.put hBw hCw
        rw [hwe]
        clear hwe r0 r1 q0 q1 HDc
        refine hK.out _ _ ⟨(two_cellsQ HE.out.box).1, (two_cellsQ HE.out.box).2.1⟩ (fun hHeld => ?_)
        clear hK K
        try simp only [Act.put, List.setIfInBounds_toArray, List.set_cons_zero, List.set_cons_succ]
        refine wpAnyH_take (i := 8) (oi := ?oirabb8) (v := .int .i64 s) ?hirabb8 (by kernel_rfl) (by kernel_rfl) (by kernel_rfl) ?hqrabb8 ?hyrabb8 hHeld ?hrrabb8
        case hirabb8 =>
          simp only [List.getElem?_toArray, List.getElem?_cons_succ, List.getElem?_cons_zero]
          rfl
        case hqrabb8 => exact fun _ _ _ h => h
        case hyrabb8 => exact Or.inl ⟨by kernel_rfl, fun w hSw => by go_simp⟩
        try simp only [Act.put, List.setIfInBounds_toArray, List.set_cons_zero, List.set_cons_succ]
        refine wpAnyH_ready (rs := [2]) (by kernel_rfl) (by simp) ?_
        refine (AllReadyH.cons (o := ?oorabb2) ?horabb2 (fun K hK => ?hkrabb2) AllReadyH.nil)
        case horabb2 =>
          simp only [List.getElem?_toArray, List.getElem?_cons_succ, List.getElem?_cons_zero]
          rfl
        case hkrabb2 =>
          go_simp
          try go_wp2_with fail
          obtain ⟨wf, hwf⟩ : ∃ Z, we.alloc (.cells #[.int .i64 1, .int .i64 5, .int .i64 1000000, .int .i64 1000001, .int .i64 0, .int .i64 9] 2) = Z := ⟨_, rfl⟩
          obtain ⟨LB, hLB⟩ : ∃ LB, we.heap.size = LB := ⟨_, rfl⟩
          have HLB : wf.heap[LB]? = some (.cells #[.int .i64 1, .int .i64 5, .int .i64 1000000, .int .i64 1000001, .int .i64 0, .int .i64 9] 2 (0, 0)) := by rw [← hwf, ← hLB]; exact heap_alloc_new we _
          have Bb : Below we.heap.size we wf := by rw [← hwf]; exact Below.alloc (Below.refl _ _) (Nat.le_refl _) _
          have HF : Hid (EQ w C B t (.slice ua um uc) X wf) := HE.out.below Bb
          obtain ⟨z4, hz4⟩ := came_lit HLB (x := x4) (by omega)
          rw [hwf, hLB]
          clear hwf hLB HLB Bb HE
          refine hK.out _ _ ⟨(two_cellsQ HF.out.box).1, (two_cellsQ HF.out.box).2.1⟩ (fun hHeld => ?_)
          clear hK K
          try simp only [Act.put, List.setIfInBounds_toArray, List.set_cons_zero, List.set_cons_succ]
          refine wpAnyH_take (i := 5) (oi := ?oirabb5) (v := .pointer (some ⟨LB, x4, none⟩)) ?hirabb5 (by kernel_rfl) (by kernel_rfl) (by kernel_rfl) ?hqrabb5 ?hyrabb5 hHeld ?hrrabb5
          case hirabb5 =>
            simp only [List.getElem?_toArray, List.getElem?_cons_succ, List.getElem?_cons_zero]
            rfl
          case hqrabb5 => exact fun _ _ _ h => h
          case hyrabb5 => exact Or.inl ⟨by kernel_rfl, fun w hSw => by go_simp⟩
          try simp only [Act.put, List.setIfInBounds_toArray, List.set_cons_zero, List.set_cons_succ]
          refine wpAnyH_ready (rs := [6]) (by kernel_rfl) (by simp) ?_
          refine (AllReadyH.cons (o := ?oorabb6) ?horabb6 (fun K hK => ?hkrabb6) AllReadyH.nil)
          case horabb6 =>
            simp only [List.getElem?_toArray, List.getElem?_cons_succ, List.getElem?_cons_zero]
            rfl
          case hkrabb6 =>
            go_simp
            go_simp
            try go_wp2_with fail
            refine hK.out _ _ ⟨(two_cellsQ HF.out.box).1, (two_cellsQ HF.out.box).2.1⟩ (fun hHeld => ?_)
            clear hK K
            try simp only [Act.put, List.setIfInBounds_toArray, List.set_cons_zero, List.set_cons_succ]
            refine wpAnyH_take (i := 9) (oi := ?oirabb9) (v := .int .i64 z4) ?hirabb9 (by kernel_rfl) (by kernel_rfl) (by kernel_rfl) ?hqrabb9 ?hyrabb9 hHeld ?hrrabb9
            case hirabb9 =>
              simp only [List.getElem?_toArray, List.getElem?_cons_succ, List.getElem?_cons_zero]
              rfl
            case hqrabb9 => exact fun _ _ _ h => h
            case hyrabb9 => exact Or.inl ⟨by kernel_rfl, fun w hSw => by go_simp⟩
            try simp only [Act.put, List.setIfInBounds_toArray, List.set_cons_zero, List.set_cons_succ]
            refine wpAnyH_done (by kernel_rfl) ?_ _
            have HE : Hid _ := HF.out
            clear HF hz4
            clear HD d0 d1
            obtain ⟨y0, y1, _, _⟩ := two_cellsQ HE.out.res
            go_wp2
            refine bodyPost_ret (v := .tuple #[.agg #[.int .i64 t, .slice ua um uc], .int .i64 s, .int .i64 z4]) (by simp [results, Try.results15, go_sem, y0, y1]) rfl ?_
            exact ⟨t, s, z4, _, X, rfl, h8, h6, HE.out.rd.reads, HE.out.low⟩
  | true =>
    obtain ⟨w6, hw6⟩ : ∃ w6, w5.alloc (.cells #[.int .i64 (-1), .int .i64 7, .int .i64 8] 2) = w6 := ⟨_, rfl⟩
    have hW6 : Below w5.heap.size w5 w6 := by rw [← hw6]; go_grown
    have HD6 : Hid (CQ w g bs C B t (.slice ua um uc) X w6) := HD5.out.below hW6
    obtain ⟨LB, hLB⟩ : ∃ LB, w5.heap.size = LB := ⟨_, rfl⟩
    have HL6 : Hid (w6.heap[LB]? = some (.cells #[.int .i64 (-1), .int .i64 7, .int .i64 8] 2 (0, 0))) := by
      show w6.heap[LB]? = _
      rw [← hw6, ← hLB]; exact heap_alloc_new w5 _
    have hcl := l1Below g bs 3 (by omega) w6 hl HD6.out.cur
    have hgL : LB ≠ g := by have := HD5.out.cur; obtain ⟨ao, cap, i, x, h1, _⟩ := this; have := (Array.getElem?_eq_some_iff.1 h1).1; omega
    clear HD5
    go_wp2_with fail
    go_at_call 33
    clear hw6 hLB
    refine hcl.mono ?_
    rintro e w7 ⟨x7, rfl, hx70, hx71, -, hc7, hg7⟩
    have hx73 := hx71 (by omega)
    have HD7 : Hid (CQ w g bs C B t (.slice ua um uc) X w7) := HD6.out.draw hc7 hg7 hgw hgB hCg
    have HL7 := (hg7.block LB (Array.getElem?_eq_some_iff.1 HL6.out).1 (fun e => hgL (Option.some.inj e))).trans HL6.out
    obtain ⟨y7, rfl⟩ : ∃ y7 : Nat, x7 = (y7 : Int) := ⟨x7.toNat, by omega⟩
    obtain ⟨z7, hz7⟩ := came_lit3 HL7 (x := y7) (by omega)
    clear hcl hc7 hg7 hx71 HD6 HL6 HL7
    obtain ⟨d0, d1, -, -⟩ := two_cellsQ HD7.out.box
    have HD : Hid (CQ w g bs C B t (.slice ua um uc) X w7) := HD7.out
    clear HD7
    go_wp2_with fail
    refine wp_region_held_drew (S := fun w' => w'.cell? ⟨C, 0, none⟩ = some (.int .i64 t) ∧ w'.cell? ⟨C, 1, none⟩ = some (.slice ua um uc)) (by kernel_rfl) ⟨d0, d1⟩ (fun hHeld => ?_)
    refine wpAnyH_take (i := 0) (oi := ?oirb0) (v := .agg #[.int .i64 t, .slice ua um uc]) ?hirb0 (by kernel_rfl) (by kernel_rfl) (by kernel_rfl) ?hqrb0 ?hyrb0 hHeld ?hrrb0
    case hirb0 =>
      simp only [List.getElem?_toArray, List.getElem?_cons_succ, List.getElem?_cons_zero]
      rfl
    case hqrb0 => exact fun _ _ _ h => h
    case hyrb0 => exact Or.inl ⟨by kernel_rfl, fun w hSw => by obtain ⟨s0, s1⟩ := hSw; go_simp⟩
    try simp only [Act.put, List.setIfInBounds_toArray, List.set_cons_zero, List.set_cons_succ]
    refine wpAnyH_take (i := 1) (oi := ?oirb1) (v := .int .i64 z7) ?hirb1 (by kernel_rfl) (by kernel_rfl) (by kernel_rfl) ?hqrb1 ?hyrb1 hHeld ?hrrb1
    case hirb1 =>
      simp only [List.getElem?_toArray, List.getElem?_cons_succ, List.getElem?_cons_zero]
      rfl
    case hqrb1 => exact fun _ _ _ h => h
    case hyrb1 => exact Or.inl ⟨by kernel_rfl, fun w hSw => by go_simp⟩
    try simp only [Act.put, List.setIfInBounds_toArray, List.set_cons_zero, List.set_cons_succ]
    refine wpAnyH_take (i := 3) (oi := ?oirb3) (v := .pointer (some ⟨g, 0, none⟩)) ?hirb3 (by kernel_rfl) (by kernel_rfl) (by kernel_rfl) ?hqrb3 ?hyrb3 hHeld ?hrrb3
    case hirb3 =>
      simp only [List.getElem?_toArray, List.getElem?_cons_succ, List.getElem?_cons_zero]
      rfl
    case hqrb3 => exact fun _ _ _ h => h
    case hyrb3 => exact Or.inl ⟨by kernel_rfl, fun w hSw => by go_simp⟩
    try simp only [Act.put, List.setIfInBounds_toArray, List.set_cons_zero, List.set_cons_succ]
    refine wpAnyH_ready (rs := [2, 4]) (by kernel_rfl) (by simp) ?_
    refine (AllReadyH.cons (o := ?oorb2) ?horb2 (fun K hK => ?hkrb2) (AllReadyH.cons (o := ?oorb4) ?horb4 (fun K hK => ?hkrb4) AllReadyH.nil))
    case horb2 =>
      simp only [List.getElem?_toArray, List.getElem?_cons_succ, List.getElem?_cons_zero]
      rfl
    case horb4 =>
      simp only [List.getElem?_toArray, List.getElem?_cons_succ, List.getElem?_cons_zero]
      rfl
    case hkrb2 =>
      go_simp
      try go_wp2_with fail
      obtain ⟨wb, hwb⟩ : ∃ Z, (w7.alloc (.cells #[.int .i64 1, .int .i64 5, .int .i64 1000000, .int .i64 1000001, .int .i64 0, .int .i64 9] 2)).drew = Z := ⟨_, rfl⟩
      obtain ⟨LB, hLB⟩ : ∃ LB, w7.heap.size = LB := ⟨_, rfl⟩
      have HLb : Hid (wb.heap[LB]? = some (.cells #[.int .i64 1, .int .i64 5, .int .i64 1000000, .int .i64 1000001, .int .i64 0, .int .i64 9] 2 (0, 0))) := by
        show wb.heap[LB]? = _
        rw [← hwb, ← hLB]; exact heap_alloc_new w7 _
      have HDb : Hid (CQ w g bs C B t (.slice ua um uc) X wb) := by
        show CQ w g bs C B t (.slice ua um uc) X wb
        rw [← hwb]; exact (HD.out.below (Below.alloc (Below.refl _ _) (Nat.le_refl _) _)).drew
      have hLg : LB ≠ g := by have := HD.out.cur; obtain ⟨ao, cap, i, x, h1, _⟩ := this; have := (Array.getElem?_eq_some_iff.1 h1).1; omega
      have hLBw : LB ≠ w.heap.size := by have := HD.out.low.size; have := (Array.getElem?_eq_some_iff.1 HD.out.res).1; omega
      rw [hwb, hLB]
      clear hwb hLB
      refine hK.out _ _ ⟨(two_cellsQ HDb.out.box).1, (two_cellsQ HDb.out.box).2.1⟩ (fun hHeld => ?_)
      clear hK K
      try simp only [Act.put, List.setIfInBounds_toArray, List.set_cons_zero, List.set_cons_succ]
      refine wpAnyH_ready (rs := [4]) (by kernel_rfl) (by simp) ?_
      refine (AllReadyH.cons (o := ?oorba4) ?horba4 (fun K hK => ?hkrba4) AllReadyH.nil)
      case horba4 =>
        simp only [List.getElem?_toArray, List.getElem?_cons_succ, List.getElem?_cons_zero]
        rfl
      case hkrba4 =>
        go_simp
        go_at_call 33
        refine (l1Below g bs 6 (by omega) _ hl HDb.out.cur).mono ?_
        rintro e wz ⟨x40, rfl, hx40, hx41, -, hc4, hg4⟩
        have hx6 := hx41 (by omega)
        obtain ⟨x4, rfl⟩ : ∃ x4 : Nat, x40 = (x4 : Int) := ⟨x40.toNat, by omega⟩
        have HDz : Hid (CQ w g bs C B t (.slice ua um uc) X wz) := HDb.out.draw hc4 hg4 hgw hgB hCg
        have HLB : wz.heap[LB]? = some (.cells #[.int .i64 1, .int .i64 5, .int .i64 1000000, .int .i64 1000001, .int .i64 0, .int .i64 9] 2 (0, 0)) := (hg4.block LB (Array.getElem?_eq_some_iff.1 HLb.out).1 (fun e => hLg (Option.some.inj e))).trans HLb.out
        obtain ⟨z4, hz4⟩ := came_lit HLB (x := x4) (by omega)
        clear hc4 hg4 hx41 HLB HDb HLb
        try go_wp2_with fail
        refine hK.out _ _ ⟨(two_cellsQ HDz.out.box).1, (two_cellsQ HDz.out.box).2.1⟩ (fun hHeld => ?_)
        clear hK K
        try simp only [Act.put, List.setIfInBounds_toArray, List.set_cons_zero, List.set_cons_succ]
        refine wpAnyH_take (i := 5) (oi := ?oirba5) (v := .pointer (some ⟨LB, x4, none⟩)) ?hirba5 (by kernel_rfl) (by kernel_rfl) (by kernel_rfl) ?hqrba5 ?hyrba5 hHeld ?hrrba5
        case hirba5 =>
          simp only [List.getElem?_toArray, List.getElem?_cons_succ, List.getElem?_cons_zero]
          rfl
        case hqrba5 => exact fun _ _ _ h => h
        case hyrba5 => exact Or.inl ⟨by kernel_rfl, fun w hSw => by go_simp⟩
        try simp only [Act.put, List.setIfInBounds_toArray, List.set_cons_zero, List.set_cons_succ]
        refine wpAnyH_ready (rs := [6, 7]) (by kernel_rfl) (by simp) ?_
        refine (AllReadyH.cons (o := ?oorba6) ?horba6 (fun K hK => ?hkrba6) (AllReadyH.cons (o := ?oorba7) ?horba7 (fun K hK => ?hkrba7) AllReadyH.nil))
        case horba6 =>
          simp only [List.getElem?_toArray, List.getElem?_cons_succ, List.getElem?_cons_zero]
          rfl
        case horba7 =>
          simp only [List.getElem?_toArray, List.getElem?_cons_succ, List.getElem?_cons_zero]
          rfl
        case hkrba6 =>
          go_simp
          go_simp
          try go_wp2_with fail
          refine hK.out _ _ ⟨(two_cellsQ HDz.out.box).1, (two_cellsQ HDz.out.box).2.1⟩ (fun hHeld => ?_)
          clear hK K
          try simp only [Act.put, List.setIfInBounds_toArray, List.set_cons_zero, List.set_cons_succ]
          refine wpAnyH_ready (rs := [7]) (by kernel_rfl) (by simp) ?_
          refine (AllReadyH.cons (o := ?oorbaa7) ?horbaa7 (fun K hK => ?hkrbaa7) AllReadyH.nil)
          case horbaa7 =>
            simp only [List.getElem?_toArray, List.getElem?_cons_succ, List.getElem?_cons_zero]
            rfl
          case hkrbaa7 =>
            obtain ⟨r0, r1, q0, q1⟩ := two_cellsQ HDz.out.res
            go_simp
            try go_wp2_with fail
            obtain ⟨we, hwe⟩ : ∃ Z, (wz.setCell ⟨w.heap.size, 0, none⟩ (.int .i64 t)).setCell ⟨w.heap.size, 1, none⟩ (.slice ua um uc) = Z := ⟨_, rfl⟩
            have HE : Hid (EQ w C B t (.slice ua um uc) X we) := by
              show EQ w C B t (.slice ua um uc) X we
              rw [← hwe]; exact HDz.out.put hBw hCw
            rw [hwe]
            clear hwe r0 r1 q0 q1
            refine hK.out _ _ ⟨(two_cellsQ HE.out.box).1, (two_cellsQ HE.out.box).2.1⟩ (fun hHeld => ?_)
            clear hK K
            try simp only [Act.put, List.setIfInBounds_toArray, List.set_cons_zero, List.set_cons_succ]
            refine wpAnyH_take (i := 8) (oi := ?oirbaa8) (v := .int .i64 z7) ?hirbaa8 (by kernel_rfl) (by kernel_rfl) (by kernel_rfl) ?hqrbaa8 ?hyrbaa8 hHeld ?hrrbaa8
            case hirbaa8 =>
              simp only [List.getElem?_toArray, List.getElem?_cons_succ, List.getElem?_cons_zero]
              rfl
            case hqrbaa8 => exact fun _ _ _ h => h
            case hyrbaa8 => exact Or.inl ⟨by kernel_rfl, fun w hSw => by go_simp⟩
            try simp only [Act.put, List.setIfInBounds_toArray, List.set_cons_zero, List.set_cons_succ]
            refine wpAnyH_take (i := 9) (oi := ?oirbaa9) (v := .int .i64 z4) ?hirbaa9 (by kernel_rfl) (by kernel_rfl) (by kernel_rfl) ?hqrbaa9 ?hyrbaa9 hHeld ?hrrbaa9
            case hirbaa9 =>
              simp only [List.getElem?_toArray, List.getElem?_cons_succ, List.getElem?_cons_zero]
              rfl
            case hqrbaa9 => exact fun _ _ _ h => h
            case hyrbaa9 => exact Or.inl ⟨by kernel_rfl, fun w hSw => by go_simp⟩
            try simp only [Act.put, List.setIfInBounds_toArray, List.set_cons_zero, List.set_cons_succ]
            refine wpAnyH_done (by kernel_rfl) ?_ _
            clear hz4
            clear HD d0 d1
            obtain ⟨y0, y1, _, _⟩ := two_cellsQ HE.out.res
            go_wp2
            refine bodyPost_ret (v := .tuple #[.agg #[.int .i64 t, .slice ua um uc], .int .i64 z7, .int .i64 z4]) (by simp [results, Try.results15, go_sem, y0, y1]) rfl ?_
            exact ⟨t, z7, z4, _, X, rfl, h8, h6, HE.out.rd.reads, HE.out.low⟩
        case hkrba7 =>
          obtain ⟨r0, r1, q0, q1⟩ := two_cellsQ HDz.out.res
          go_simp
          try go_wp2_with fail
          obtain ⟨we, hwe⟩ : ∃ Z, (wz.setCell ⟨w.heap.size, 0, none⟩ (.int .i64 t)).setCell ⟨w.heap.size, 1, none⟩ (.slice ua um uc) = Z := ⟨_, rfl⟩
          have HE : Hid (EQ w C B t (.slice ua um uc) X we) := by
            show EQ w C B t (.slice ua um uc) X we
            rw [← hwe]; exact HDz.out.put hBw hCw
          have hz5 : we.cell? ⟨LB, x4, none⟩ = some (.int .i64 z4) := by rw [← hwe]; exact (World.cell?_of_block (set2_other hLBw)).trans hz4
          clear hz4
          rw [hwe]
          clear hwe r0 r1 q0 q1
          refine hK.out _ _ ⟨(two_cellsQ HE.out.box).1, (two_cellsQ HE.out.box).2.1⟩ (fun hHeld => ?_)
          clear hK K
          try simp only [Act.put, List.setIfInBounds_toArray, List.set_cons_zero, List.set_cons_succ]
          refine wpAnyH_take (i := 8) (oi := ?oirbab8) (v := .int .i64 z7) ?hirbab8 (by kernel_rfl) (by kernel_rfl) (by kernel_rfl) ?hqrbab8 ?hyrbab8 hHeld ?hrrbab8
          case hirbab8 =>
            simp only [List.getElem?_toArray, List.getElem?_cons_succ, List.getElem?_cons_zero]
            rfl
          case hqrbab8 => exact fun _ _ _ h => h
          case hyrbab8 => exact Or.inl ⟨by kernel_rfl, fun w hSw => by go_simp⟩
          try simp only [Act.put, List.setIfInBounds_toArray, List.set_cons_zero, List.set_cons_succ]
          refine wpAnyH_ready (rs := [6]) (by kernel_rfl) (by simp) ?_
          refine (AllReadyH.cons (o := ?oorbab6) ?horbab6 (fun K hK => ?hkrbab6) AllReadyH.nil)
          case horbab6 =>
            simp only [List.getElem?_toArray, List.getElem?_cons_succ, List.getElem?_cons_zero]
            rfl
          case hkrbab6 =>
            go_simp
            go_simp
            try go_wp2_with fail
            refine hK.out _ _ ⟨(two_cellsQ HE.out.box).1, (two_cellsQ HE.out.box).2.1⟩ (fun hHeld => ?_)
            clear hK K
            try simp only [Act.put, List.setIfInBounds_toArray, List.set_cons_zero, List.set_cons_succ]
            refine wpAnyH_take (i := 9) (oi := ?oirbab9) (v := .int .i64 z4) ?hirbab9 (by kernel_rfl) (by kernel_rfl) (by kernel_rfl) ?hqrbab9 ?hyrbab9 hHeld ?hrrbab9
            case hirbab9 =>
              simp only [List.getElem?_toArray, List.getElem?_cons_succ, List.getElem?_cons_zero]
              rfl
            case hqrbab9 => exact fun _ _ _ h => h
            case hyrbab9 => exact Or.inl ⟨by kernel_rfl, fun w hSw => by go_simp⟩
            try simp only [Act.put, List.setIfInBounds_toArray, List.set_cons_zero, List.set_cons_succ]
            refine wpAnyH_done (by kernel_rfl) ?_ _
            clear hz5
            clear HD d0 d1
            obtain ⟨y0, y1, _, _⟩ := two_cellsQ HE.out.res
            go_wp2
            refine bodyPost_ret (v := .tuple #[.agg #[.int .i64 t, .slice ua um uc], .int .i64 z7, .int .i64 z4]) (by simp [results, Try.results15, go_sem, y0, y1]) rfl ?_
            exact ⟨t, z7, z4, _, X, rfl, h8, h6, HE.out.rd.reads, HE.out.low⟩
    case hkrb4 =>
      go_simp
      go_at_call 33
      refine (l1Below g bs 6 (by omega) _ hl HD.out.drew.cur).mono ?_
      rintro e wc ⟨x40, rfl, hx40, hx41, -, hc4, hg4⟩
      have hx6 := hx41 (by omega)
      obtain ⟨x4, rfl⟩ : ∃ x4 : Nat, x40 = (x4 : Int) := ⟨x40.toNat, by omega⟩
      have HDc : Hid (CQ w g bs C B t (.slice ua um uc) X wc) := HD.out.drew.draw hc4 hg4 hgw hgB hCg
      clear hc4 hg4 hx41
      try go_wp2_with fail
      refine hK.out _ _ ⟨(two_cellsQ HDc.out.box).1, (two_cellsQ HDc.out.box).2.1⟩ (fun hHeld => ?_)
      clear hK K
      try simp only [Act.put, List.setIfInBounds_toArray, List.set_cons_zero, List.set_cons_succ]
      refine wpAnyH_ready (rs := [2, 7]) (by kernel_rfl) (by simp) ?_
      refine (AllReadyH.cons (o := ?oorbb2) ?horbb2 (fun K hK => ?hkrbb2) (AllReadyH.cons (o := ?oorbb7) ?horbb7 (fun K hK => ?hkrbb7) AllReadyH.nil))
      case horbb2 =>
        simp only [List.getElem?_toArray, List.getElem?_cons_succ, List.getElem?_cons_zero]
        rfl
      case horbb7 =>
        simp only [List.getElem?_toArray, List.getElem?_cons_succ, List.getElem?_cons_zero]
        rfl
      case hkrbb2 =>
        go_simp
        try go_wp2_with fail
        obtain ⟨wz, hwz⟩ : ∃ Z, wc.alloc (.cells #[.int .i64 1, .int .i64 5, .int .i64 1000000, .int .i64 1000001, .int .i64 0, .int .i64 9] 2) = Z := ⟨_, rfl⟩
        obtain ⟨LB, hLB⟩ : ∃ LB, wc.heap.size = LB := ⟨_, rfl⟩
        have HLB : wz.heap[LB]? = some (.cells #[.int .i64 1, .int .i64 5, .int .i64 1000000, .int .i64 1000001, .int .i64 0, .int .i64 9] 2 (0, 0)) := by rw [← hwz, ← hLB]; exact heap_alloc_new wc _
        have Bb : Below wc.heap.size wc wz := by rw [← hwz]; exact Below.alloc (Below.refl _ _) (Nat.le_refl _) _
        have HDz : Hid (CQ w g bs C B t (.slice ua um uc) X wz) := HDc.out.below Bb
        obtain ⟨z4, hz4⟩ := came_lit HLB (x := x4) (by omega)
        have hLBw : LB ≠ w.heap.size := by have := (Array.getElem?_eq_some_iff.1 HDc.out.res).1; omega
        rw [hwz, hLB]
        clear hwz hLB HLB Bb HDc
        refine hK.out _ _ ⟨(two_cellsQ HDz.out.box).1, (two_cellsQ HDz.out.box).2.1⟩ (fun hHeld => ?_)
        clear hK K
        try simp only [Act.put, List.setIfInBounds_toArray, List.set_cons_zero, List.set_cons_succ]
        refine wpAnyH_take (i := 5) (oi := ?oirbba5) (v := .pointer (some ⟨LB, x4, none⟩)) ?hirbba5 (by kernel_rfl) (by kernel_rfl) (by kernel_rfl) ?hqrbba5 ?hyrbba5 hHeld ?hrrbba5
        case hirbba5 =>
          simp only [List.getElem?_toArray, List.getElem?_cons_succ, List.getElem?_cons_zero]
          rfl
        case hqrbba5 => exact fun _ _ _ h => h
        case hyrbba5 => exact Or.inl ⟨by kernel_rfl, fun w hSw => by go_simp⟩
        try simp only [Act.put, List.setIfInBounds_toArray, List.set_cons_zero, List.set_cons_succ]
        refine wpAnyH_ready (rs := [6, 7]) (by kernel_rfl) (by simp) ?_
        refine (AllReadyH.cons (o := ?oorbba6) ?horbba6 (fun K hK => ?hkrbba6) (AllReadyH.cons (o := ?oorbba7) ?horbba7 (fun K hK => ?hkrbba7) AllReadyH.nil))
        case horbba6 =>
          simp only [List.getElem?_toArray, List.getElem?_cons_succ, List.getElem?_cons_zero]
          rfl
        case horbba7 =>
          simp only [List.getElem?_toArray, List.getElem?_cons_succ, List.getElem?_cons_zero]
          rfl
        case hkrbba6 =>
          go_simp
          go_simp
          try go_wp2_with fail
          refine hK.out _ _ ⟨(two_cellsQ HDz.out.box).1, (two_cellsQ HDz.out.box).2.1⟩ (fun hHeld => ?_)
          clear hK K
          try simp only [Act.put, List.setIfInBounds_toArray, List.set_cons_zero, List.set_cons_succ]
          refine wpAnyH_ready (rs := [7]) (by kernel_rfl) (by simp) ?_
          refine (AllReadyH.cons (o := ?oorbbaa7) ?horbbaa7 (fun K hK => ?hkrbbaa7) AllReadyH.nil)
          case horbbaa7 =>
            simp only [List.getElem?_toArray, List.getElem?_cons_succ, List.getElem?_cons_zero]
            rfl
          case hkrbbaa7 =>
            obtain ⟨r0, r1, q0, q1⟩ := two_cellsQ HDz.out.res
            go_simp
            try go_wp2_with fail
            obtain ⟨we, hwe⟩ : ∃ Z, (wz.setCell ⟨w.heap.size, 0, none⟩ (.int .i64 t)).setCell ⟨w.heap.size, 1, none⟩ (.slice ua um uc) = Z := ⟨_, rfl⟩
            have HE : Hid (EQ w C B t (.slice ua um uc) X we) := by
              show EQ w C B t (.slice ua um uc) X we
              rw [← hwe]; exact HDz.out.put hBw hCw
            rw [hwe]
            clear hwe r0 r1 q0 q1
            refine hK.out _ _ ⟨(two_cellsQ HE.out.box).1, (two_cellsQ HE.out.box).2.1⟩ (fun hHeld => ?_)
            clear hK K
            try simp only [Act.put, List.setIfInBounds_toArray, List.set_cons_zero, List.set_cons_succ]
            refine wpAnyH_take (i := 8) (oi := ?oirbbaa8) (v := .int .i64 z7) ?hirbbaa8 (by kernel_rfl) (by kernel_rfl) (by kernel_rfl) ?hqrbbaa8 ?hyrbbaa8 hHeld ?hrrbbaa8
            case hirbbaa8 =>
              simp only [List.getElem?_toArray, List.getElem?_cons_succ, List.getElem?_cons_zero]
              rfl
            case hqrbbaa8 => exact fun _ _ _ h => h
            case hyrbbaa8 => exact Or.inl ⟨by kernel_rfl, fun w hSw => by go_simp⟩
            try simp only [Act.put, List.setIfInBounds_toArray, List.set_cons_zero, List.set_cons_succ]
            refine wpAnyH_take (i := 9) (oi := ?oirbbaa9) (v := .int .i64 z4) ?hirbbaa9 (by kernel_rfl) (by kernel_rfl) (by kernel_rfl) ?hqrbbaa9 ?hyrbbaa9 hHeld ?hrrbbaa9
            case hirbbaa9 =>
              simp only [List.getElem?_toArray, List.getElem?_cons_succ, List.getElem?_cons_zero]
              rfl
            case hqrbbaa9 => exact fun _ _ _ h => h
            case hyrbbaa9 => exact Or.inl ⟨by kernel_rfl, fun w hSw => by go_simp⟩
            try simp only [Act.put, List.setIfInBounds_toArray, List.set_cons_zero, List.set_cons_succ]
            refine wpAnyH_done (by kernel_rfl) ?_ _
            clear hz4
            clear HD d0 d1
            obtain ⟨y0, y1, _, _⟩ := two_cellsQ HE.out.res
            go_wp2
            refine bodyPost_ret (v := .tuple #[.agg #[.int .i64 t, .slice ua um uc], .int .i64 z7, .int .i64 z4]) (by simp [results, Try.results15, go_sem, y0, y1]) rfl ?_
            exact ⟨t, z7, z4, _, X, rfl, h8, h6, HE.out.rd.reads, HE.out.low⟩
        case hkrbba7 =>
          obtain ⟨r0, r1, q0, q1⟩ := two_cellsQ HDz.out.res
          go_simp
          try go_wp2_with fail
          obtain ⟨we, hwe⟩ : ∃ Z, (wz.setCell ⟨w.heap.size, 0, none⟩ (.int .i64 t)).setCell ⟨w.heap.size, 1, none⟩ (.slice ua um uc) = Z := ⟨_, rfl⟩
          have HE : Hid (EQ w C B t (.slice ua um uc) X we) := by
            show EQ w C B t (.slice ua um uc) X we
            rw [← hwe]; exact HDz.out.put hBw hCw
          have hz5 : we.cell? ⟨LB, x4, none⟩ = some (.int .i64 z4) := by rw [← hwe]; exact (World.cell?_of_block (set2_other hLBw)).trans hz4
          clear hz4
          rw [hwe]
          clear hwe r0 r1 q0 q1
          refine hK.out _ _ ⟨(two_cellsQ HE.out.box).1, (two_cellsQ HE.out.box).2.1⟩ (fun hHeld => ?_)
          clear hK K
          try simp only [Act.put, List.setIfInBounds_toArray, List.set_cons_zero, List.set_cons_succ]
          refine wpAnyH_take (i := 8) (oi := ?oirbbab8) (v := .int .i64 z7) ?hirbbab8 (by kernel_rfl) (by kernel_rfl) (by kernel_rfl) ?hqrbbab8 ?hyrbbab8 hHeld ?hrrbbab8
          case hirbbab8 =>
            simp only [List.getElem?_toArray, List.getElem?_cons_succ, List.getElem?_cons_zero]
            rfl
          case hqrbbab8 => exact fun _ _ _ h => h
          case hyrbbab8 => exact Or.inl ⟨by kernel_rfl, fun w hSw => by go_simp⟩
          try simp only [Act.put, List.setIfInBounds_toArray, List.set_cons_zero, List.set_cons_succ]
          refine wpAnyH_ready (rs := [6]) (by kernel_rfl) (by simp) ?_
          refine (AllReadyH.cons (o := ?oorbbab6) ?horbbab6 (fun K hK => ?hkrbbab6) AllReadyH.nil)
          case horbbab6 =>
            simp only [List.getElem?_toArray, List.getElem?_cons_succ, List.getElem?_cons_zero]
            rfl
          case hkrbbab6 =>
            go_simp
            go_simp
            try go_wp2_with fail
            refine hK.out _ _ ⟨(two_cellsQ HE.out.box).1, (two_cellsQ HE.out.box).2.1⟩ (fun hHeld => ?_)
            clear hK K
            try simp only [Act.put, List.setIfInBounds_toArray, List.set_cons_zero, List.set_cons_succ]
            refine wpAnyH_take (i := 9) (oi := ?oirbbab9) (v := .int .i64 z4) ?hirbbab9 (by kernel_rfl) (by kernel_rfl) (by kernel_rfl) ?hqrbbab9 ?hyrbbab9 hHeld ?hrrbbab9
            case hirbbab9 =>
              simp only [List.getElem?_toArray, List.getElem?_cons_succ, List.getElem?_cons_zero]
              rfl
            case hqrbbab9 => exact fun _ _ _ h => h
            case hyrbbab9 => exact Or.inl ⟨by kernel_rfl, fun w hSw => by go_simp⟩
            try simp only [Act.put, List.setIfInBounds_toArray, List.set_cons_zero, List.set_cons_succ]
            refine wpAnyH_done (by kernel_rfl) ?_ _
            clear hz5
            clear HD d0 d1
            obtain ⟨y0, y1, _, _⟩ := two_cellsQ HE.out.res
            go_wp2
            refine bodyPost_ret (v := .tuple #[.agg #[.int .i64 t, .slice ua um uc], .int .i64 z7, .int .i64 z4]) (by simp [results, Try.results15, go_sem, y0, y1]) rfl ?_
            exact ⟨t, z7, z4, _, X, rfl, h8, h6, HE.out.rd.reads, HE.out.low⟩
      case hkrbb7 =>
        obtain ⟨r0, r1, q0, q1⟩ := two_cellsQ HDc.out.res
        go_simp
        try go_wp2_with fail
        obtain ⟨we, hwe⟩ : ∃ Z, (wc.setCell ⟨w.heap.size, 0, none⟩ (.int .i64 t)).setCell ⟨w.heap.size, 1, none⟩ (.slice ua um uc) = Z := ⟨_, rfl⟩
        have HE : Hid (EQ w C B t (.slice ua um uc) X we) := by
          show EQ w C B t (.slice ua um uc) X we
          rw [← hwe]; exact HDc.out.put hBw hCw
        rw [hwe]
        clear hwe r0 r1 q0 q1 HDc
        refine hK.out _ _ ⟨(two_cellsQ HE.out.box).1, (two_cellsQ HE.out.box).2.1⟩ (fun hHeld => ?_)
        clear hK K
        try simp only [Act.put, List.setIfInBounds_toArray, List.set_cons_zero, List.set_cons_succ]
        refine wpAnyH_take (i := 8) (oi := ?oirbbb8) (v := .int .i64 z7) ?hirbbb8 (by kernel_rfl) (by kernel_rfl) (by kernel_rfl) ?hqrbbb8 ?hyrbbb8 hHeld ?hrrbbb8
        case hirbbb8 =>
          simp only [List.getElem?_toArray, List.getElem?_cons_succ, List.getElem?_cons_zero]
          rfl
        case hqrbbb8 => exact fun _ _ _ h => h
        case hyrbbb8 => exact Or.inl ⟨by kernel_rfl, fun w hSw => by go_simp⟩
        try simp only [Act.put, List.setIfInBounds_toArray, List.set_cons_zero, List.set_cons_succ]
        refine wpAnyH_ready (rs := [2]) (by kernel_rfl) (by simp) ?_
        refine (AllReadyH.cons (o := ?oorbbb2) ?horbbb2 (fun K hK => ?hkrbbb2) AllReadyH.nil)
        case horbbb2 =>
          simp only [List.getElem?_toArray, List.getElem?_cons_succ, List.getElem?_cons_zero]
          rfl
        case hkrbbb2 =>
          go_simp
          try go_wp2_with fail
          obtain ⟨wf, hwf⟩ : ∃ Z, we.alloc (.cells #[.int .i64 1, .int .i64 5, .int .i64 1000000, .int .i64 1000001, .int .i64 0, .int .i64 9] 2) = Z := ⟨_, rfl⟩
          obtain ⟨LB, hLB⟩ : ∃ LB, we.heap.size = LB := ⟨_, rfl⟩
          have HLB : wf.heap[LB]? = some (.cells #[.int .i64 1, .int .i64 5, .int .i64 1000000, .int .i64 1000001, .int .i64 0, .int .i64 9] 2 (0, 0)) := by rw [← hwf, ← hLB]; exact heap_alloc_new we _
          have Bb : Below we.heap.size we wf := by rw [← hwf]; exact Below.alloc (Below.refl _ _) (Nat.le_refl _) _
          have HF : Hid (EQ w C B t (.slice ua um uc) X wf) := HE.out.below Bb
          obtain ⟨z4, hz4⟩ := came_lit HLB (x := x4) (by omega)
          rw [hwf, hLB]
          clear hwf hLB HLB Bb HE
          refine hK.out _ _ ⟨(two_cellsQ HF.out.box).1, (two_cellsQ HF.out.box).2.1⟩ (fun hHeld => ?_)
          clear hK K
          try simp only [Act.put, List.setIfInBounds_toArray, List.set_cons_zero, List.set_cons_succ]
          refine wpAnyH_take (i := 5) (oi := ?oirbbb5) (v := .pointer (some ⟨LB, x4, none⟩)) ?hirbbb5 (by kernel_rfl) (by kernel_rfl) (by kernel_rfl) ?hqrbbb5 ?hyrbbb5 hHeld ?hrrbbb5
          case hirbbb5 =>
            simp only [List.getElem?_toArray, List.getElem?_cons_succ, List.getElem?_cons_zero]
            rfl
          case hqrbbb5 => exact fun _ _ _ h => h
          case hyrbbb5 => exact Or.inl ⟨by kernel_rfl, fun w hSw => by go_simp⟩
          try simp only [Act.put, List.setIfInBounds_toArray, List.set_cons_zero, List.set_cons_succ]
          refine wpAnyH_ready (rs := [6]) (by kernel_rfl) (by simp) ?_
          refine (AllReadyH.cons (o := ?oorbbb6) ?horbbb6 (fun K hK => ?hkrbbb6) AllReadyH.nil)
          case horbbb6 =>
            simp only [List.getElem?_toArray, List.getElem?_cons_succ, List.getElem?_cons_zero]
            rfl
          case hkrbbb6 =>
            go_simp
            go_simp
            try go_wp2_with fail
            refine hK.out _ _ ⟨(two_cellsQ HF.out.box).1, (two_cellsQ HF.out.box).2.1⟩ (fun hHeld => ?_)
            clear hK K
            try simp only [Act.put, List.setIfInBounds_toArray, List.set_cons_zero, List.set_cons_succ]
            refine wpAnyH_take (i := 9) (oi := ?oirbbb9) (v := .int .i64 z4) ?hirbbb9 (by kernel_rfl) (by kernel_rfl) (by kernel_rfl) ?hqrbbb9 ?hyrbbb9 hHeld ?hrrbbb9
            case hirbbb9 =>
              simp only [List.getElem?_toArray, List.getElem?_cons_succ, List.getElem?_cons_zero]
              rfl
            case hqrbbb9 => exact fun _ _ _ h => h
            case hyrbbb9 => exact Or.inl ⟨by kernel_rfl, fun w hSw => by go_simp⟩
            try simp only [Act.put, List.setIfInBounds_toArray, List.set_cons_zero, List.set_cons_succ]
            refine wpAnyH_done (by kernel_rfl) ?_ _
            have HE : Hid _ := HF.out
            clear HF hz4
            clear HD d0 d1
            obtain ⟨y0, y1, _, _⟩ := two_cellsQ HE.out.res
            go_wp2
            refine bodyPost_ret (v := .tuple #[.agg #[.int .i64 t, .slice ua um uc], .int .i64 z7, .int .i64 z4]) (by simp [results, Try.results15, go_sem, y0, y1]) rfl ?_
            exact ⟨t, z7, z4, _, X, rfl, h8, h6, HE.out.rd.reads, HE.out.low⟩

end Go.Proofs.Ytjlpjjddnkceoaa
