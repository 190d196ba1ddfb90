/-
  Chapter 13: what Undone answers; slices.Contains over statements; impl.comesBack; impl.Undone, spec.Undone.
-/
import Derived.Test.YtoflfeegllpifaaG24OpenEdit
import Derived.BigRegion
namespace Go.Proofs.Ytoflfeegllpifaa
open Go.RowKit
set_option linter.unusedVariables false
set_option linter.unusedSimpArgs false
set_option maxHeartbeats 4000000
set_option maxRecDepth 20000

def eqSt (a b : Stm) : Bool := decide (a.k = b.k) && decide (a.x = b.x) && decide (a.y = b.y)

theorem sliceIndexS (p : List Stm) (t : Stm) (v : Value) (w : World) (hl : p.length ≤ 100) (hv : Reads3 w v p) :
    Calls Try.prog 62 #[v, .agg #[.int .i64 t.k, .int .i64 t.x, .int .i64 t.y]] w fun e w' => ∃ r : Int, e = .returned (.int .i64 r) ∧ decide (0 ≤ r) = p.any (eqSt t) ∧ -1 ≤ r ∧ r ≤ 9223372036854775807 ∧ Below w.heap.size w w' := by
  obtain ⟨ao, cap, rfl, hc⟩ := hv
  obtain ⟨B, hB⟩ : ∃ B, p.any (eqSt t) = B := ⟨_, rfl⟩
  rw [hB]
  have HB : Hid (p.any (eqSt t) = B) := hB
  clear hB
  obtain ⟨tk, tx, ty⟩ := t
  simp only
  have b0 : Below w.heap.size w (w.alloc (.cells #[.int .i64 tk, .int .i64 tx, .int .i64 ty] 37)) := by go_grown
  have HNB := heap_alloc_new w (.cells #[.int .i64 tk, .int .i64 tx, .int .i64 ty] 37)
  go_enter Try.func62, Try.ntmps62
  go_wp2_with fail
  go_loopw [8] (fun i wr => ∃ j : Nat, j ≤ p.length ∧ i = .int .i64 j ∧ Below w.heap.size w wr ∧ wr.heap[w.heap.size]? = some (.cells #[.int .i64 tk, .int .i64 tx, .int .i64 ty] 37 (0, 0)) ∧ (p.take j).any (eqSt ⟨tk, tx, ty⟩) = false) (fun i _ => p.length - (intOf i).toNat)
  case atStart => exact ⟨0, Nat.zero_le _, rfl, b0, HNB, rfl⟩
  case round =>
    obtain ⟨j, hj, rfl, hb, hblk, hno⟩ := hrel
    have HNO : Hid _ := hno
    have HBB : Hid (Below w.heap.size w wr) := hb
    have HBK : Hid (wr.heap[w.heap.size]? = some (.cells #[.int .i64 tk, .int .i64 tx, .int .i64 ty] 37 (0, 0))) := hblk
    clear hno b0 HNB
    by_cases hlt : j < p.length
    · have hlt' : (j : Int) < (p.length : Int) := by omega
      obtain ⟨g, off, rfl, r0, r1, r2⟩ := hc j p[j] (by simp)
      have z1 := World.block_lt_of_cell? w _ r0
      have r0 := (hb.cell (p := ⟨g, off + j * 3, none⟩) z1).trans r0
      have r1 := (hb.cell (p := ⟨g, off + j * 3 + 1, none⟩) z1).trans r1
      have r2 := (hb.cell (p := ⟨g, off + j * 3 + 2, none⟩) z1).trans r2
      have n0 : wr.cell? ⟨w.heap.size, 0, none⟩ = some (.int .i64 tk) := by simp [World.cell?, hblk]
      have n1 : wr.cell? ⟨w.heap.size, 1, none⟩ = some (.int .i64 tx) := by simp [World.cell?, hblk]
      have n2 : wr.cell? ⟨w.heap.size, 2, none⟩ = some (.int .i64 ty) := by simp [World.cell?, hblk]
      have H1 : Hid ((p.take (j + 1)).any (eqSt ⟨tk, tx, ty⟩) = eqSt ⟨tk, tx, ty⟩ p[j]) := by
        show _ = _
        rw [List.take_succ_eq_append_getElem hlt, List.any_append, HNO.out]
        simp
      have H2 : Hid (eqSt ⟨tk, tx, ty⟩ p[j] = true → p.any (eqSt ⟨tk, tx, ty⟩) = true) := fun h => List.any_eq_true.2 ⟨p[j], List.getElem_mem hlt, h⟩
      clear hc hb hblk
      generalize p[j] = s at *
      obtain ⟨sk, sx, sy⟩ := s
      simp only at r0 r1 r2
      by_cases hx : sk = tk ∧ sx = tx ∧ sy = ty
      · have H4 : Hid (B = true) := HB.out.symm.trans (H2.out (by unfold eqSt; simp [hx.1, hx.2.1, hx.2.2]))
        obtain ⟨ha, hb, hc⟩ := hx
        subst ha hb hc
        clear H1 H2
        go_wp2_with fail
        refine wp_region_held_drew (S := fun w' => (w'.cell? ⟨w.heap.size, 0, none⟩ = some (.int .i64 sk) ∧ w'.cell? ⟨w.heap.size, 1, none⟩ = some (.int .i64 sx) ∧ w'.cell? ⟨w.heap.size, 2, none⟩ = some (.int .i64 sy)) ∧ w'.cell? ⟨g, off + j * 3, none⟩ = some (.int .i64 sk) ∧ w'.cell? ⟨g, off + j * 3 + 1, none⟩ = some (.int .i64 sx) ∧ w'.cell? ⟨g, off + j * 3 + 2, none⟩ = some (.int .i64 sy)) (by kernel_rfl) ⟨⟨n0, n1, n2⟩, r0, r1, r2⟩ (fun hHeld => ?_)
        refine wpAnyH_take (i := 0) (oi := ?oiia0) (v := .agg #[.int .i64 sk, .int .i64 sx, .int .i64 sy]) ?hiia0 (by kernel_rfl) (by kernel_rfl) (by kernel_rfl) ?hqia0 ?hyia0 hHeld ?hria0
        case hiia0 =>
          simp only [List.getElem?_toArray, List.getElem?_cons_succ, List.getElem?_cons_zero]
          rfl
        case hqia0 => exact fun _ _ _ h => h
        case hyia0 => exact Or.inl ⟨by kernel_rfl, fun w hSw => by obtain ⟨⟨s1, s2, s3⟩, s4, s5, s6⟩ := hSw; go_simp⟩
        try simp only [Act.put, List.setIfInBounds_toArray, List.set_cons_zero, List.set_cons_succ]
        refine wpAnyH_take (i := 1) (oi := ?oiia1) (v := .slice (some ⟨g, off, none⟩) p.length cap) ?hiia1 (by kernel_rfl) (by kernel_rfl) (by kernel_rfl) ?hqia1 ?hyia1 hHeld ?hria1
        case hiia1 =>
          simp only [List.getElem?_toArray, List.getElem?_cons_succ, List.getElem?_cons_zero]
          rfl
        case hqia1 => exact fun _ _ _ h => h
        case hyia1 => exact Or.inl ⟨by kernel_rfl, fun w hSw => by go_simp⟩
        try simp only [Act.put, List.setIfInBounds_toArray, List.set_cons_zero, List.set_cons_succ]
        refine wpAnyH_take (i := 2) (oi := ?oiia2) (v := .int .i64 (j : Int)) ?hiia2 (by kernel_rfl) (by kernel_rfl) (by kernel_rfl) ?hqia2 ?hyia2 hHeld ?hria2
        case hiia2 =>
          simp only [List.getElem?_toArray, List.getElem?_cons_succ, List.getElem?_cons_zero]
          rfl
        case hqia2 => exact fun _ _ _ h => h
        case hyia2 => exact Or.inl ⟨by kernel_rfl, fun w hSw => by go_simp⟩
        try simp only [Act.put, List.setIfInBounds_toArray, List.set_cons_zero, List.set_cons_succ]
        refine wpAnyH_take (i := 3) (oi := ?oiia3) (v := .pointer (some ⟨g, off + j * 3, none⟩)) ?hiia3 (by kernel_rfl) (by kernel_rfl) (by kernel_rfl) ?hqia3 ?hyia3 hHeld ?hria3
        case hiia3 =>
          simp only [List.getElem?_toArray, List.getElem?_cons_succ, List.getElem?_cons_zero]
          rfl
        case hqia3 => exact fun _ _ _ h => h
        case hyia3 => exact Or.inl ⟨by kernel_rfl, fun w hSw => by go_simp⟩
        try simp only [Act.put, List.setIfInBounds_toArray, List.set_cons_zero, List.set_cons_succ]
        refine wpAnyH_take (i := 4) (oi := ?oiia4) (v := .agg #[.int .i64 sk, .int .i64 sx, .int .i64 sy]) ?hiia4 (by kernel_rfl) (by kernel_rfl) (by kernel_rfl) ?hqia4 ?hyia4 hHeld ?hria4
        case hiia4 =>
          simp only [List.getElem?_toArray, List.getElem?_cons_succ, List.getElem?_cons_zero]
          rfl
        case hqia4 => exact fun _ _ _ h => h
        case hyia4 => exact Or.inl ⟨by kernel_rfl, fun w hSw => by obtain ⟨⟨s1, s2, s3⟩, s4, s5, s6⟩ := hSw; go_simp⟩
        try simp only [Act.put, List.setIfInBounds_toArray, List.set_cons_zero, List.set_cons_succ]
        refine wpAnyH_take (i := 5) (oi := ?oiia5) (v := .bool true) ?hiia5 (by kernel_rfl) (by kernel_rfl) (by kernel_rfl) ?hqia5 ?hyia5 hHeld ?hria5
        case hiia5 =>
          simp only [List.getElem?_toArray, List.getElem?_cons_succ, List.getElem?_cons_zero]
          rfl
        case hqia5 => exact fun _ _ _ h => h
        case hyia5 => exact Or.inl ⟨by kernel_rfl, fun w hSw => by go_simp⟩
        try simp only [Act.put, List.setIfInBounds_toArray, List.set_cons_zero, List.set_cons_succ]
        refine wpAnyH_done (by kernel_rfl) ?_ _
        go_wp2
        go_ret
        exact ⟨j, rfl, by rw [H4.out]; simp, by omega, by omega, Below.drew HBB.out⟩
      · have H3 : Hid ((p.take (j + 1)).any (eqSt ⟨tk, tx, ty⟩) = false) := by
          show _ = _
          rw [H1.out]
          unfold eqSt
          simp only
          rw [Bool.eq_false_iff]
          intro h
          simp only [Bool.and_eq_true, decide_eq_true_eq] at h
          exact hx ⟨h.1.1.symm, h.1.2.symm, h.2.symm⟩
        have HX : Hid (¬ (sk = tk ∧ sx = tx ∧ sy = ty)) := hx
        clear H1 H2 hx
        go_wp2_with fail
        refine wp_region_held_drew (S := fun w' => (w'.cell? ⟨w.heap.size, 0, none⟩ = some (.int .i64 tk) ∧ w'.cell? ⟨w.heap.size, 1, none⟩ = some (.int .i64 tx) ∧ w'.cell? ⟨w.heap.size, 2, none⟩ = some (.int .i64 ty)) ∧ w'.cell? ⟨g, off + j * 3, none⟩ = some (.int .i64 sk) ∧ w'.cell? ⟨g, off + j * 3 + 1, none⟩ = some (.int .i64 sx) ∧ w'.cell? ⟨g, off + j * 3 + 2, none⟩ = some (.int .i64 sy)) (by kernel_rfl) ⟨⟨n0, n1, n2⟩, r0, r1, r2⟩ (fun hHeld => ?_)
        refine wpAnyH_take (i := 0) (oi := ?oiib0) (v := .agg #[.int .i64 tk, .int .i64 tx, .int .i64 ty]) ?hiib0 (by kernel_rfl) (by kernel_rfl) (by kernel_rfl) ?hqib0 ?hyib0 hHeld ?hrib0
        case hiib0 =>
          simp only [List.getElem?_toArray, List.getElem?_cons_succ, List.getElem?_cons_zero]
          rfl
        case hqib0 => exact fun _ _ _ h => h
        case hyib0 => exact Or.inl ⟨by kernel_rfl, fun w hSw => by obtain ⟨⟨s1, s2, s3⟩, s4, s5, s6⟩ := hSw; go_simp⟩
        try simp only [Act.put, List.setIfInBounds_toArray, List.set_cons_zero, List.set_cons_succ]
        refine wpAnyH_take (i := 1) (oi := ?oiib1) (v := .slice (some ⟨g, off, none⟩) p.length cap) ?hiib1 (by kernel_rfl) (by kernel_rfl) (by kernel_rfl) ?hqib1 ?hyib1 hHeld ?hrib1
        case hiib1 =>
          simp only [List.getElem?_toArray, List.getElem?_cons_succ, List.getElem?_cons_zero]
          rfl
        case hqib1 => exact fun _ _ _ h => h
        case hyib1 => exact Or.inl ⟨by kernel_rfl, fun w hSw => by go_simp⟩
        try simp only [Act.put, List.setIfInBounds_toArray, List.set_cons_zero, List.set_cons_succ]
        refine wpAnyH_take (i := 2) (oi := ?oiib2) (v := .int .i64 (j : Int)) ?hiib2 (by kernel_rfl) (by kernel_rfl) (by kernel_rfl) ?hqib2 ?hyib2 hHeld ?hrib2
        case hiib2 =>
          simp only [List.getElem?_toArray, List.getElem?_cons_succ, List.getElem?_cons_zero]
          rfl
        case hqib2 => exact fun _ _ _ h => h
        case hyib2 => exact Or.inl ⟨by kernel_rfl, fun w hSw => by go_simp⟩
        try simp only [Act.put, List.setIfInBounds_toArray, List.set_cons_zero, List.set_cons_succ]
        refine wpAnyH_take (i := 3) (oi := ?oiib3) (v := .pointer (some ⟨g, off + j * 3, none⟩)) ?hiib3 (by kernel_rfl) (by kernel_rfl) (by kernel_rfl) ?hqib3 ?hyib3 hHeld ?hrib3
        case hiib3 =>
          simp only [List.getElem?_toArray, List.getElem?_cons_succ, List.getElem?_cons_zero]
          rfl
        case hqib3 => exact fun _ _ _ h => h
        case hyib3 => exact Or.inl ⟨by kernel_rfl, fun w hSw => by go_simp⟩
        try simp only [Act.put, List.setIfInBounds_toArray, List.set_cons_zero, List.set_cons_succ]
        refine wpAnyH_take (i := 4) (oi := ?oiib4) (v := .agg #[.int .i64 sk, .int .i64 sx, .int .i64 sy]) ?hiib4 (by kernel_rfl) (by kernel_rfl) (by kernel_rfl) ?hqib4 ?hyib4 hHeld ?hrib4
        case hiib4 =>
          simp only [List.getElem?_toArray, List.getElem?_cons_succ, List.getElem?_cons_zero]
          rfl
        case hqib4 => exact fun _ _ _ h => h
        case hyib4 => exact Or.inl ⟨by kernel_rfl, fun w hSw => by obtain ⟨⟨s1, s2, s3⟩, s4, s5, s6⟩ := hSw; go_simp⟩
        try simp only [Act.put, List.setIfInBounds_toArray, List.set_cons_zero, List.set_cons_succ]
        refine wpAnyH_take (i := 5) (oi := ?oiib5) (v := .bool false) ?hiib5 (by kernel_rfl) (by kernel_rfl) (by kernel_rfl) ?hqib5 ?hyib5 hHeld ?hrib5
        case hiib5 =>
          simp only [List.getElem?_toArray, List.getElem?_cons_succ, List.getElem?_cons_zero]
          rfl
        case hqib5 => exact fun _ _ _ h => h
        case hyib5 => exact Or.inl ⟨by kernel_rfl, fun w hSw => by go_simp; (by_cases h1 : tk = sk); (by_cases h2 : tx = sx); (by_cases h3 : ty = sy); (exact absurd ⟨h1.symm, h2.symm, h3.symm⟩ HX.out); (simp [h3]); (simp [h2]); (simp [h1])⟩
        try simp only [Act.put, List.setIfInBounds_toArray, List.set_cons_zero, List.set_cons_succ]
        refine wpAnyH_done (by kernel_rfl) ?_ _
        go_wp2
        go_roundw
        case rel => exact ⟨j + 1, by omega, by go_num, Below.drew HBB.out, HBK.out, H3.out⟩
        case measure => simp [intOf]; omega
    · have hjj : j = p.length := by omega
      subst hjj
      have H5 : Hid (B = false) := by
        have h9 := HNO.out
        rw [List.take_length] at h9
        exact HB.out.symm.trans h9
      go_wp2
      go_ret
      exact ⟨-1, rfl, by rw [H5.out]; rfl, by omega, by omega, HBB.out⟩

theorem containsS (p : List Stm) (t : Stm) (v : Value) (w : World) (hl : p.length ≤ 100) (hv : Reads3 w v p) :
    Calls Try.prog 57 #[v, .agg #[.int .i64 t.k, .int .i64 t.x, .int .i64 t.y]] w fun e w' => e = .returned (.bool (p.any (eqSt t))) ∧ Below w.heap.size w w' := by
  have b0 : Below w.heap.size w (w.alloc (.cells #[.int .i64 t.k, .int .i64 t.x, .int .i64 t.y] 37)) := by go_grown
  have hi := sliceIndexS p t v (w.alloc (.cells #[.int .i64 t.k, .int .i64 t.x, .int .i64 t.y] 37)) hl (reads3_below hv b0)
  obtain ⟨ao, cap, rfl, _⟩ := hv
  go_enter Try.func57, Try.ntmps57
  go_wp2_with fail
  go_at_call 62
  refine hi.mono ?_
  rintro e w1 ⟨r, rfl, hr, h1, h2, b1⟩
  have HR : Hid _ := hr
  clear hr hi
  go_wp2
  go_ret
  exact ⟨by rw [← HR.out]; rfl, b0.trans (b1.mono b0.size)⟩

/-- Does a jump go there? -/
def jumpTo (p : List Stm) (a : Int) : Bool := p.any (fun s => decide (s.k = 7) && decide (s.y = a))

theorem jumpTo_eq {p : List Stm} (h : procOk p = true) (a : Int) : p.any (eqSt ⟨7, 0, a⟩) = jumpTo p a := by
  unfold jumpTo
  rw [Bool.eq_iff_iff, List.any_eq_true, List.any_eq_true]
  constructor
  · rintro ⟨s, hs, he⟩
    refine ⟨s, hs, ?_⟩
    unfold eqSt at he
    simp only [Bool.and_eq_true, decide_eq_true_eq] at he ⊢
    exact ⟨he.1.1.symm, he.2.symm⟩
  · rintro ⟨s, hs, he⟩
    refine ⟨s, hs, ?_⟩
    simp only [Bool.and_eq_true, decide_eq_true_eq] at he
    have hx : s.x = 0 := by
      have hk := procOk_stm h hs
      rw [he.1] at hk
      unfold stmtOk inB at hk
      simp at hk
      omega
    unfold eqSt
    simp [he.1, he.2, hx]

theorem comesBack (p : List Stm) (a : Int) (v : Value) (w : World) (hok : procOk p = true) (hv : Reads3 w v p) :
    Calls Try.prog 47 #[v, .int .i64 a] w fun e w' => e = .returned (.bool (decide (a < (p.length : Int) - 1) && !jumpTo p a)) ∧ Below w.heap.size w w' := by
  obtain ⟨h0, h1, _⟩ := procs13 hok
  have hc := containsS p ⟨7, 0, a⟩ v w (by omega) hv
  rw [jumpTo_eq hok] at hc
  simp only at hc
  obtain ⟨ao, cap, rfl, _⟩ := hv
  have hw1 : IntKind.i64.wrap ((p.length : Int) - 1) = (p.length : Int) - 1 := IntWalk.i64_in _ (by omega)
  go_enter Try.func47, Try.ntmps47
  go_wp2_with fail
  go_at_call 57
  refine hc.mono ?_
  rintro e w1 ⟨rfl, b1⟩
  clear hc
  by_cases hlt : a < (p.length : Int) - 1
  · have hd : decide (a < (p.length : Int) - 1) = true := by simpa using hlt
    cases hj : jumpTo p a
    · go_wp2
      go_ret
      exact ⟨by simp [hd, hj], b1⟩
    · go_wp2
      go_ret
      exact ⟨by simp [hd, hj], b1⟩
  · have hd : decide (a < (p.length : Int) - 1) = false := by simpa using hlt
    go_wp2
    go_ret
    exact ⟨by simp [hd], b1⟩

end Go.Proofs.Ytoflfeegllpifaa
