/-
  Chapter 17: impl.Served.
-/
import Derived.Test.YtjlpjjddnkceoaaQueServM
import Derived.BigRegion
namespace Go.Proofs.Ytjlpjjddnkceoaa
open Go.RowKit
set_option linter.unusedVariables false
set_option linter.unusedSimpArgs false
set_option maxHeartbeats 8000000
set_option maxRecDepth 20000

theorem tail_slice (g n yc : Nat) (h1 : 1 ≤ n) (hc : n ≤ yc) : ∃ to9 tm9 tc9 : Nat, (∀ W : World, (Instr.slice 33 (.slice (some ⟨g, 0, none⟩) n yc) (some (.int .i64 1)) none none).run Try.prog W = .ok (.slice (some ⟨g, to9, none⟩) tm9 tc9) W) ∧ tm9 = n - 1 ∧ (to9 = 1 ∨ (to9 = 0 ∧ n = 1)) := by
  by_cases hy : yc = 1
  · subst hy
    have hn : n = 1 := by omega
    subst hn
    refine ⟨0, 0, 0, fun W => ?_, rfl, .inr ⟨rfl, rfl⟩⟩
    rw [run_slice_l (ht := Try.underlying33) W _ _ _ _ .i64 1 (by omega) (by omega)]
    simp [sliced, go_sem]
  · refine ⟨1, n - 1, yc - 1, fun W => ?_, rfl, .inl rfl⟩
    rw [run_slice_l (ht := Try.underlying33) W _ _ _ _ .i64 1 (by omega) (by omega)]
    have h9 : ¬ yc - 1 = 0 := by omega
    simp [sliced, go_sem, hy, h9, Addr.add]

theorem rowO_tail {w : World} {base g n yc to9 tm9 tc9 : Nat} {ys : List Int} (h : w.ownsRow base 2 1 (.slice (some ⟨g, 0, none⟩) n yc) n (ints ys)) (h1 : 1 ≤ n) (hm : tm9 = n - 1) (ho : to9 = 1 ∨ (to9 = 0 ∧ n = 1)) : RowO w base (.slice (some ⟨g, to9, none⟩) tm9 tc9) (ints ys.tail) := by
  have hl := h.1
  rw [ints_length, Nat.mul_one] at hl
  rcases h.2 with ⟨e, _⟩ | ⟨g9, c9, cur, e, hbg, hg, h2, h3, h4, h5⟩
  · simp at e
  · simp at e
    obtain ⟨rfl, rfl⟩ := e
    simp only [Nat.mul_one] at h4 h5
    have hil : (ints ys.tail).length = tm9 := by rw [ints_length, List.length_tail]; omega
    refine .inr ⟨g, to9, tc9, cur, by rw [hil], hbg, hg, by rw [hil]; omega, ?_⟩
    rw [hil]
    rcases ho with rfl | ⟨rfl, hn⟩
    · have : ints ys.tail = (ints ys).drop 1 := by simp [ints, List.map_tail, List.drop_one]
      rw [this, ← h5, hm, List.drop_take]
    · have h6 : ys.tail = [] := List.eq_nil_of_length_eq_zero (by rw [List.length_tail]; omega)
      rw [h6, hm, hn]
      simp [ints]

theorem OwnQ.drewQ {w : World} {base : Nat} {v : Value} {us : List Value} {X : List (List Int)} (h : OwnQ w base v us X) : OwnQ w.drew base v us X := ⟨h.row, h.each⟩

theorem ownQ_box {w : World} {base C o : Nat} {v x : Value} {us : List Value} {Y : List (List Int)} {cs : Array Value} (h : OwnQ w base v us Y) (hb : w.heap[C]? = some (.cells cs 26 (0, 0))) : OwnQ (w.setCell ⟨C, o, none⟩ x) base v us Y :=
  h.same (fun k hk => Below.heap_setCell _ _ _ _ (fun e => row_not_box h.row hb (by rw [hk]; simp [e]))) (fun u hu k hk => Below.heap_setCell _ _ _ _ (fun e => by
    obtain ⟨xs, _, ho⟩ := h.inner hu
    rcases ho with ⟨rfl, _⟩ | ⟨g, off, cap, cur, rfl, _, hg, _⟩
    · simp [Value.ownBlock] at hk
    · simp [Value.ownBlock] at hk
      subst hk
      simp at e
      subst e
      rw [hg] at hb
      simp at hb))

theorem implServed (t : Int) (X : List (List Int)) (v : Value) (w : World) (hl : X.length ≤ maxLen) (hx : ∀ x ∈ X, x.length ≤ maxLen) (hv : ReadsSS w v X) :
    Calls Try.prog 7 #[.agg #[.int .i64 t, v]] w fun e w' => ∃ u us, e = .returned (.tuple #[.agg #[.int .i64 (servA t X).1, u], .int .i64 (servA t X).2.2.1, .int .i64 (servA t X).2.2.2]) ∧ OwnQ w' w.heap.size u us (servA t X).2.1 ∧ ApartSS us ∧ Below w.heap.size w w' := by
  obtain ⟨j0, hj, hy0, hy1, hy2⟩ := info_parts infoInt
  obtain ⟨T9, Y9, R9, M9, hA9⟩ : ∃ a b c d, servA t X = (a, b, c, d) := ⟨_, _, _, _, rfl⟩
  rw [hA9]
  have HA9 : Hid _ := hA9
  clear hA9
  simp only
  obtain ⟨ao, cap, hvv, hc⟩ := id hv
  subst hvv
  obtain ⟨W0, hW0⟩ : ∃ W0, (w.alloc (.cells #[.int .i64 t, .slice ao X.length cap] 26)).alloc (.cells #[.int .i64 0, .slice none 0 0] 26) = W0 := ⟨_, rfl⟩
  have L0 : Below w.heap.size w W0 := by rw [← hW0]; go_grown
  have hs0 : W0.heap.size = w.heap.size + 1 + 1 := by rw [← hW0]; simp
  have hA0 : W0.heap[w.heap.size]? = some (.cells #[.int .i64 t, .slice ao X.length cap] 26 (0, 0)) := by
    rw [← hW0, old_block (by simp)]; exact heap_alloc_new w _
  have hR0 : W0.heap[w.heap.size + 1]? = some (.cells #[.int .i64 0, .slice none 0 0] 26 (0, 0)) := by
    rw [← hW0]
    have := heap_alloc_new (w.alloc (.cells #[.int .i64 t, .slice ao X.length cap] 26)) (.cells #[.int .i64 0, .slice none 0 0] 26)
    simpa using this
  obtain ⟨c0, c1, _, _⟩ := two_cellsQ hA0
  have hqq := implQueueOk t X (.slice ao X.length cap) W0 hl hx (readsSS_below hv L0)
  have HS0 : Hid _ := hs0
  clear hs0
  go_enter Try.func7, Try.ntmps7
  go_wp2_with fail
  go_at_call 10
  refine hqq.mono ?_
  rintro e w1 ⟨rfl, b1⟩
  have s1 := b1.size
  have HA1 : Hid _ := (b1.block _ (by have := HS0.out; omega)).trans hA0
  have HR1 : Hid _ := (b1.block _ (by have := HS0.out; omega)).trans hR0
  have HL1 : Hid (Below w.heap.size w w1) := L0.trans (b1.mono L0.size)
  have HS1 : Hid (w.heap.size + 1 < w1.heap.size) := by show w.heap.size + 1 < w1.heap.size; have := HS0.out; omega
  clear hqq b1 s1 L0 hA0 hR0 c0 c1 hW0 HS0
  cases hq : queB t X with
  | false =>
    obtain ⟨rfl, rfl, rfl, rfl⟩ : 0 = T9 ∧ [] = Y9 ∧ -1 = R9 ∧ 0 = M9 := by
      have hca : servA t X = (0, [], -1, 0) := by unfold servA; rw [hq]; rfl
      have h9 := HA9.out
      rw [hca] at h9
      simpa using h9
    clear HA9
    obtain ⟨r0, r1, x0, x1⟩ := two_cellsQ HR1.out
    have R9 := two_setQ HR1.out (.int .i64 0) (.slice none 0 0)
    obtain ⟨y0, y1, _, _⟩ := two_cellsQ R9
    go_wp2
    refine bodyPost_ret (v := .tuple #[.agg #[.int .i64 0, .slice none 0 0], .int .i64 (-1), .int .i64 0]) (by simp [results, Try.results7, go_sem, y0, y1]) rfl ?_
    exact ⟨_, [], rfl, ⟨⟨by simp, .inl ⟨rfl, rfl⟩⟩, fun j u xs hj _ => by simp at hj⟩, apartSS_nil, (HL1.out.setCell (by simp) _).setCell (by simp) _⟩
  | true =>
    obtain ⟨ht0, ht7, h8, h5, hnn⟩ := queB_parts hq
    have h8a : X.length ≤ 8 := by omega
    have h8b : 8 ≤ X.length := by omega
    clear h8
    have hcp := clonedQueue t X (.slice ao X.length cap) w1 (by omega) (fun x hx' => by have := h5 x hx'; omega) (readsSS_below hv HL1.out)
    obtain ⟨a0, a1, -, -⟩ := two_cellsQ HA1.out
    go_wp2_with fail
    go_at_call 21
    refine hcp.mono ?_
    rintro e w2 ⟨u, us, rfl, ou, ap, b2⟩
    obtain ⟨ua, um, uc, rfl⟩ := own_sliceQ ou.row
    have s2 := b2.size
    obtain ⟨w3, hw3⟩ : ∃ w3, w2.alloc (.cells #[.int .i64 t, .slice ua um uc] 26) = w3 := ⟨_, rfl⟩
    have b3 : Below w2.heap.size w2 w3 := by rw [← hw3]; go_grown
    obtain ⟨C, hC⟩ : ∃ C, w2.heap.size = C := ⟨_, rfl⟩
    have HB : Hid (w3.heap[C]? = some (.cells #[.int .i64 t, .slice ua um uc] 26 (0, 0))) := by
      show w3.heap[C]? = _
      rw [← hw3, ← hC]; exact heap_alloc_new w2 _
    have HQ : Hid (OwnSS w3 w1.heap.size (.slice ua um uc) us X) := ou.below b3
    have HAP : Hid _ := ap
    have HA3 : Hid _ := box_stepQ (box_stepQ HA1.out b2) b3
    have HR3 : Hid _ := box_stepQ (box_stepQ HR1.out b2) b3
    have HL3 : Hid (Below w.heap.size w w3) := low_stepQ (low_stepQ HL1.out b2) b3
    have HSC : Hid (C < w3.heap.size ∧ w1.heap.size ≤ C) := ⟨(Array.getElem?_eq_some_iff.1 HB.out).1, by rw [← hC]; exact s2⟩
    have HS2 : Hid (w.heap.size + 1 < w1.heap.size) := HS1.out
    have HSZ : Hid (w1.heap.size ≤ w3.heap.size) := Nat.le_trans s2 b3.size
    clear hcp ou ap b2 b3 s2 HS1 HA1 HR1 HL1 a0 a1
    obtain ⟨a0, a1, -, -⟩ := two_cellsQ HA3.out
    obtain ⟨τ, rfl⟩ : ∃ τ : Nat, t = (τ : Int) := ⟨t.toNat, by omega⟩
    have hτ : τ ≤ 7 := by omega
    have hft := firstInTurn τ X (.slice ao X.length cap) w3 hτ (by omega) h5 (readsSS_below hv HL3.out)
    go_wp2_with fail
    go_at_call 22
    refine hft.mono ?_
    rintro e w4 ⟨⟨r, rfl, hr⟩, b4⟩
    clear hft a0 a1 hw3 hC
    have HBx : Hid _ := box_stepQ HB.out b4
    have HQx : Hid (OwnSS w4 w1.heap.size (.slice ua um uc) us X) := HQ.out.below b4
    have HRx : Hid _ := box_stepQ HR3.out b4
    have HLx : Hid (Below w.heap.size w w4) := low_stepQ HL3.out b4
    have hClo : w1.heap.size ≤ C := HSC.out.2
    clear HB HQ HR3 HL3 HA3 b4 HSC HSZ
    have HB : Hid (w4.heap[C]? = some (.cells #[.int .i64 (τ : Int), .slice ua um uc] 26 (0, 0))) := HBx.out
    have HQ : Hid (OwnSS w4 w1.heap.size (.slice ua um uc) us X) := HQx.out
    have HR3 : Hid (w4.heap[w.heap.size + 1]? = some (.cells #[.int .i64 0, .slice none 0 0] 26 (0, 0))) := HRx.out
    have HL3 : Hid (Below w.heap.size w w4) := HLx.out
    clear HBx HQx HRx HLx
    rcases hr with ⟨k, hk, rfl, hne, hf⟩ | ⟨rfl, hf⟩
    · obtain ⟨j, hj9⟩ : ∃ j, (τ + k) % 8 = j := ⟨_, rfl⟩
      rw [hj9] at hne ⊢
      obtain ⟨q9, hq9⟩ : ∃ q9, (j + 1) % 8 = q9 := ⟨_, rfl⟩
      have hj7 : j ≤ 7 := by omega
      have hjX : j < X.length := by omega
      have hgd : X.getD j [] = X[j] := by simp [List.getD, hjX]
      obtain ⟨ys, hys⟩ : ∃ ys, X[j] = ys := ⟨_, rfl⟩
      have HXJ : Hid (X[j]? = some ys) := by show X[j]? = some ys; rw [← hys]; simp [hjX]
      rw [hgd, hys] at hne
      obtain ⟨y0, yt, hye⟩ : ∃ y0 yt, ys = y0 :: yt := by cases ys with | nil => exact absurd rfl hne | cons a l => exact ⟨a, l, rfl⟩
      obtain ⟨rfl, rfl, rfl, rfl⟩ : (q9 : Int) = T9 ∧ X.set j ys.tail = Y9 ∧ (j : Int) = R9 ∧ y0 = M9 := by
        have hca : servA (τ : Int) X = ((q9 : Int), X.set j ys.tail, (j : Int), y0) := by
          unfold servA
          rw [hq, Int.toNat_natCast, hf]
          simp only [Bool.true_eq_false, if_false, hj9, hgd, hys, hye, hq9, List.headD_cons]
        have h9 := HA9.out
        rw [hca] at h9
        simpa using h9
      have hpos : 1 ≤ ys.length := by rw [hye]; simp
      have hle : ys.length ≤ 5 := by rw [← hys]; exact h5 _ (List.getElem_mem hjX)
      have HY0 : Hid (ys[0]? = some y0) := by show ys[0]? = some y0; rw [hye]; rfl
      have HBS : Hid (∀ W, Calls Try.prog 23 #[.int .i64 (j : Int)] W fun e w' => e = .returned (.int .i64 (q9 : Int)) ∧ W = w') := fun W => by have h9 := behindSession j W hj7; rw [hq9] at h9; exact h9
      clear HA9 hye hne hys hgd hf hj9 hnn hq9
      have hlu := HQ.out.len
      have huj0 : us[j]? = some (us[j]'(by omega)) := by simp [hlu, hjX]
      generalize us[j]'(by omega) = y at huj0
      have huj : Hid _ := huj0
      clear hlu
      have hOj0 := HQ.out.each j y ys huj.out HXJ.out
      obtain ⟨g, yc, rfl, hyc⟩ : ∃ g yc, y = .slice (some ⟨g, 0, none⟩) ys.length yc ∧ ys.length ≤ yc := by
        rcases hOj0.2 with ⟨_, h0⟩ | ⟨g9, c9, cur, e, _, _, hle9, _⟩
        · omega
        · exact ⟨g9, c9, e, hle9⟩
      have HOj : Hid (w4.ownsRow w1.heap.size 2 1 (.slice (some ⟨g, 0, none⟩) ys.length yc) ys.length (ints ys)) := hOj0
      obtain ⟨R, rc, hRe⟩ : ∃ R rc, (Value.slice ua um uc) = .slice (some ⟨R, 0, none⟩) X.length rc := by
        rcases HQ.out.row.2 with ⟨_, h0⟩ | ⟨g9, c9, cur, e, _⟩
        · omega
        · exact ⟨g9, c9, e⟩
      cases hRe
      have hRlo : w1.heap.size ≤ R := (HQ.out.row.lt R rfl).1
      have hRC : C ≠ R := fun e => row_not_box HQ.out.row HB.out (by simp [Value.ownBlock, e])
      have hgR : g ≠ R := fun e => row_kind HOj.out HQ.out.row (by decide) rfl (by simp [Value.ownBlock, e])
      have hglo : w1.heap.size ≤ g := (HOj.out.lt g rfl).1
      have hgC : g ≠ C := fun e => row_not_box HOj.out HB.out (by simp [Value.ownBlock, e])
      have cj : w4.cell? ⟨R, j, none⟩ = some (.slice (some ⟨g, 0, none⟩) ys.length yc) := by rw [HQ.out.row.cellAt j (by omega)]; exact huj.out
      have fj : w4.frozen? ⟨R, j, none⟩ = false := HQ.out.row.frozenAt j
      have HG4 : Hid (w4.cell? ⟨g, 0, none⟩ = some (.int .i64 y0)) := by
        show w4.cell? ⟨g, 0, none⟩ = _
        rw [HOj.out.cellAt 0 (by omega)]
        have := HY0.out
        simp [ints, this]
      obtain ⟨to9, tm9, tc9, hrun9, htm, hto⟩ := tail_slice g ys.length yc hpos hyc
      have HQ8 : Hid (∀ W : World, OwnSS W w1.heap.size (.slice (some ⟨R, 0, none⟩) X.length uc) us X → OwnQ (W.setCell ⟨R, j, none⟩ (.slice (some ⟨g, to9, none⟩) tm9 tc9)) w1.heap.size (.slice (some ⟨R, 0, none⟩) X.length uc) (us.set j (.slice (some ⟨g, to9, none⟩) tm9 tc9)) (X.set j ys.tail) ∧ ApartSS (us.set j (.slice (some ⟨g, to9, none⟩) tm9 tc9))) := fun W hW =>
        ⟨(OwnQ.of_own hW).put hjX (rowO_tail (hW.each j _ ys huj.out HXJ.out) hpos htm hto), apartSS_put HAP.out (fun i x b hi hx hxb hub => HAP.out i j x _ b hi hx huj.out hxb (by simpa [Value.ownBlock] using hub))⟩
      have hjX' : (j : Int) < (X.length : Int) := by omega
      have hjn : ((j : Int) == -1) = false := by rw [beq_eq_false_iff_ne]; omega
      obtain ⟨d0, d1, -, -⟩ := two_cellsQ HB.out
      clear hOj0 huj0 htm hto
      go_wp2_with fail
      refine wp_region_late (S := fun w' => w'.cell? ⟨C, 1, none⟩ = some (.slice (some ⟨R, 0, none⟩) X.length uc)) (late := fun j => j == 6) (by kernel_rfl) d1 (fun hHeld => ?_)
      refine wpAnyG_take (i := 0) (oi := ?ois80) (v := .pointer (some ⟨C, 1, none⟩)) ?his80 (by kernel_rfl) (by kernel_rfl) (by kernel_rfl) (by kernel_rfl) ?hqs80 ?hys80 hHeld ?hrs80
      case his80 =>
        simp only [List.getElem?_toArray, List.getElem?_cons_succ, List.getElem?_cons_zero]
        rfl
      case hqs80 => exact fun _ _ _ h => h
      case hys80 => exact Or.inl ⟨by kernel_rfl, fun w hSw => by go_simp⟩
      try simp only [Act.put, List.setIfInBounds_toArray, List.set_cons_zero, List.set_cons_succ]
      refine wpAnyG_take (i := 1) (oi := ?ois81) (v := .slice (some ⟨R, 0, none⟩) X.length uc) ?his81 (by kernel_rfl) (by kernel_rfl) (by kernel_rfl) (by kernel_rfl) ?hqs81 ?hys81 hHeld ?hrs81
      case his81 =>
        simp only [List.getElem?_toArray, List.getElem?_cons_succ, List.getElem?_cons_zero]
        rfl
      case hqs81 => exact fun _ _ _ h => h
      case hys81 => exact Or.inl ⟨by kernel_rfl, fun w hSw => by have s0 := hSw; go_simp⟩
      try simp only [Act.put, List.setIfInBounds_toArray, List.set_cons_zero, List.set_cons_succ]
      refine wpAnyG_take (i := 2) (oi := ?ois82) (v := .int .i64 (j : Int)) ?his82 (by kernel_rfl) (by kernel_rfl) (by kernel_rfl) (by kernel_rfl) ?hqs82 ?hys82 hHeld ?hrs82
      case his82 =>
        simp only [List.getElem?_toArray, List.getElem?_cons_succ, List.getElem?_cons_zero]
        rfl
      case hqs82 => exact fun _ _ _ h => h
      case hys82 => exact Or.inl ⟨by kernel_rfl, fun w hSw => by go_simp⟩
      try simp only [Act.put, List.setIfInBounds_toArray, List.set_cons_zero, List.set_cons_succ]
      refine wpAnyG_take (i := 3) (oi := ?ois83) (v := .slice (some ⟨g, 0, none⟩) ys.length yc) ?his83 (by kernel_rfl) (by kernel_rfl) (by kernel_rfl) (by kernel_rfl) ?hqs83 ?hys83 hHeld ?hrs83
      case his83 =>
        simp only [List.getElem?_toArray, List.getElem?_cons_succ, List.getElem?_cons_zero]
        rfl
      case hqs83 => exact fun _ _ _ h => h
      case hys83 => exact Or.inl ⟨by kernel_rfl, fun w hSw => by go_simp⟩
      try simp only [Act.put, List.setIfInBounds_toArray, List.set_cons_zero, List.set_cons_succ]
      refine wpAnyG_take (i := 4) (oi := ?ois84) (v := .slice (some ⟨g, to9, none⟩) tm9 tc9) ?his84 (by kernel_rfl) (by kernel_rfl) (by kernel_rfl) (by kernel_rfl) ?hqs84 ?hys84 hHeld ?hrs84
      case his84 =>
        simp only [List.getElem?_toArray, List.getElem?_cons_succ, List.getElem?_cons_zero]
        rfl
      case hqs84 => exact fun _ _ _ h => h
      case hys84 => exact Or.inl ⟨by kernel_rfl, fun w hSw => by go_simp⟩
      try simp only [Act.put, List.setIfInBounds_toArray, List.set_cons_zero, List.set_cons_succ]
      refine wpAnyG_take (i := 5) (oi := ?ois85) (v := .pointer (some ⟨R, j, none⟩)) ?his85 (by kernel_rfl) (by kernel_rfl) (by kernel_rfl) (by kernel_rfl) ?hqs85 ?hys85 hHeld ?hrs85
      case his85 =>
        simp only [List.getElem?_toArray, List.getElem?_cons_succ, List.getElem?_cons_zero]
        rfl
      case hqs85 => exact fun _ _ _ h => h
      case hys85 => exact Or.inl ⟨by kernel_rfl, fun w hSw => by go_simp⟩
      try simp only [Act.put, List.setIfInBounds_toArray, List.set_cons_zero, List.set_cons_succ]
      refine wpAnyG_ready (rs := [6]) (by kernel_rfl) (by simp) ?_
      refine (AllReadyG.cons (o := ?oos86) ?hos86 (fun K hK => ?hks86) AllReadyG.nil)
      case hos86 =>
        simp only [List.getElem?_toArray, List.getElem?_cons_succ, List.getElem?_cons_zero]
        rfl
      case hks86 =>
        go_simp
        try go_wp2_with fail
        refine hK.out _ _ (Or.inl rfl) (fun _ => ?_)
        clear hK K
        try simp only [Act.put, List.setIfInBounds_toArray, List.set_cons_zero, List.set_cons_succ]
        refine wpAnyG_done (by kernel_rfl) ?_ _
        have O8 := HQ8.out w4 HQ.out
        have HB8 : Hid ((w4.setCell ⟨R, j, none⟩ (.slice (some ⟨g, to9, none⟩) tm9 tc9)).drew.heap[C]? = some (.cells #[.int .i64 (τ : Int), .slice (some ⟨R, 0, none⟩) X.length uc] 26 (0, 0))) := (Below.heap_setCell w4 ⟨R, j, none⟩ (.slice (some ⟨g, to9, none⟩) tm9 tc9) C (by simpa using hRC)).trans HB.out
        have HR8 : Hid ((w4.setCell ⟨R, j, none⟩ (.slice (some ⟨g, to9, none⟩) tm9 tc9)).drew.heap[w.heap.size + 1]? = some (.cells #[.int .i64 0, .slice none 0 0] 26 (0, 0))) := (Below.heap_setCell w4 ⟨R, j, none⟩ (.slice (some ⟨g, to9, none⟩) tm9 tc9) (w.heap.size + 1) (by simp; have := hRlo; have := HS2.out; omega)).trans HR3.out
        have HG8 : Hid ((w4.setCell ⟨R, j, none⟩ (.slice (some ⟨g, to9, none⟩) tm9 tc9)).drew.cell? ⟨g, 0, none⟩ = some (.int .i64 y0)) := (World.cell?_of_block (Below.heap_setCell w4 ⟨R, j, none⟩ (.slice (some ⟨g, to9, none⟩) tm9 tc9) g (by simpa using hgR))).trans HG4.out
        have HL8 : Hid (Below w.heap.size w (w4.setCell ⟨R, j, none⟩ (.slice (some ⟨g, to9, none⟩) tm9 tc9)).drew) := (HL3.out.setCell (by simp; have := hRlo; have := HS2.out; omega) _).drew
        have HO8 : Hid (OwnQ (w4.setCell ⟨R, j, none⟩ (.slice (some ⟨g, to9, none⟩) tm9 tc9)).drew w1.heap.size (.slice (some ⟨R, 0, none⟩) X.length uc) (us.set j (.slice (some ⟨g, to9, none⟩) tm9 tc9)) (X.set j ys.tail) ∧ ApartSS (us.set j (.slice (some ⟨g, to9, none⟩) tm9 tc9))) := ⟨⟨O8.1.row, O8.1.each⟩, O8.2⟩
        clear O8 HB HR3 HG4 HL3 HQ d0 d1 cj fj
        generalize (w4.setCell ⟨R, j, none⟩ (.slice (some ⟨g, to9, none⟩) tm9 tc9)).drew = w8 at *
        obtain ⟨d0, d1, d2, d3⟩ := two_cellsQ HB8.out
        go_wp2_with fail
        go_at_call 23
        refine (HBS.out w8).mono ?_
        rintro e w9 ⟨rfl, h9⟩
        obtain rfl : w8 = w9 := h9
        have HB9 : Hid ((w8.setCell ⟨C, 0, none⟩ (.int .i64 (q9 : Int))).heap[C]? = some (.cells #[.int .i64 (q9 : Int), .slice (some ⟨R, 0, none⟩) X.length uc] 26 (0, 0))) := by
          show (w8.setCell ⟨C, 0, none⟩ (.int .i64 (q9 : Int))).heap[C]? = _
          have h9 := heap_setCell_same w8 C 0 _ _ (.int .i64 (q9 : Int)) HB8.out
          simpa using h9
        have HR9 : Hid ((w8.setCell ⟨C, 0, none⟩ (.int .i64 (q9 : Int))).heap[w.heap.size + 1]? = some (.cells #[.int .i64 0, .slice none 0 0] 26 (0, 0))) := (Below.heap_setCell _ _ _ _ (by simp; have := hClo; have := HS2.out; omega)).trans HR8.out
        have HG9 : Hid ((w8.setCell ⟨C, 0, none⟩ (.int .i64 (q9 : Int))).cell? ⟨g, 0, none⟩ = some (.int .i64 y0)) := (World.cell?_of_block (Below.heap_setCell _ _ _ _ (by simpa using hgC))).trans HG8.out
        have HL9 : Hid (Below w.heap.size w (w8.setCell ⟨C, 0, none⟩ (.int .i64 (q9 : Int)))) := HL8.out.setCell (by simp; have := hClo; have := HS2.out; omega) _
        have HO9 : Hid (OwnQ (w8.setCell ⟨C, 0, none⟩ (.int .i64 (q9 : Int))) w1.heap.size (.slice (some ⟨R, 0, none⟩) X.length uc) (us.set j (.slice (some ⟨g, to9, none⟩) tm9 tc9)) (X.set j ys.tail) ∧ ApartSS (us.set j (.slice (some ⟨g, to9, none⟩) tm9 tc9))) := ⟨ownQ_box HO8.out.1 HB8.out, HO8.out.2⟩
        go_wp2_with fail
        clear HB8 HR8 HG8 HL8 HO8 d0 d1 d2 d3
        generalize w8.setCell ⟨C, 0, none⟩ (.int .i64 (q9 : Int)) = w10 at *
        have g0 := HG9.out
        obtain ⟨d0, d1, -, -⟩ := two_cellsQ HB9.out
        obtain ⟨r0, r1, x0, x1⟩ := two_cellsQ HR9.out
        have hyl : (0 : Int) < (ys.length : Int) := by omega
        have hyl2 : 0 < ys.length := by omega
        have hgw : ¬ g = w.heap.size + 1 := by have := hglo; have := HS2.out; omega
        have hgw2 : ¬ w.heap.size + 1 = g := fun e => hgw e.symm
        go_region
        have R9 := two_setQ HR9.out (.int .i64 (q9 : Int)) (.slice (some ⟨R, 0, none⟩) X.length uc)
        obtain ⟨y1, y2, _, _⟩ := two_cellsQ R9
        go_wp2
        refine bodyPost_ret (v := .tuple #[.agg #[.int .i64 (q9 : Int), .slice (some ⟨R, 0, none⟩) X.length uc], .int .i64 (j : Int), .int .i64 y0]) (by simp [results, Try.results7, go_sem, y1, y2]) rfl ?_
        exact ⟨_, _, rfl, OwnQ.drewQ (((HO9.out.1.set (by have := HS2.out; omega)).set (by have := HS2.out; omega)).mono (base' := w.heap.size) (by have := HS2.out; omega)), HO9.out.2, ((HL9.out.setCell (by simp) _).setCell (by simp) _).drew⟩
    · obtain ⟨rfl, rfl, rfl, rfl⟩ : (τ : Int) = T9 ∧ X = Y9 ∧ -1 = R9 ∧ 0 = M9 := by
        have hca : servA (τ : Int) X = ((τ : Int), X, -1, 0) := by
          unfold servA
          rw [hq, Int.toNat_natCast, hf]
          rfl
        have h9 := HA9.out
        rw [hca] at h9
        simpa using h9
      clear HA9 hf
      obtain ⟨d0, d1, -, -⟩ := two_cellsQ HB.out
      obtain ⟨r0, r1, x0, x1⟩ := two_cellsQ HR3.out
      have R9 := two_setQ HR3.out (.int .i64 (τ : Int)) (.slice ua um uc)
      obtain ⟨y0, y1, _, _⟩ := two_cellsQ R9
      go_wp2
      refine bodyPost_ret (v := .tuple #[.agg #[.int .i64 (τ : Int), .slice ua um uc], .int .i64 (-1), .int .i64 0]) (by simp [results, Try.results7, go_sem, y0, y1]) rfl ?_
      exact ⟨_, us, rfl, OwnQ.of_own (((HQ.out.set (by have := HS2.out; omega)).set (by have := HS2.out; omega)).mono (base' := w.heap.size) (by have := HS2.out; omega)), HAP.out, (HL3.out.setCell (by simp) _).setCell (by simp) _⟩

end Go.Proofs.Ytjlpjjddnkceoaa
