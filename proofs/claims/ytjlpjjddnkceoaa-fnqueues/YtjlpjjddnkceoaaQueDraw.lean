/-
  Chapter 17: the draws of Queues (l17Draw, DrawQueueOk, DrawServed).
-/
import Derived.Test.YtjlpjjddnkceoaaQueServ
import Derived.Test.YtjlpjjddnkceoaaDraw
namespace Go.Proofs.Ytjlpjjddnkceoaa
open Go.RowKit
set_option linter.unusedVariables false
set_option linter.unusedSimpArgs false
set_option maxHeartbeats 8000000
set_option maxRecDepth 20000

/-- What l17Draw has in hand: its cursor, its answer's cell, its Queue. -/
structure DQ (w : World) (g : Nat) (bs : List Int) (C R uc τ : Nat) (us : List Value) (X : List (List Int)) (n : Nat) (W : World) : Prop where
  cur : Cur W g bs
  res : W.heap[w.heap.size]? = some (.cells #[.int .i64 0, .slice none 0 0] 26 (0, 0))
  box : W.heap[C]? = some (.cells #[.int .i64 (τ : Int), .slice (some ⟨R, 0, none⟩) n uc] 26 (0, 0))
  own : OwnSS W (w.heap.size + 1) (.slice (some ⟨R, 0, none⟩) n uc) us X
  apart : ApartSS us
  low : w.grownBy W (some g)
  size : w.heap.size + 1 ≤ W.heap.size

theorem DQ.drew {w W : World} {g C R uc τ n : Nat} {bs : List Int} {us : List Value} {X : List (List Int)} (h : DQ w g bs C R uc τ us X n W) : DQ w g bs C R uc τ us X n W.drew :=
  ⟨h.cur, h.res, h.box, ⟨h.own.row, h.own.each⟩, h.apart, ⟨h.low.os, h.low.tape, h.low.output, h.low.size, h.low.block⟩, h.size⟩

theorem DQ.draw {w W W' : World} {g C R uc τ n : Nat} {bs : List Int} {us : List Value} {X : List (List Int)} (h : DQ w g bs C R uc τ us X n W) (hc : Cur W' g bs) (hg : W.grownBy W' (some g)) (hgw : g < w.heap.size) : DQ w g bs C R uc τ us X n W' := by
  have hC : C ≠ g := fun e => by
    obtain ⟨ao, cap, i, x, h1, _⟩ := h.cur
    have h2 := h.box
    rw [e, h1] at h2
    simp at h2
  refine ⟨hc, (hg.block _ (Array.getElem?_eq_some_iff.1 h.res).1 (fun e => by cases e; omega)).trans h.res, (hg.block _ (Array.getElem?_eq_some_iff.1 h.box).1 (fun e => hC (Option.some.inj e))).trans h.box, h.own.same (fun k hk => hg.block k (h.own.row.lt k hk).2 (fun e => by cases e; have := (h.own.row.lt _ hk).1; omega)) (fun u hu k hk => hg.block k (h.own.ltI hu hk).2 (fun e => by cases e; have := (h.own.ltI hu hk).1; omega)), h.apart, grown_trans h.low hg, Nat.le_trans h.size hg.size⟩

theorem cur_low {W W' : World} {g B : Nat} {bs : List Int} (h : Cur W g bs) (hb : Below B W W') (hg : g < B) : Cur W' g bs := by
  obtain ⟨ao, cap, i, x, h1, h2, h3⟩ := h
  refine ⟨ao, cap, i, x, (hb.block g hg).trans h1, h2, fun j y hy => ?_⟩
  obtain ⟨gg, off, e, hlt, hc⟩ := h3 j y hy
  exact ⟨gg, off, e, hlt, (World.cell?_of_block (hb.block gg (by omega))).trans hc⟩

theorem grown_low {w W W' : World} {g B : Nat} (h : w.grownBy W (some g)) (hb : Below B W W') (hB : w.heap.size ≤ B) : w.grownBy W' (some g) :=
  ⟨hb.os.trans h.os, hb.tape.trans h.tape, hb.output.trans h.output, Nat.le_trans h.size hb.size, fun k hk hne => (hb.block k (by omega)).trans (h.block k hk hne)⟩

/-- A Line is put into the row. -/
theorem DQ.put {w W w7 : World} {g C R uc τ n j : Nat} {bs : List Int} {us us' : List Value} {X Y : List (List Int)} {v : Value} (h : DQ w g bs C R uc τ us X n W) (hL : Below (w.heap.size + 1) W w7) (hK : w7.heap[C]? = some (.cells #[.int .i64 (τ : Int), .slice (some ⟨R, 0, none⟩) n uc] 26 (0, 0)))
    (hO : OwnSS (w7.setCell ⟨R, j, none⟩ v) (w.heap.size + 1) (.slice (some ⟨R, 0, none⟩) n uc) us' Y) (hA : ApartSS us') (hRC : C ≠ R) (hR : w.heap.size + 1 ≤ R) (hgw : g < w.heap.size := by assumption) : DQ w g bs C R uc τ us' Y n (w7.setCell ⟨R, j, none⟩ v) := by
  have hB : Below (w.heap.size + 1) W (w7.setCell ⟨R, j, none⟩ v) := hL.setCell hR v
  exact ⟨cur_low h.cur hB (by omega), (hB.block _ (by omega)).trans h.res, (Below.heap_setCell _ _ _ _ (by simpa using hRC)).trans hK, hO, hA, grown_low h.low hB (by omega), Nat.le_trans h.size hB.size⟩

theorem DQ.fin_below {w W : World} {g C R uc τ n : Nat} {bs : List Int} {us : List Value} {X : List (List Int)} (h : DQ w g bs C R uc τ us X n W) (x y : Value) : Below w.heap.size W ((W.setCell ⟨w.heap.size, 0, none⟩ x).setCell ⟨w.heap.size, 1, none⟩ y) := ((Below.refl w.heap.size W).setCell (by simp) _).setCell (by simp) _
theorem DQ.fin_cur {w W : World} {g C R uc τ n : Nat} {bs : List Int} {us : List Value} {X : List (List Int)} (h : DQ w g bs C R uc τ us X n W) (hg : g < w.heap.size) {x y : Value} : Cur ((W.setCell ⟨w.heap.size, 0, none⟩ x).setCell ⟨w.heap.size, 1, none⟩ y) g bs := cur_low h.cur (h.fin_below x y) hg
theorem DQ.fin_low {w W : World} {g C R uc τ n : Nat} {bs : List Int} {us : List Value} {X : List (List Int)} (h : DQ w g bs C R uc τ us X n W) {x y : Value} : w.grownBy ((W.setCell ⟨w.heap.size, 0, none⟩ x).setCell ⟨w.heap.size, 1, none⟩ y) (some g) := grown_low h.low (h.fin_below x y) (Nat.le_refl _)

theorem DQ.below {w W W' : World} {g C R uc τ n : Nat} {bs : List Int} {us : List Value} {X : List (List Int)} (h : DQ w g bs C R uc τ us X n W) (hb : Below W.heap.size W W') (hgw : g < w.heap.size) : DQ w g bs C R uc τ us X n W' :=
  ⟨cur_low h.cur hb (by have := h.size; omega), box_stepQ h.res hb, box_stepQ h.box hb, h.own.below hb, h.apart, grown_low h.low hb (by have := h.size; omega), Nat.le_trans h.size hb.size⟩

theorem specNewQueueS (w : World) :
    Calls Try.prog 13 #[] w fun e w' => ∃ u us, e = .returned (.agg #[.int .i64 0, u]) ∧ OwnSS w' w.heap.size u us (List.replicate 8 []) ∧ ApartSS us ∧ Below w.heap.size w w' := by
  obtain ⟨i0, hi, hz0, hz1, hz2⟩ := info_parts infoSlice
  obtain ⟨W0, hW0⟩ : ∃ W0, w.alloc (.cells #[.int .i64 0, .slice none 0 0] 26) = W0 := ⟨_, rfl⟩
  have b0 : Below w.heap.size w W0 := by rw [← hW0]; go_grown
  have s0 : W0.heap.size = w.heap.size + 1 := by rw [← hW0]; simp
  have H0 : W0.heap[w.heap.size]? = some (.cells #[.int .i64 0, .slice none 0 0] 26 (0, 0)) := by rw [← hW0]; exact heap_alloc_new w _
  obtain ⟨w1, hr0, own1, grow1⟩ := run_make_full (P := Try.prog) W0 W0.heap.size 24 33 i0 (.slice none 0 0) 1 Try.underlying24 hi hz0 hz1 .i64 .i64 8 (by rw [hz2]; omega) (by unfold maxLen; omega) (Nat.le_refl _)
  have hrun : (Instr.makeSlice 24 (.int .i64 8) (.int .i64 8)).run Try.prog W0 = .ok (.slice (some ⟨W0.heap.size, 0, none⟩) 8 8) w1 := hr0
  clear hr0
  rw [made_nils] at own1
  have b1 : Below W0.heap.size W0 w1 := (Below.refl _ _).grown grow1 (Nat.le_refl _) (by simp)
  have R1 := (b1.block _ (by omega)).trans H0
  obtain ⟨r0, r1, x0, x1⟩ := two_cellsQ R1
  have HO : Hid _ := ownSS_nils own1
  have L1 : Hid (Below w.heap.size w w1) := b0.trans (b1.mono b0.size)
  have R3 := two_setQ R1 (.int .i64 0) (.slice (some ⟨W0.heap.size, 0, none⟩) 8 8)
  obtain ⟨y0, y1, _, _⟩ := two_cellsQ R3
  have hlt0 : w.heap.size < W0.heap.size := by omega
  clear own1 grow1 b1 R1 s0
  go_enter Try.func13, Try.ntmps13
  go_wp2
  refine bodyPost_ret (v := .agg #[.int .i64 0, .slice (some ⟨W0.heap.size, 0, none⟩) 8 8]) (by simp [results, Try.results13, go_sem, y0, y1]) rfl ?_
  exact ⟨_, _, rfl, ((HO.out.set (by omega)).set (by omega)).mono (by omega), apartSS_nils (fun u hu => List.eq_of_mem_replicate hu), (L1.out.setCell (by simp) _).setCell (by simp) _⟩

/-- v reads as X wherever the blocks above B are as in w. -/
def HiReads (B : Nat) (w : World) (v : Value) (X : List (List Int)) : Prop := ∀ W' : World, (∀ b, B < b → b < w.heap.size → W'.heap[b]? = w.heap[b]?) → ReadsSS W' v X

theorem OwnSS.hi {w W' : World} {base : Nat} {v : Value} {us : List Value} {X : List (List Int)} (h : OwnSS w base v us X) (hW : ∀ b, base ≤ b → b < w.heap.size → W'.heap[b]? = w.heap[b]?) : OwnSS W' base v us X :=
  h.same (fun k hk => hW k (h.row.lt k hk).1 (h.row.lt k hk).2) (fun u hu k hk => hW k (h.ltI hu hk).1 (h.ltI hu hk).2)

theorem tail_sliceSS (g n yc : Nat) (h1 : 1 ≤ n) (hc : n ≤ yc) : ∃ to9 tm9 tc9 : Nat, (∀ W : World, (Instr.slice 24 (.slice (some ⟨g, 0, none⟩) n yc) (some (.int .i64 1)) none none).run Try.prog W = .ok (.slice (some ⟨g, to9, none⟩) tm9 tc9) W) ∧ tm9 = n - 1 ∧ (to9 = 1 ∨ (to9 = 0 ∧ n = 1)) := by
  by_cases hy : yc = 1
  · subst hy
    have hn : n = 1 := by omega
    subst hn
    refine ⟨0, 0, 0, fun W => ?_, rfl, .inr ⟨rfl, rfl⟩⟩
    rw [run_slice_l (ht := Try.underlying24) W _ _ _ _ .i64 1 (by omega) (by omega)]
    simp [sliced, go_sem]
  · refine ⟨1, n - 1, yc - 1, fun W => ?_, rfl, .inl rfl⟩
    rw [run_slice_l (ht := Try.underlying24) W _ _ _ _ .i64 1 (by omega) (by omega)]
    have h9 : ¬ yc - 1 = 0 := by omega
    simp [sliced, go_sem, hy, h9, Addr.add]

theorem servR_ok {τ q : Nat} {X Y : List (List Int)} {r m : Int} (h : servR τ X = (q, Y, r, m)) (ht : τ ≤ 7) (h8 : X.length = 8) (h5 : ∀ x ∈ X, x.length ≤ 5) : q ≤ 7 ∧ Y.length = 8 ∧ ∀ y ∈ Y, y.length ≤ 5 := by
  unfold servR at h
  cases hf : fst17 X τ with
  | none =>
    rw [hf] at h
    simp at h
    obtain ⟨rfl, rfl, _⟩ := h
    exact ⟨ht, h8, h5⟩
  | some k =>
    rw [hf] at h
    simp only [Prod.mk.injEq] at h
    obtain ⟨rfl, rfl, _⟩ := h
    refine ⟨by omega, by simp; omega, fun y hy => ?_⟩
    rcases List.mem_or_eq_of_mem_set hy with hy | hy
    · exact h5 y hy
    · subst hy
      have hj : (τ + k) % 8 < X.length := by omega
      have : X.getD ((τ + k) % 8) [] = X[(τ + k) % 8] := by simp [List.getD, hj]
      rw [this]
      have := h5 _ (List.getElem_mem hj)
      simp
      omega

theorem readsSS_tail {w : World} {base R n c : Nat} {us : List Value} {X : List (List Int)} {to9 tm9 tc9 : Nat} (h : OwnSS w base (.slice (some ⟨R, 0, none⟩) n c) us X) (hm : tm9 = X.length - 1) (ho : to9 = 1 ∨ X.length = 1) : ReadsSS w (.slice (some ⟨R, to9, none⟩) tm9 tc9) X.tail := by
  have hl := h.len
  have hn : n = X.length := by
    rcases h.row.2 with ⟨e, _⟩ | ⟨g, c, cur, e, _⟩
    · simp at e
    · simp at e; exact e.2.1
  subst hn
  refine ⟨some ⟨R, to9, none⟩, tc9, by rw [List.length_tail, hm], fun j xs hx => ?_⟩
  have hx' : X[j + 1]? = some xs := by rw [← hx, List.getElem?_tail]
  have hj : j + 1 < X.length := (List.getElem?_eq_some_iff.1 hx').1
  obtain rfl : to9 = 1 := ho.resolve_right (by omega)
  obtain ⟨u, hu, hc, hown⟩ := h.at hj
  have e : X[j + 1] = xs := (List.getElem?_eq_some_iff.1 hx').2
  exact ⟨R, 1, u, rfl, by rw [Nat.add_comm]; exact hc, by rw [← e]; exact reads_own hown⟩

theorem l17Draw (g : Nat) (bs : List Int) (w : World) (hl : bs.length ≤ 1048576) (hc : Cur w g bs) :
    Calls Try.prog 32 #[.pointer (some ⟨g, 0, none⟩)] w fun e w' => ∃ (t : Int) (u : Value) (X : List (List Int)), e = .returned (.agg #[.int .i64 t, u]) ∧ X.length ≤ 8 ∧ (∀ x ∈ X, x.length ≤ 6) ∧ HiReads w.heap.size w' u X ∧ Cur w' g bs ∧ w.grownBy w' (some g) := by
  obtain ⟨j0, hj, hy0, hy1, hy2⟩ := info_parts infoInt
  have hgw : g < w.heap.size := by
    obtain ⟨ao, cap, i, x, h1, _⟩ := hc
    exact (Array.getElem?_eq_some_iff.1 h1).1
  obtain ⟨W0, hW0⟩ : ∃ W0, w.alloc (.cells #[.int .i64 0, .slice none 0 0] 26) = W0 := ⟨_, rfl⟩
  have b0 : Below w.heap.size w W0 := by rw [← hW0]; go_grown
  have s0 : W0.heap.size = w.heap.size + 1 := by rw [← hW0]; simp
  have H0 : W0.heap[w.heap.size]? = some (.cells #[.int .i64 0, .slice none 0 0] 26 (0, 0)) := by rw [← hW0]; exact heap_alloc_new w _
  have HS0 : Hid _ := s0
  clear s0
  go_enter Try.func32, Try.ntmps32
  go_wp2_with fail
  go_at_call 13
  refine (specNewQueueS W0).mono ?_
  rintro e w1 ⟨u, us0, rfl, ou, ap, b1⟩
  obtain ⟨R, uc, hRe⟩ : ∃ R rc, u = .slice (some ⟨R, 0, none⟩) 8 rc := by
    rcases ou.row.2 with ⟨_, h0⟩ | ⟨g9, c9, cur, e, _⟩
    · simp at h0
    · exact ⟨g9, c9, by simpa using e⟩
  subst hRe
  obtain ⟨w2, hw2⟩ : ∃ w2, w1.alloc (.cells #[.int .i64 0, .slice (some ⟨R, 0, none⟩) 8 uc] 26) = w2 := ⟨_, rfl⟩
  have b2 : Below w1.heap.size w1 w2 := by rw [← hw2]; go_grown
  obtain ⟨C, hC⟩ : ∃ C, w1.heap.size = C := ⟨_, rfl⟩
  have hB2 : w2.heap[C]? = some (.cells #[.int .i64 0, .slice (some ⟨R, 0, none⟩) 8 uc] 26 (0, 0)) := by rw [← hw2, ← hC]; exact heap_alloc_new w1 _
  have L2 : Below w.heap.size w w2 := b0.trans ((b1.mono b0.size).trans (b2.mono (Nat.le_trans b0.size b1.size)))
  have hRlo : w.heap.size + 1 ≤ R := by have := (ou.row.lt R rfl).1; have := HS0.out; omega
  have hClo : w.heap.size + 1 ≤ C := by have := b1.size; have := HS0.out; omega
  have HD2 : Hid (∃ X : List (List Int), X.length = 8 ∧ (∀ x ∈ X, x.length ≤ 5) ∧ DQ w g bs C R uc 0 us0 X X.length w2) := by
    refine ⟨List.replicate 8 [], by simp, fun x hx => by rw [List.eq_of_mem_replicate hx]; simp, ⟨cur_low hc L2 hgw, box_stepQ (box_stepQ H0 b1) b2, by simpa using hB2, ?_, ap, ⟨L2.os, L2.tape, L2.output, L2.size, fun k hk _ => L2.block k hk⟩, ?_⟩⟩
    · have := (ou.below b2).mono (base' := w.heap.size + 1) (by have := HS0.out; omega)
      simpa using this
    · have := b1.size; have := b2.size; have := HS0.out; omega
  have hRC : C ≠ R := fun e => by
    have h1 := (ou.row.lt R rfl).2
    omega
  obtain ⟨X0, h80, h50, hD2⟩ := HD2.out
  have HDa : Hid (DQ w g bs C R uc 0 us0 X0 X0.length w2) := hD2
  clear HD2 hD2 ou ap b1 b2 hB2 L2 H0 b0
  have hcl := l1Below g bs 20 (by omega) w2 hl HDa.out.cur
  go_wp2_with fail
  go_at_call 33
  clear hW0 hw2 hC
  refine hcl.mono ?_
  rintro e w3 ⟨n0, rfl, hn0, hn1, -, hc3, hg3⟩
  have hn20 := hn1 (by omega)
  have HDb : Hid (DQ w g bs C R uc 0 us0 X0 X0.length w3) := HDa.out.draw hc3 hg3 hgw
  clear hcl hc3 hg3 hn1 HDa
  go_wp2_with fail
  go_loopw [4] (fun i wr => ∃ (n : Int) (τ : Nat) (us : List Value) (X : List (List Int)), 0 ≤ n ∧ n ≤ 20 ∧ i = .int .i64 n ∧ τ ≤ 7 ∧ X.length = 8 ∧ (∀ x ∈ X, x.length ≤ 5) ∧ DQ w g bs C R uc τ us X X.length wr) (fun i _ => (intOf i).toNat)
  case atStart => exact ⟨n0, 0, us0, X0, hn0, by omega, rfl, by omega, h80, h50, HDb.out⟩
  case round =>
    obtain ⟨n, τ, us, X, hn0', hn20', rfl, hτ, h8, h5, hD⟩ := hrel
    have HD0 : Hid (DQ w g bs C R uc τ us X X.length wr) := hD
    have H8 : Hid (X.length = 8) := h8
    have h8a : X.length ≤ 8 := by omega
    have h8b : 8 ≤ X.length := by omega
    clear hD h8 HDb h80 h50 hn0 hn20
    by_cases hn : 0 < n
    · have hn' : decide ((0 : Int) < n) = true := by simpa using hn
      have hwn : IntKind.i64.wrap (n - 1) = n - 1 := IntWalk.i64_in _ (by omega)
      go_wp2_with fail
      go_at_call 34
      refine (l1Once g bs 4 (by omega) wr hl HD0.out.cur).mono ?_
      rintro e w4 ⟨b, rfl, hc4, hg4⟩
      have HD1 : Hid (DQ w g bs C R uc τ us X X.length w4) := HD0.out.draw hc4 hg4 hgw
      clear hc4 hg4 HD0
      cases b with
      | true =>
        have hls := l17Served τ X C R uc (w.heap.size + 1) us w4 hτ H8.out h5 HD1.out.box HD1.out.own HD1.out.apart hClo
        go_wp2_with fail
        go_at_call 25
        refine hls.mono ?_
        rintro e w5 ⟨q9, us5, Y5, r5, m5, rfl, hB5, hQ5, hA5, hL5, hSV⟩
        obtain ⟨hq7, hY8, hY5⟩ := servR_ok hSV hτ H8.out h5
        have HD5 : Hid (DQ w g bs C R uc q9 us5 Y5 Y5.length w5) := by
          have e9 : X.length = Y5.length := by have := H8.out; omega
          rw [e9] at hB5 hQ5
          exact ⟨cur_low HD1.out.cur hL5 (by omega), (hL5.block _ (by omega)).trans HD1.out.res, hB5, hQ5, hA5, grown_low HD1.out.low hL5 (by omega), Nat.le_trans HD1.out.size hL5.size⟩
        have HY8 : Hid _ := hY8
        clear hls hB5 hQ5 hA5 hL5 hSV hY8 HD1
        go_wp2
        go_roundw
        case rel => exact ⟨n - 1, q9, us5, Y5, by omega, by omega, by go_num, hq7, HY8.out, hY5, HD5.out⟩
        case measure => simp [intOf]; omega
      | false =>
        go_wp2_with fail
        go_at_call 33
        refine (l1Below g bs 4 (by omega) w4 hl HD1.out.cur).mono ?_
        rintro e w5 ⟨x5, rfl, hx50, hx51, -, hc5, hg5⟩
        have hx54 := hx51 (by omega)
        have HD : Hid (DQ w g bs C R uc τ us X X.length w5) := HD1.out.draw hc5 hg5 hgw
        clear hc5 hg5 hx51 HD1
        obtain ⟨j, rfl⟩ : ∃ j : Nat, x5 = (j : Int) := ⟨x5.toNat, by omega⟩
        have hjX : j < X.length := by omega
        have hjX' : (j : Int) < (X.length : Int) := by omega
        obtain ⟨ys, hys⟩ : ∃ ys, X[j] = ys := ⟨_, rfl⟩
        have HXJ : Hid (X[j]? = some ys) := by show X[j]? = some ys; rw [← hys]; simp [hjX]
        have hle : ys.length ≤ 5 := by rw [← hys]; exact h5 _ (List.getElem_mem hjX)
        clear hys
        have hlu := HD.out.own.len
        have huj0 : us[j]? = some (us[j]'(by omega)) := by simp [hlu, hjX]
        generalize us[j]'(by omega) = y at huj0
        have hOj := HD.out.own.each j y ys huj0 HXJ.out
        obtain ⟨ya, yn, yc, rfl⟩ := own_sliceQ hOj
        have hyn : yn = ys.length := by
          rcases hOj.2 with ⟨e, h0⟩ | ⟨g9, c9, cur, e, _⟩
          · simp at e; omega
          · simp at e; exact e.2.1
        subst hyn
        have huj : Hid _ := huj0
        have cj : w5.cell? ⟨R, j, none⟩ = some (.slice ya ys.length yc) := by rw [HD.out.own.row.cellAt j (by omega)]; exact huj.out
        obtain ⟨d0, d1, -, -⟩ := two_cellsQ HD.out.box
        clear hlu huj0 hOj
        by_cases hf : ys.length < 5
        · have hf' : decide ((ys.length : Int) < 5) = true := by simp; omega
          go_wp2_with fail
          refine wp_region_late (S := fun w' => w'.cell? ⟨C, 1, none⟩ = some (.slice (some ⟨R, 0, none⟩) X.length uc) ∧ w'.cell? ⟨R, j, none⟩ = some (.slice ya ys.length yc)) (late := fun j => j == 14) (by kernel_rfl) ⟨d1, cj⟩ (fun hHeld => ?_)
          refine wpAnyG_take (i := 0) (oi := ?oin90) (v := .pointer (some ⟨C, 1, none⟩)) ?hin90 (by kernel_rfl) (by kernel_rfl) (by kernel_rfl) (by kernel_rfl) ?hqn90 ?hys.length90 hHeld ?hrn90
          case hin90 =>
            simp only [List.getElem?_toArray, List.getElem?_cons_succ, List.getElem?_cons_zero]
            rfl
          case hqn90 => exact fun _ _ _ h => h
          case hys.length90 => exact Or.inl ⟨by kernel_rfl, fun w hSw => by go_simp⟩
          try simp only [Act.put, List.setIfInBounds_toArray, List.set_cons_zero, List.set_cons_succ]
          refine wpAnyG_take (i := 1) (oi := ?oin91) (v := .slice (some ⟨R, 0, none⟩) X.length uc) ?hin91 (by kernel_rfl) (by kernel_rfl) (by kernel_rfl) (by kernel_rfl) ?hqn91 ?hys.length91 hHeld ?hrn91
          case hin91 =>
            simp only [List.getElem?_toArray, List.getElem?_cons_succ, List.getElem?_cons_zero]
            rfl
          case hqn91 => exact fun _ _ _ h => h
          case hys.length91 => exact Or.inl ⟨by kernel_rfl, fun w hSw => by obtain ⟨s0, s1⟩ := hSw; go_simp⟩
          try simp only [Act.put, List.setIfInBounds_toArray, List.set_cons_zero, List.set_cons_succ]
          refine wpAnyG_take (i := 2) (oi := ?oin92) (v := .int .i64 (j : Int)) ?hin92 (by kernel_rfl) (by kernel_rfl) (by kernel_rfl) (by kernel_rfl) ?hqn92 ?hys.length92 hHeld ?hrn92
          case hin92 =>
            simp only [List.getElem?_toArray, List.getElem?_cons_succ, List.getElem?_cons_zero]
            rfl
          case hqn92 => exact fun _ _ _ h => h
          case hys.length92 => exact Or.inl ⟨by kernel_rfl, fun w hSw => by go_simp⟩
          try simp only [Act.put, List.setIfInBounds_toArray, List.set_cons_zero, List.set_cons_succ]
          refine wpAnyG_take (i := 3) (oi := ?oin93) (v := .pointer (some ⟨C, 1, none⟩)) ?hin93 (by kernel_rfl) (by kernel_rfl) (by kernel_rfl) (by kernel_rfl) ?hqn93 ?hys.length93 hHeld ?hrn93
          case hin93 =>
            simp only [List.getElem?_toArray, List.getElem?_cons_succ, List.getElem?_cons_zero]
            rfl
          case hqn93 => exact fun _ _ _ h => h
          case hys.length93 => exact Or.inl ⟨by kernel_rfl, fun w hSw => by go_simp⟩
          try simp only [Act.put, List.setIfInBounds_toArray, List.set_cons_zero, List.set_cons_succ]
          refine wpAnyG_take (i := 4) (oi := ?oin94) (v := .slice (some ⟨R, 0, none⟩) X.length uc) ?hin94 (by kernel_rfl) (by kernel_rfl) (by kernel_rfl) (by kernel_rfl) ?hqn94 ?hys.length94 hHeld ?hrn94
          case hin94 =>
            simp only [List.getElem?_toArray, List.getElem?_cons_succ, List.getElem?_cons_zero]
            rfl
          case hqn94 => exact fun _ _ _ h => h
          case hys.length94 => exact Or.inl ⟨by kernel_rfl, fun w hSw => by obtain ⟨s0, s1⟩ := hSw; go_simp⟩
          try simp only [Act.put, List.setIfInBounds_toArray, List.set_cons_zero, List.set_cons_succ]
          refine wpAnyG_take (i := 5) (oi := ?oin95) (v := .int .i64 (j : Int)) ?hin95 (by kernel_rfl) (by kernel_rfl) (by kernel_rfl) (by kernel_rfl) ?hqn95 ?hys.length95 hHeld ?hrn95
          case hin95 =>
            simp only [List.getElem?_toArray, List.getElem?_cons_succ, List.getElem?_cons_zero]
            rfl
          case hqn95 => exact fun _ _ _ h => h
          case hys.length95 => exact Or.inl ⟨by kernel_rfl, fun w hSw => by go_simp⟩
          try simp only [Act.put, List.setIfInBounds_toArray, List.set_cons_zero, List.set_cons_succ]
          refine wpAnyG_take (i := 6) (oi := ?oin96) (v := .pointer (some ⟨R, j, none⟩)) ?hin96 (by kernel_rfl) (by kernel_rfl) (by kernel_rfl) (by kernel_rfl) ?hqn96 ?hys.length96 hHeld ?hrn96
          case hin96 =>
            simp only [List.getElem?_toArray, List.getElem?_cons_succ, List.getElem?_cons_zero]
            rfl
          case hqn96 => exact fun _ _ _ h => h
          case hys.length96 => exact Or.inl ⟨by kernel_rfl, fun w hSw => by go_simp⟩
          try simp only [Act.put, List.setIfInBounds_toArray, List.set_cons_zero, List.set_cons_succ]
          refine wpAnyG_take (i := 7) (oi := ?oin97) (v := .slice ya ys.length yc) ?hin97 (by kernel_rfl) (by kernel_rfl) (by kernel_rfl) (by kernel_rfl) ?hqn97 ?hys.length97 hHeld ?hrn97
          case hin97 =>
            simp only [List.getElem?_toArray, List.getElem?_cons_succ, List.getElem?_cons_zero]
            rfl
          case hqn97 => exact fun _ _ _ h => h
          case hys.length97 => exact Or.inl ⟨by kernel_rfl, fun w hSw => by obtain ⟨s0, s1⟩ := hSw; go_simp⟩
          try simp only [Act.put, List.setIfInBounds_toArray, List.set_cons_zero, List.set_cons_succ]
          refine wpAnyG_take (i := 8) (oi := ?oin98) (v := .pointer (some ⟨g, 0, none⟩)) ?hin98 (by kernel_rfl) (by kernel_rfl) (by kernel_rfl) (by kernel_rfl) ?hqn98 ?hys.length98 hHeld ?hrn98
          case hin98 =>
            simp only [List.getElem?_toArray, List.getElem?_cons_succ, List.getElem?_cons_zero]
            rfl
          case hqn98 => exact fun _ _ _ h => h
          case hys.length98 => exact Or.inl ⟨by kernel_rfl, fun w hSw => by go_simp⟩
          try simp only [Act.put, List.setIfInBounds_toArray, List.set_cons_zero, List.set_cons_succ]
          refine wpAnyG_ready (rs := [9]) (by kernel_rfl) (by simp) ?_
          refine (AllReadyG.cons (o := ?oon99) ?hon99 (fun K hK => ?hkn99) AllReadyG.nil)
          case hon99 =>
            simp only [List.getElem?_toArray, List.getElem?_cons_succ, List.getElem?_cons_zero]
            rfl
          case hkn99 =>
            go_simp
            go_at_call 33
            refine (l1Below g bs 99 (by omega) _ hl HD.out.drew.cur).mono ?_
            rintro e w4 ⟨x4, rfl, hx40, hx41, -, hc4, hg4⟩
            have hx99 := hx41 (by omega)
            have HD4 : Hid (DQ w g bs C R uc τ us X X.length w4) := HD.out.drew.draw hc4 hg4 hgw
            have hw35 : IntKind.i64.wrap (1 + x4) = 1 + x4 := IntWalk.i64_in _ (by omega)
            clear hc4 hg4 hx41
            try go_wp2_with fail
            refine hK.out _ _ (Or.inr ⟨(two_cellsQ HD4.out.box).2.1, by rw [HD4.out.own.row.cellAt j (by omega)]; exact huj.out⟩) (fun hHeld => ?_)
            replace hHeld := hHeld.resolve_left (by decide)
            clear hK K
            try simp only [Act.put, List.setIfInBounds_toArray, List.set_cons_zero, List.set_cons_succ]
            refine wpAnyG_take (i := 10) (oi := ?oin910) (v := .int .i64 (1 + x4)) ?hin910 (by kernel_rfl) (by kernel_rfl) (by kernel_rfl) (by kernel_rfl) ?hqn910 ?hys.length910 hHeld ?hrn910
            case hin910 =>
              simp only [List.getElem?_toArray, List.getElem?_cons_succ, List.getElem?_cons_zero]
              rfl
            case hqn910 => exact fun _ _ _ h => h
            case hys.length910 => exact Or.inl ⟨by kernel_rfl, fun w hSw => by go_simp⟩
            try simp only [Act.put, List.setIfInBounds_toArray, List.set_cons_zero, List.set_cons_succ]
            refine wpAnyG_ready (rs := [11]) (by kernel_rfl) (by simp) ?_
            refine (AllReadyG.cons (o := ?oon911) ?hon911 (fun K hK => ?hkn911) AllReadyG.nil)
            case hon911 =>
              simp only [List.getElem?_toArray, List.getElem?_cons_succ, List.getElem?_cons_zero]
              rfl
            case hkn911 =>
              go_simp
              try go_wp2_with fail
              have Ba : Hid (Below w4.heap.size w4 (w4.alloc (.cells #[.int .i64 (1 + x4)] 2))) := Below.alloc (Below.refl _ _) (Nat.le_refl _) _
              have La : Hid ((w4.alloc (.cells #[.int .i64 (1 + x4)] 2)).heap[w4.heap.size]? = some (.cells #[.int .i64 (1 + x4)] 2 (0, 0))) := heap_alloc_new w4 _
              have Va : Hid ((w4.alloc (.cells #[.int .i64 (1 + x4)] 2)).ownsRow (w.heap.size + 1) 2 1 (.slice ya ys.length yc) ys.length (ints ys)) := (HD4.out.own.each j _ ys huj.out HXJ.out).alloc _
              refine hK.out _ _ (Or.inr ⟨(two_cellsQ (box_stepQ HD4.out.box Ba.out)).2.1, by rw [(HD4.out.own.below Ba.out).row.cellAt j (by omega)]; exact huj.out⟩) (fun hHeld => ?_)
              replace hHeld := hHeld.resolve_left (by decide)
              clear hK K
              try simp only [Act.put, List.setIfInBounds_toArray, List.set_cons_zero, List.set_cons_succ]
              refine wpAnyG_ready (rs := [12]) (by kernel_rfl) (by simp) ?_
              refine (AllReadyG.cons (o := ?oon912) ?hon912 (fun K hK => ?hkn912) AllReadyG.nil)
              case hon912 =>
                simp only [List.getElem?_toArray, List.getElem?_cons_succ, List.getElem?_cons_zero]
                rfl
              case hkn912 =>
                refine step_append_anyQ _ rfl (.tmp 32) (.tmp 36) 33 rfl (w.heap.size + 1) 2 j0 (.int .i64 0) 1 8 Try.underlying33 hj hy0 hy1 hy2 rfl (by decide) (.slice ya ys.length yc) ys.length (ints ys) rfl Va.out (some ⟨w4.heap.size, 0, none⟩) 1 1 [.int .i64 (1 + x4)] rfl rfl (fun _ => ⟨_, rfl, lit_cellsQ La.out⟩) (by simp [Value.oneCell']) (by unfold maxLen; omega) (by omega) (Nat.le_trans HD4.out.size Ba.out.size) ?_
                intro v7 w7 own7 grow7 fresh7
                obtain ⟨va, vn, vc, rfl⟩ := own_sliceQ own7
                have N7 : ∀ b, b < w4.heap.size → (Value.slice ya ys.length yc).ownBlock ≠ some b → w7.heap[b]? = w4.heap[b]? := fun b hb hne => (grow7.block b (Nat.lt_of_lt_of_le hb Ba.out.size) (fun e => hne e.symm)).trans (Ba.out.block b hb)
                have HOj4 : Hid (w4.ownsRow (w.heap.size + 1) 2 1 (.slice ya ys.length yc) ys.length (ints ys)) := HD4.out.own.each j _ ys huj.out HXJ.out
                have cj4 : w4.cell? ⟨R, j, none⟩ = some (.slice ya ys.length yc) := by rw [HD4.out.own.row.cellAt j (by omega)]; exact huj.out
                have K7 : Hid (w7.heap[C]? = some (.cells #[.int .i64 (τ : Int), .slice (some ⟨R, 0, none⟩) X.length uc] 26 (0, 0))) := (N7 C (Array.getElem?_eq_some_iff.1 HD4.out.box).1 (fun e => row_not_box HOj4.out HD4.out.box e)).trans HD4.out.box
                have cR7 : w7.cell? ⟨R, j, none⟩ = some (.slice ya ys.length yc) := (World.cell?_of_block (N7 R (World.block_lt_of_cell? _ _ cj4) (fun e => row_kind HOj4.out HD4.out.own.row (by decide) e rfl))).trans cj4
                have f7 : w7.frozen? ⟨R, j, none⟩ = false := (World.frozen?_of_block (N7 R (World.block_lt_of_cell? _ _ cj4) (fun e => row_kind HOj4.out HD4.out.own.row (by decide) e rfl))).trans (HD4.out.own.row.frozenAt j)
                have O7 := came_put (zs := ys ++ [(1 + x4)]) HD4.out.own HD4.out.apart HOj4.out huj.out hjX N7 (by simpa [ints] using own7) (fun k hk => (fresh7 k hk).imp id (fun h => Nat.le_trans Ba.out.size h))
                have L7 : Below (w.heap.size + 1) w4 w7 := ⟨grow7.os.trans Ba.out.os, grow7.tape.trans Ba.out.tape, grow7.output.trans Ba.out.output, Nat.le_trans Ba.out.size grow7.size, fun b hb => (grow7.block b (Nat.lt_of_lt_of_le hb (Nat.le_trans HD4.out.size Ba.out.size)) (fun e => absurd (HOj4.out.lt b e.symm).1 (by omega))).trans (Ba.out.block b (Nat.lt_of_lt_of_le hb HD4.out.size))⟩
                have D8 : Hid (DQ w g bs C R uc τ (us.set j (.slice va vn vc)) (X.set j (ys ++ [(1 + x4)])) X.length (w7.setCell ⟨R, j, none⟩ (.slice va vn vc))) := HD4.out.put L7 K7.out O7.1 O7.2 hRC hRlo
                clear own7 grow7 fresh7 N7 HOj4 cj4 L7 O7
                refine hK.out _ _ (Or.inr ⟨(two_cellsQ K7.out).2.1, cR7⟩) (fun hHeld => ?_)
                replace hHeld := hHeld.resolve_left (by decide)
                clear hK K
                try simp only [Act.put, List.setIfInBounds_toArray, List.set_cons_zero, List.set_cons_succ]
                refine wpAnyG_take (i := 13) (oi := ?oin913) (v := .pointer (some ⟨R, j, none⟩)) ?hin913 (by kernel_rfl) (by kernel_rfl) (by kernel_rfl) (by kernel_rfl) ?hqn913 ?hys.length913 hHeld ?hrn913
                case hin913 =>
                  simp only [List.getElem?_toArray, List.getElem?_cons_succ, List.getElem?_cons_zero]
                  rfl
                case hqn913 => exact fun _ _ _ h => h
                case hys.length913 => exact Or.inl ⟨by kernel_rfl, fun w hSw => by go_simp⟩
                try simp only [Act.put, List.setIfInBounds_toArray, List.set_cons_zero, List.set_cons_succ]
                refine wpAnyG_ready (rs := [14]) (by kernel_rfl) (by simp) ?_
                refine (AllReadyG.cons (o := ?oon914) ?hon914 (fun K hK => ?hkn914) AllReadyG.nil)
                case hon914 =>
                  simp only [List.getElem?_toArray, List.getElem?_cons_succ, List.getElem?_cons_zero]
                  rfl
                case hkn914 =>
                  go_simp
                  try go_wp2_with fail
                  refine hK.out _ _ (Or.inl rfl) (fun _ => ?_)
                  clear hK K
                  try simp only [Act.put, List.setIfInBounds_toArray, List.set_cons_zero, List.set_cons_succ]
                  refine wpAnyG_done (by kernel_rfl) ?_ _
                  obtain ⟨D9, hD9⟩ : ∃ W, w7.setCell ⟨R, j, none⟩ (.slice va vn vc) = W := ⟨_, rfl⟩
                  rw [hD9] at D8 ⊢
                  have HX5 : Hid (∀ x ∈ X.set j (ys ++ [1 + x4]), x.length ≤ 5) := fun x hx => by
                    rcases List.mem_or_eq_of_mem_set hx with hx | hx
                    · exact h5 x hx
                    · subst hx; simp; omega
                  have HD9 : Hid (DQ w g bs C R uc τ (us.set j (.slice va vn vc)) (X.set j (ys ++ [1 + x4])) (X.set j (ys ++ [1 + x4])).length D9) := by
                    have h9 := D8.out
                    have e9 : (X.set j (ys ++ [1 + x4])).length = X.length := by simp
                    rw [e9]; exact h9
                  have HX8 : Hid ((X.set j (ys ++ [1 + x4])).length = 8) := by show (X.set j (ys ++ [1 + x4])).length = 8; have := H8.out; simp; exact this
                  clear D8 hD9 K7 cR7 f7 Ba La Va HD4 HD d0 d1 cj
                  go_wp2
                  go_roundw
                  case rel => exact ⟨n - 1, τ, _, _, by omega, by omega, by go_num, hτ, HX8.out, HX5.out, HD9.out⟩
                  case measure => simp [intOf]; omega
        · have hf' : decide ((ys.length : Int) < 5) = false := by simp; omega
          clear hf
          go_wp2
          go_roundw
          case rel => exact ⟨n - 1, τ, us, X, by omega, by omega, by go_num, hτ, H8.out, h5, HD.out⟩
          case measure => simp [intOf]; omega
    · have hn' : decide ((0 : Int) < n) = false := by simpa using hn
      clear hn
      go_wp2_with fail
      go_at_call 34
      refine (l1Once g bs 14 (by omega) wr hl HD0.out.cur).mono ?_
      rintro e w4 ⟨b, rfl, hc4, hg4⟩
      have HD1 : Hid (DQ w g bs C R uc τ us X X.length w4) := HD0.out.draw hc4 hg4 hgw
      clear hc4 hg4 HD0
      cases b with
      | false =>
        obtain ⟨d0, d1, -, -⟩ := two_cellsQ HD1.out.box
        obtain ⟨r0, r1, x0, x1⟩ := two_cellsQ HD1.out.res
        have R9 := two_setQ HD1.out.res (.int .i64 (τ : Int)) (.slice (some ⟨R, 0, none⟩) X.length uc)
        obtain ⟨y0, y1, _, _⟩ := two_cellsQ R9
        go_wp2
        refine bodyPost_ret (v := .agg #[.int .i64 (τ : Int), .slice (some ⟨R, 0, none⟩) X.length uc]) (by simp [results, Try.results32, go_sem, y0, y1]) rfl ?_
        exact ⟨_, _, X, rfl, h8a, fun x hx => by have := h5 x hx; omega, fun W' hW => (OwnSS.hi ((HD1.out.own.set (by omega)).set (by omega)) hW).reads, DQ.fin_cur HD1.out hgw, DQ.fin_low HD1.out⟩
      | true =>
        go_wp2_with fail
        go_at_call 33
        refine (l1Below g bs 3 (by omega) w4 hl HD1.out.cur).mono ?_
        rintro e w5 ⟨x5, rfl, hx50, hx51, -, hc5, hg5⟩
        have hx53 := hx51 (by omega)
        have HD : Hid (DQ w g bs C R uc τ us X X.length w5) := HD1.out.draw hc5 hg5 hgw
        clear hc5 hg5 hx51 HD1
        obtain ⟨d0, d1, d2, d3⟩ := two_cellsQ HD.out.box
        obtain hx | hx | hx : x5 = 0 ∨ x5 = 1 ∨ x5 = 2 := by omega
        · subst hx
          have hW6 : Below w5.heap.size w5 (w5.alloc (.cells #[.int .i64 (-1), .int .i64 7, .int .i64 8] 2)) := by go_grown
          obtain ⟨w6, hw6⟩ : ∃ w6, w5.alloc (.cells #[.int .i64 (-1), .int .i64 7, .int .i64 8] 2) = w6 := ⟨_, rfl⟩
          rw [hw6] at hW6
          have HD6 : Hid (DQ w g bs C R uc τ us X X.length w6) := HD.out.below hW6 hgw
          obtain ⟨LB, hLB⟩ : ∃ LB, w5.heap.size = LB := ⟨_, rfl⟩
          have HL6 : Hid (w6.heap[LB]? = some (.cells #[.int .i64 (-1), .int .i64 7, .int .i64 8] 2 (0, 0))) := by
            show w6.heap[LB]? = _
            rw [← hw6, ← hLB]; exact heap_alloc_new w5 _
          have hcl := l1Below g bs 3 (by omega) w6 hl HD6.out.cur
          have hgL : LB ≠ g := by have := HD.out.size; omega
          clear d0 d1 d2 d3
          go_wp2_with fail
          go_at_call 33
          clear hw6 hLB
          refine hcl.mono ?_
          rintro e w7 ⟨x7, rfl, hx70, hx71, -, hc7, hg7⟩
          have hx73 := hx71 (by omega)
          have HD7 : Hid (DQ w g bs C R uc τ us X X.length w7) := HD6.out.draw hc7 hg7 hgw
          have HL7 := (hg7.block LB (Array.getElem?_eq_some_iff.1 HL6.out).1 (fun e => hgL (Option.some.inj e))).trans HL6.out
          obtain ⟨yn, rfl⟩ : ∃ yn : Nat, x7 = (yn : Int) := ⟨x7.toNat, by omega⟩
          obtain ⟨z7, hz7⟩ : ∃ z7, w7.cell? ⟨LB, yn, none⟩ = some (.int .i64 z7) := by
            obtain h | h | h : yn = 0 ∨ yn = 1 ∨ yn = 2 := by omega
            all_goals
              subst h
              simp [World.cell?, HL7]
          clear hcl hc7 hg7 hx71 HD HD6 HL6 HL7
          obtain ⟨d0, d1, d2, d3⟩ := two_cellsQ HD7.out.box
          have hB8 : (w7.setCell ⟨C, 0, none⟩ (.int .i64 z7)).heap[C]? = some (.cells #[.int .i64 z7, .slice (some ⟨R, 0, none⟩) X.length uc] 26 (0, 0)) := by
            have h9 := heap_setCell_same w7 C 0 _ _ (.int .i64 z7) HD7.out.box
            simpa using h9
          have hR8 : (w7.setCell ⟨C, 0, none⟩ (.int .i64 z7)).heap[w.heap.size]? = some (.cells #[.int .i64 0, .slice none 0 0] 26 (0, 0)) := (Below.heap_setCell _ _ _ _ (by simp; omega)).trans HD7.out.res
          have hO8 : OwnSS (w7.setCell ⟨C, 0, none⟩ (.int .i64 z7)) (w.heap.size + 1) (.slice (some ⟨R, 0, none⟩) X.length uc) us X := ownSS_box HD7.out.own HD7.out.box
          have hL8 : Below w.heap.size w7 (w7.setCell ⟨C, 0, none⟩ (.int .i64 z7)) := (Below.refl _ _).setCell (by simp; omega) _
          have HR8 : Hid _ := hR8
          have HO8 : Hid _ := hO8
          have HB8 : Hid _ := hB8
          have HC8 : Hid (Cur (w7.setCell ⟨C, 0, none⟩ (.int .i64 z7)) g bs) := cur_low HD7.out.cur hL8 hgw
          have HG8 : Hid (w.grownBy (w7.setCell ⟨C, 0, none⟩ (.int .i64 z7)) (some g)) := grown_low HD7.out.low hL8 (Nat.le_refl _)
          obtain ⟨r0, r1, x0, x1⟩ := two_cellsQ HD7.out.res
          have R9 := two_setQ HR8.out (.int .i64 z7) (.slice (some ⟨R, 0, none⟩) X.length uc)
          obtain ⟨y0, y1, _, _⟩ := two_cellsQ R9
          have hCw : ¬ C = w.heap.size := by omega
          have hCw2 : ¬ w.heap.size = C := by omega
          clear hB8 hR8 hO8 hL8 HD7 R9
          go_wp2
          refine bodyPost_ret (v := .agg #[.int .i64 z7, .slice (some ⟨R, 0, none⟩) X.length uc]) (by simp [results, Try.results32, go_sem, y0, y1]) rfl ?_
          exact ⟨z7, _, X, rfl, h8a, fun x hx => by have := h5 x hx; omega, fun W' hW => (OwnSS.hi ((HO8.out.set (by omega)).set (by omega)) hW).reads, cur_low HC8.out (((Below.refl w.heap.size _).setCell (by simp) _).setCell (by simp) _) hgw, grown_low HG8.out (((Below.refl w.heap.size _).setCell (by simp) _).setCell (by simp) _) (Nat.le_refl _)⟩
        · subst hx
          have hcap : X.length ≤ uc := by
            rcases HD.out.own.row.2 with ⟨e, _⟩ | ⟨g9, c9, cur, e, _, _, h9, _⟩
            · simp at e
            · simp at e; omega
          obtain ⟨to9, tm9, tc9, hrun9, htm, hto⟩ := tail_sliceSS R X.length uc (by omega) hcap
          obtain ⟨r0, r1, x0, x1⟩ := two_cellsQ HD.out.res
          have hCw : ¬ C = w.heap.size := by omega
          have hCw2 : ¬ w.heap.size = C := by omega
          have HR8 : Hid ((w5.setCell ⟨C, 1, none⟩ (.slice (some ⟨R, to9, none⟩) tm9 tc9)).heap[w.heap.size]? = some (.cells #[.int .i64 0, .slice none 0 0] 26 (0, 0))) := (Below.heap_setCell _ _ _ _ (by simp; omega)).trans HD.out.res
          have HO8 : Hid (OwnSS (w5.setCell ⟨C, 1, none⟩ (.slice (some ⟨R, to9, none⟩) tm9 tc9)) (w.heap.size + 1) (.slice (some ⟨R, 0, none⟩) X.length uc) us X) := ownSS_box HD.out.own HD.out.box
          have hL8 : Below w.heap.size w5 (w5.setCell ⟨C, 1, none⟩ (.slice (some ⟨R, to9, none⟩) tm9 tc9)) := (Below.refl _ _).setCell (by simp; omega) _
          have HC8 : Hid (Cur (w5.setCell ⟨C, 1, none⟩ (.slice (some ⟨R, to9, none⟩) tm9 tc9)) g bs) := cur_low HD.out.cur hL8 hgw
          have HG8 : Hid (w.grownBy (w5.setCell ⟨C, 1, none⟩ (.slice (some ⟨R, to9, none⟩) tm9 tc9)) (some g)) := grown_low HD.out.low hL8 (Nat.le_refl _)
          have R9 := two_setQ HR8.out (.int .i64 (τ : Int)) (.slice (some ⟨R, to9, none⟩) tm9 tc9)
          obtain ⟨y0, y1, _, _⟩ := two_cellsQ R9
          have HTM : Hid _ := htm
          have HTO : Hid (to9 = 1 ∨ X.length = 1) := by rcases hto with h | ⟨_, h⟩; exact .inl h; exact .inr h
          clear htm hto R9 hL8 HD
          go_wp2
          refine bodyPost_ret (v := .agg #[.int .i64 (τ : Int), .slice (some ⟨R, to9, none⟩) tm9 tc9]) (by simp [results, Try.results32, go_sem, y0, y1]) rfl ?_
          exact ⟨_, _, X.tail, rfl, by rw [List.length_tail]; omega, fun x hx => by have := h5 x (List.mem_of_mem_tail hx); omega, fun W' hW => readsSS_tail (OwnSS.hi ((HO8.out.set (by omega)).set (by omega)) hW) HTM.out HTO.out, cur_low HC8.out (((Below.refl w.heap.size _).setCell (by simp) _).setCell (by simp) _) hgw, grown_low HG8.out (((Below.refl w.heap.size _).setCell (by simp) _).setCell (by simp) _) (Nat.le_refl _)⟩
        · subst hx
          obtain ⟨j, hj00⟩ : ∃ j : Nat, j = 0 := ⟨0, rfl⟩
          have hjX : j < X.length := by omega
          obtain ⟨ys, hys⟩ : ∃ ys, X[j] = ys := ⟨_, rfl⟩
          have HXJ : Hid (X[j]? = some ys) := by show X[j]? = some ys; rw [← hys]; simp [hjX]
          have hle : ys.length ≤ 5 := by rw [← hys]; exact h5 _ (List.getElem_mem hjX)
          clear hys
          have hlu := HD.out.own.len
          have huj0 : us[j]? = some (us[j]'(by omega)) := by simp [hlu, hjX]
          generalize us[j]'(by omega) = y at huj0
          have hOj := HD.out.own.each j y ys huj0 HXJ.out
          obtain ⟨ya, yn, yc, rfl⟩ := own_sliceQ hOj
          have huj : Hid _ := huj0
          have cj : w5.cell? ⟨R, j, none⟩ = some (.slice ya yn yc) := by rw [HD.out.own.row.cellAt j (by omega)]; exact huj.out
          have hXp : (0 : Int) < (X.length : Int) := by omega
          subst hj00
          clear hlu huj0 hOj
          go_wp2_with fail
          refine wp_region_late (S := fun w' => w'.cell? ⟨C, 1, none⟩ = some (.slice (some ⟨R, 0, none⟩) X.length uc) ∧ w'.cell? ⟨R, 0, none⟩ = some (.slice ya yn yc)) (late := fun j => j == 14) (by kernel_rfl) ⟨d1, cj⟩ (fun hHeld => ?_)
          refine wpAnyG_take (i := 0) (oi := ?ois170) (v := .pointer (some ⟨C, 1, none⟩)) ?his170 (by kernel_rfl) (by kernel_rfl) (by kernel_rfl) (by kernel_rfl) ?hqs170 ?hys170 hHeld ?hrs170
          case his170 =>
            simp only [List.getElem?_toArray, List.getElem?_cons_succ, List.getElem?_cons_zero]
            rfl
          case hqs170 => exact fun _ _ _ h => h
          case hys170 => exact Or.inl ⟨by kernel_rfl, fun w hSw => by go_simp⟩
          try simp only [Act.put, List.setIfInBounds_toArray, List.set_cons_zero, List.set_cons_succ]
          refine wpAnyG_take (i := 1) (oi := ?ois171) (v := .slice (some ⟨R, 0, none⟩) X.length uc) ?his171 (by kernel_rfl) (by kernel_rfl) (by kernel_rfl) (by kernel_rfl) ?hqs171 ?hys171 hHeld ?hrs171
          case his171 =>
            simp only [List.getElem?_toArray, List.getElem?_cons_succ, List.getElem?_cons_zero]
            rfl
          case hqs171 => exact fun _ _ _ h => h
          case hys171 => exact Or.inl ⟨by kernel_rfl, fun w hSw => by obtain ⟨s0, s1⟩ := hSw; go_simp⟩
          try simp only [Act.put, List.setIfInBounds_toArray, List.set_cons_zero, List.set_cons_succ]
          refine wpAnyG_take (i := 2) (oi := ?ois172) (v := .pointer (some ⟨C, 1, none⟩)) ?his172 (by kernel_rfl) (by kernel_rfl) (by kernel_rfl) (by kernel_rfl) ?hqs172 ?hys172 hHeld ?hrs172
          case his172 =>
            simp only [List.getElem?_toArray, List.getElem?_cons_succ, List.getElem?_cons_zero]
            rfl
          case hqs172 => exact fun _ _ _ h => h
          case hys172 => exact Or.inl ⟨by kernel_rfl, fun w hSw => by go_simp⟩
          try simp only [Act.put, List.setIfInBounds_toArray, List.set_cons_zero, List.set_cons_succ]
          refine wpAnyG_take (i := 3) (oi := ?ois173) (v := .slice (some ⟨R, 0, none⟩) X.length uc) ?his173 (by kernel_rfl) (by kernel_rfl) (by kernel_rfl) (by kernel_rfl) ?hqs173 ?hys173 hHeld ?hrs173
          case his173 =>
            simp only [List.getElem?_toArray, List.getElem?_cons_succ, List.getElem?_cons_zero]
            rfl
          case hqs173 => exact fun _ _ _ h => h
          case hys173 => exact Or.inl ⟨by kernel_rfl, fun w hSw => by obtain ⟨s0, s1⟩ := hSw; go_simp⟩
          try simp only [Act.put, List.setIfInBounds_toArray, List.set_cons_zero, List.set_cons_succ]
          refine wpAnyG_take (i := 4) (oi := ?ois174) (v := .pointer (some ⟨R, 0, none⟩)) ?his174 (by kernel_rfl) (by kernel_rfl) (by kernel_rfl) (by kernel_rfl) ?hqs174 ?hys174 hHeld ?hrs174
          case his174 =>
            simp only [List.getElem?_toArray, List.getElem?_cons_succ, List.getElem?_cons_zero]
            rfl
          case hqs174 => exact fun _ _ _ h => h
          case hys174 => exact Or.inl ⟨by kernel_rfl, fun w hSw => by go_simp⟩
          try simp only [Act.put, List.setIfInBounds_toArray, List.set_cons_zero, List.set_cons_succ]
          refine wpAnyG_take (i := 5) (oi := ?ois175) (v := .slice ya yn yc) ?his175 (by kernel_rfl) (by kernel_rfl) (by kernel_rfl) (by kernel_rfl) ?hqs175 ?hys175 hHeld ?hrs175
          case his175 =>
            simp only [List.getElem?_toArray, List.getElem?_cons_succ, List.getElem?_cons_zero]
            rfl
          case hqs175 => exact fun _ _ _ h => h
          case hys175 => exact Or.inl ⟨by kernel_rfl, fun w hSw => by obtain ⟨s0, s1⟩ := hSw; go_simp⟩
          try simp only [Act.put, List.setIfInBounds_toArray, List.set_cons_zero, List.set_cons_succ]
          refine wpAnyG_take (i := 7) (oi := ?ois177) (v := .pointer (some ⟨g, 0, none⟩)) ?his177 (by kernel_rfl) (by kernel_rfl) (by kernel_rfl) (by kernel_rfl) ?hqs177 ?hys177 hHeld ?hrs177
          case his177 =>
            simp only [List.getElem?_toArray, List.getElem?_cons_succ, List.getElem?_cons_zero]
            rfl
          case hqs177 => exact fun _ _ _ h => h
          case hys177 => exact Or.inl ⟨by kernel_rfl, fun w hSw => by go_simp⟩
          try simp only [Act.put, List.setIfInBounds_toArray, List.set_cons_zero, List.set_cons_succ]
          refine wpAnyG_ready (rs := [6, 8]) (by kernel_rfl) (by simp) ?_
          refine (AllReadyG.cons (o := ?oos176) ?hos176 (fun K hK => ?hks176) (AllReadyG.cons (o := ?oos178) ?hos178 (fun K hK => ?hks178) AllReadyG.nil))
          case hos176 =>
            simp only [List.getElem?_toArray, List.getElem?_cons_succ, List.getElem?_cons_zero]
            rfl
          case hos178 =>
            simp only [List.getElem?_toArray, List.getElem?_cons_succ, List.getElem?_cons_zero]
            rfl
          case hks176 =>
            go_simp
            try go_wp2_with fail
            have Bb : Below w5.heap.size w5.drew (w5.drew.alloc (.cells #[.int .i64 0, .int .i64 1000000, .int .i64 1000001] 2)) := Below.alloc (Below.refl w5.heap.size w5.drew) (Nat.le_refl _) _
            obtain ⟨LB, hLB⟩ : ∃ LB, w5.heap.size = LB := ⟨_, rfl⟩
            have LBb : (w5.drew.alloc (.cells #[.int .i64 0, .int .i64 1000000, .int .i64 1000001] 2)).heap[LB]? = some (.cells #[.int .i64 0, .int .i64 1000000, .int .i64 1000001] 2 (0, 0)) := by rw [← hLB]; exact heap_alloc_new w5.drew _
            rw [hLB]
            refine hK.out _ _ (Or.inr ⟨(two_cellsQ (HD.out.drew.below Bb hgw).box).2.1, ((HD.out.drew.below Bb hgw).own.row.cellAt 0 (by omega)).trans huj.out⟩) (fun hHeld => ?_)
            replace hHeld := hHeld.resolve_left (by decide)
            clear hK K
            try simp only [Act.put, List.setIfInBounds_toArray, List.set_cons_zero, List.set_cons_succ]
            refine wpAnyG_ready (rs := [8]) (by kernel_rfl) (by simp) ?_
            refine (AllReadyG.cons (o := ?oos17a8) ?hos17a8 (fun K hK => ?hks17a8) AllReadyG.nil)
            case hos17a8 =>
              simp only [List.getElem?_toArray, List.getElem?_cons_succ, List.getElem?_cons_zero]
              rfl
            case hks17a8 =>
              go_simp
              go_at_call 33
              refine (l1Below g bs 3 (by omega) _ hl (HD.out.drew.below Bb hgw).cur).mono ?_
              rintro e w4 ⟨x40, rfl, hx40, hx41, -, hc4, hg4⟩
              have hx3 := hx41 (by omega)
              obtain ⟨x4, rfl⟩ : ∃ x4 : Nat, x40 = (x4 : Int) := ⟨x40.toNat, by omega⟩
              have HD4 : Hid (DQ w g bs C R uc τ us X X.length w4) := (HD.out.drew.below Bb hgw).draw hc4 hg4 hgw
              have HLB : w4.heap[LB]? = some (.cells #[.int .i64 0, .int .i64 1000000, .int .i64 1000001] 2 (0, 0)) := (hg4.block LB (Array.getElem?_eq_some_iff.1 LBb).1 (fun e => by cases e; have := HD.out.size; omega)).trans LBb
              obtain ⟨z4, hz4⟩ : ∃ z4, w4.cell? ⟨LB, x4, none⟩ = some (.int .i64 z4) := by
                obtain h | h | h : x4 = 0 ∨ x4 = 1 ∨ x4 = 2 := by omega
                all_goals
                  subst h
                  simp [World.cell?, HLB]
              clear hc4 hg4 hx41 HLB
              try go_wp2_with fail
              refine hK.out _ _ (Or.inr ⟨(two_cellsQ HD4.out.box).2.1, (HD4.out.own.row.cellAt 0 (by omega)).trans huj.out⟩) (fun hHeld => ?_)
              replace hHeld := hHeld.resolve_left (by decide)
              clear hK K
              try simp only [Act.put, List.setIfInBounds_toArray, List.set_cons_zero, List.set_cons_succ]
              refine wpAnyG_take (i := 9) (oi := ?ois17a9) (v := .pointer (some ⟨LB, x4, none⟩)) ?his17a9 (by kernel_rfl) (by kernel_rfl) (by kernel_rfl) (by kernel_rfl) ?hqs17a9 ?hys17a9 hHeld ?hrs17a9
              case his17a9 =>
                simp only [List.getElem?_toArray, List.getElem?_cons_succ, List.getElem?_cons_zero]
                rfl
              case hqs17a9 => exact fun _ _ _ h => h
              case hys17a9 => exact Or.inl ⟨by kernel_rfl, fun w hSw => by go_simp⟩
              try simp only [Act.put, List.setIfInBounds_toArray, List.set_cons_zero, List.set_cons_succ]
              refine wpAnyG_ready (rs := [10]) (by kernel_rfl) (by simp) ?_
              refine (AllReadyG.cons (o := ?oos17a10) ?hos17a10 (fun K hK => ?hks17a10) AllReadyG.nil)
              case hos17a10 =>
                simp only [List.getElem?_toArray, List.getElem?_cons_succ, List.getElem?_cons_zero]
                rfl
              case hks17a10 =>
                go_simp
                go_simp
                try go_wp2_with fail
                refine hK.out _ _ (Or.inr ⟨(two_cellsQ HD4.out.box).2.1, (HD4.out.own.row.cellAt 0 (by omega)).trans huj.out⟩) (fun hHeld => ?_)
                replace hHeld := hHeld.resolve_left (by decide)
                clear hK K
                try simp only [Act.put, List.setIfInBounds_toArray, List.set_cons_zero, List.set_cons_succ]
                refine wpAnyG_ready (rs := [11]) (by kernel_rfl) (by simp) ?_
                refine (AllReadyG.cons (o := ?oos17a11) ?hos17a11 (fun K hK => ?hks17a11) AllReadyG.nil)
                case hos17a11 =>
                  simp only [List.getElem?_toArray, List.getElem?_cons_succ, List.getElem?_cons_zero]
                  rfl
                case hks17a11 =>
                  go_simp
                  try go_wp2_with fail
                  have Ba : Hid (Below w4.heap.size w4 (w4.alloc (.cells #[.int .i64 z4] 2))) := Below.alloc (Below.refl _ _) (Nat.le_refl _) _
                  have La : Hid ((w4.alloc (.cells #[.int .i64 z4] 2)).heap[w4.heap.size]? = some (.cells #[.int .i64 z4] 2 (0, 0))) := heap_alloc_new w4 _
                  have Va : Hid ((w4.alloc (.cells #[.int .i64 z4] 2)).ownsRow (w.heap.size + 1) 2 1 (.slice ya yn yc) ys.length (ints ys)) := (HD4.out.own.each 0 _ ys huj.out HXJ.out).alloc _
                  refine hK.out _ _ (Or.inr ⟨(two_cellsQ (HD4.out.below Ba.out hgw).box).2.1, ((HD4.out.below Ba.out hgw).own.row.cellAt 0 (by omega)).trans huj.out⟩) (fun hHeld => ?_)
                  replace hHeld := hHeld.resolve_left (by decide)
                  clear hK K
                  try simp only [Act.put, List.setIfInBounds_toArray, List.set_cons_zero, List.set_cons_succ]
                  refine wpAnyG_ready (rs := [12]) (by kernel_rfl) (by simp) ?_
                  refine (AllReadyG.cons (o := ?oos17a12) ?hos17a12 (fun K hK => ?hks17a12) AllReadyG.nil)
                  case hos17a12 =>
                    simp only [List.getElem?_toArray, List.getElem?_cons_succ, List.getElem?_cons_zero]
                    rfl
                  case hks17a12 =>
                    refine step_append_anyQ _ rfl (.tmp 64) (.tmp 70) 33 rfl (w.heap.size + 1) 2 j0 (.int .i64 0) 1 8 Try.underlying33 hj hy0 hy1 hy2 rfl (by decide) (.slice ya yn yc) ys.length (ints ys) rfl Va.out (some ⟨w4.heap.size, 0, none⟩) 1 1 [.int .i64 z4] rfl rfl (fun _ => ⟨_, rfl, lit_cellsQ La.out⟩) (by simp [Value.oneCell']) (by unfold maxLen; omega) (by omega) (Nat.le_trans HD4.out.size Ba.out.size) ?_
                    intro v7 w7 own7 grow7 fresh7
                    obtain ⟨va, vn, vc, rfl⟩ := own_sliceQ own7
                    have N7 : ∀ b, b < w4.heap.size → (Value.slice ya yn yc).ownBlock ≠ some b → w7.heap[b]? = w4.heap[b]? := fun b hb hne => (grow7.block b (Nat.lt_of_lt_of_le hb Ba.out.size) (fun e => hne e.symm)).trans (Ba.out.block b hb)
                    have HOj4 : Hid (w4.ownsRow (w.heap.size + 1) 2 1 (.slice ya yn yc) ys.length (ints ys)) := HD4.out.own.each 0 _ ys huj.out HXJ.out
                    have cj4 : w4.cell? ⟨R, 0, none⟩ = some (.slice ya yn yc) := by rw [HD4.out.own.row.cellAt 0 (by omega)]; exact huj.out
                    have K7 : Hid (w7.heap[C]? = some (.cells #[.int .i64 (τ : Int), .slice (some ⟨R, 0, none⟩) X.length uc] 26 (0, 0))) := (N7 C (Array.getElem?_eq_some_iff.1 HD4.out.box).1 (fun e => row_not_box HOj4.out HD4.out.box e)).trans HD4.out.box
                    have cR7 : w7.cell? ⟨R, 0, none⟩ = some (.slice ya yn yc) := (World.cell?_of_block (N7 R (World.block_lt_of_cell? _ _ cj4) (fun e => row_kind HOj4.out HD4.out.own.row (by decide) e rfl))).trans cj4
                    have f7 : w7.frozen? ⟨R, 0, none⟩ = false := (World.frozen?_of_block (N7 R (World.block_lt_of_cell? _ _ cj4) (fun e => row_kind HOj4.out HD4.out.own.row (by decide) e rfl))).trans (HD4.out.own.row.frozenAt 0)
                    have O7 := came_put (zs := ys ++ [z4]) HD4.out.own HD4.out.apart HOj4.out huj.out hjX N7 (by simpa [ints] using own7) (fun k hk => (fresh7 k hk).imp id (fun h => Nat.le_trans Ba.out.size h))
                    have L7 : Below (w.heap.size + 1) w4 w7 := ⟨grow7.os.trans Ba.out.os, grow7.tape.trans Ba.out.tape, grow7.output.trans Ba.out.output, Nat.le_trans Ba.out.size grow7.size, fun b hb => (grow7.block b (Nat.lt_of_lt_of_le hb (Nat.le_trans HD4.out.size Ba.out.size)) (fun e => absurd (HOj4.out.lt b e.symm).1 (by omega))).trans (Ba.out.block b (Nat.lt_of_lt_of_le hb HD4.out.size))⟩
                    have D8 : Hid (DQ w g bs C R uc τ (us.set 0 (.slice va vn vc)) (X.set 0 (ys ++ [z4])) X.length (w7.setCell ⟨R, 0, none⟩ (.slice va vn vc))) := HD4.out.put L7 K7.out O7.1 O7.2 hRC hRlo
                    clear own7 grow7 fresh7 N7 HOj4 cj4 L7 O7
                    refine hK.out _ _ (Or.inr ⟨(two_cellsQ K7.out).2.1, cR7⟩) (fun hHeld => ?_)
                    replace hHeld := hHeld.resolve_left (by decide)
                    clear hK K
                    try simp only [Act.put, List.setIfInBounds_toArray, List.set_cons_zero, List.set_cons_succ]
                    refine wpAnyG_take (i := 13) (oi := ?ois17a13) (v := .pointer (some ⟨R, 0, none⟩)) ?his17a13 (by kernel_rfl) (by kernel_rfl) (by kernel_rfl) (by kernel_rfl) ?hqs17a13 ?hys17a13 hHeld ?hrs17a13
                    case his17a13 =>
                      simp only [List.getElem?_toArray, List.getElem?_cons_succ, List.getElem?_cons_zero]
                      rfl
                    case hqs17a13 => exact fun _ _ _ h => h
                    case hys17a13 => exact Or.inl ⟨by kernel_rfl, fun w hSw => by go_simp⟩
                    try simp only [Act.put, List.setIfInBounds_toArray, List.set_cons_zero, List.set_cons_succ]
                    refine wpAnyG_ready (rs := [14]) (by kernel_rfl) (by simp) ?_
                    refine (AllReadyG.cons (o := ?oos17a14) ?hos17a14 (fun K hK => ?hks17a14) AllReadyG.nil)
                    case hos17a14 =>
                      simp only [List.getElem?_toArray, List.getElem?_cons_succ, List.getElem?_cons_zero]
                      rfl
                    case hks17a14 =>
                      go_simp
                      try go_wp2_with fail
                      refine hK.out _ _ (Or.inl rfl) (fun _ => ?_)
                      clear hK K
                      try simp only [Act.put, List.setIfInBounds_toArray, List.set_cons_zero, List.set_cons_succ]
                      refine wpAnyG_done (by kernel_rfl) ?_ _
                      obtain ⟨D9, hD9⟩ : ∃ W, w7.setCell ⟨R, 0, none⟩ (.slice va vn vc) = W := ⟨_, rfl⟩
                      rw [hD9] at D8 ⊢
                      clear hD9 K7 cR7 f7 Ba La Va HD4 HD d0 d1 d2 d3 cj hz4
                      obtain ⟨e0, e1, -, -⟩ := two_cellsQ D8.out.box
                      obtain ⟨r0, r1, x0, x1⟩ := two_cellsQ D8.out.res
                      have R9 := two_setQ D8.out.res (.int .i64 (τ : Int)) (.slice (some ⟨R, 0, none⟩) X.length uc)
                      obtain ⟨y0, y1, _, _⟩ := two_cellsQ R9
                      go_wp2
                      refine bodyPost_ret (v := .agg #[.int .i64 (τ : Int), .slice (some ⟨R, 0, none⟩) X.length uc]) (by simp [results, Try.results32, go_sem, y0, y1]) rfl ?_
                      refine ⟨_, _, X.set 0 (ys ++ [z4]), rfl, by simp; omega, fun x hx => ?_, fun W' hW => (OwnSS.hi ((D8.out.own.set (by omega)).set (by omega)) hW).reads, DQ.fin_cur D8.out hgw, DQ.fin_low D8.out⟩
                      rcases List.mem_or_eq_of_mem_set hx with hx | hx
                      · have := h5 x hx; omega
                      · subst hx; simp; omega
          case hks178 =>
            go_simp
            go_at_call 33
            refine (l1Below g bs 3 (by omega) _ hl HD.out.drew.cur).mono ?_
            rintro e w3c ⟨x40, rfl, hx40, hx41, -, hc4, hg4⟩
            have hx3 := hx41 (by omega)
            obtain ⟨x4, rfl⟩ : ∃ x4 : Nat, x40 = (x4 : Int) := ⟨x40.toNat, by omega⟩
            have HDc : Hid (DQ w g bs C R uc τ us X X.length w3c) := HD.out.drew.draw hc4 hg4 hgw
            clear hc4 hg4 hx41
            try go_wp2_with fail
            refine hK.out _ _ (Or.inr ⟨(two_cellsQ HDc.out.box).2.1, (HDc.out.own.row.cellAt 0 (by omega)).trans huj.out⟩) (fun hHeld => ?_)
            replace hHeld := hHeld.resolve_left (by decide)
            clear hK K
            try simp only [Act.put, List.setIfInBounds_toArray, List.set_cons_zero, List.set_cons_succ]
            refine wpAnyG_ready (rs := [6]) (by kernel_rfl) (by simp) ?_
            refine (AllReadyG.cons (o := ?oos17b6) ?hos17b6 (fun K hK => ?hks17b6) AllReadyG.nil)
            case hos17b6 =>
              simp only [List.getElem?_toArray, List.getElem?_cons_succ, List.getElem?_cons_zero]
              rfl
            case hks17b6 =>
              go_simp
              try go_wp2_with fail
              obtain ⟨w4, hw4⟩ : ∃ W, w3c.alloc (.cells #[.int .i64 0, .int .i64 1000000, .int .i64 1000001] 2) = W := ⟨_, rfl⟩
              obtain ⟨LB, hLB⟩ : ∃ LB, w3c.heap.size = LB := ⟨_, rfl⟩
              have HLB : w4.heap[LB]? = some (.cells #[.int .i64 0, .int .i64 1000000, .int .i64 1000001] 2 (0, 0)) := by rw [← hw4, ← hLB]; exact heap_alloc_new w3c _
              have Bb : Below w3c.heap.size w3c w4 := by rw [← hw4]; exact Below.alloc (Below.refl _ _) (Nat.le_refl _) _
              have HD4 : Hid (DQ w g bs C R uc τ us X X.length w4) := HDc.out.below Bb hgw
              obtain ⟨z4, hz4⟩ : ∃ z4, w4.cell? ⟨LB, x4, none⟩ = some (.int .i64 z4) := by
                obtain h | h | h : x4 = 0 ∨ x4 = 1 ∨ x4 = 2 := by omega
                all_goals
                  subst h
                  simp [World.cell?, HLB]
              rw [hw4, hLB]
              clear hw4 hLB HLB Bb HDc
              refine hK.out _ _ (Or.inr ⟨(two_cellsQ HD4.out.box).2.1, (HD4.out.own.row.cellAt 0 (by omega)).trans huj.out⟩) (fun hHeld => ?_)
              replace hHeld := hHeld.resolve_left (by decide)
              clear hK K
              try simp only [Act.put, List.setIfInBounds_toArray, List.set_cons_zero, List.set_cons_succ]
              refine wpAnyG_take (i := 9) (oi := ?ois17b9) (v := .pointer (some ⟨LB, x4, none⟩)) ?his17b9 (by kernel_rfl) (by kernel_rfl) (by kernel_rfl) (by kernel_rfl) ?hqs17b9 ?hys17b9 hHeld ?hrs17b9
              case his17b9 =>
                simp only [List.getElem?_toArray, List.getElem?_cons_succ, List.getElem?_cons_zero]
                rfl
              case hqs17b9 => exact fun _ _ _ h => h
              case hys17b9 => exact Or.inl ⟨by kernel_rfl, fun w hSw => by go_simp⟩
              try simp only [Act.put, List.setIfInBounds_toArray, List.set_cons_zero, List.set_cons_succ]
              refine wpAnyG_ready (rs := [10]) (by kernel_rfl) (by simp) ?_
              refine (AllReadyG.cons (o := ?oos17b10) ?hos17b10 (fun K hK => ?hks17b10) AllReadyG.nil)
              case hos17b10 =>
                simp only [List.getElem?_toArray, List.getElem?_cons_succ, List.getElem?_cons_zero]
                rfl
              case hks17b10 =>
                go_simp
                go_simp
                try go_wp2_with fail
                refine hK.out _ _ (Or.inr ⟨(two_cellsQ HD4.out.box).2.1, (HD4.out.own.row.cellAt 0 (by omega)).trans huj.out⟩) (fun hHeld => ?_)
                replace hHeld := hHeld.resolve_left (by decide)
                clear hK K
                try simp only [Act.put, List.setIfInBounds_toArray, List.set_cons_zero, List.set_cons_succ]
                refine wpAnyG_ready (rs := [11]) (by kernel_rfl) (by simp) ?_
                refine (AllReadyG.cons (o := ?oos17b11) ?hos17b11 (fun K hK => ?hks17b11) AllReadyG.nil)
                case hos17b11 =>
                  simp only [List.getElem?_toArray, List.getElem?_cons_succ, List.getElem?_cons_zero]
                  rfl
                case hks17b11 =>
                  go_simp
                  try go_wp2_with fail
                  have Ba : Hid (Below w4.heap.size w4 (w4.alloc (.cells #[.int .i64 z4] 2))) := Below.alloc (Below.refl _ _) (Nat.le_refl _) _
                  have La : Hid ((w4.alloc (.cells #[.int .i64 z4] 2)).heap[w4.heap.size]? = some (.cells #[.int .i64 z4] 2 (0, 0))) := heap_alloc_new w4 _
                  have Va : Hid ((w4.alloc (.cells #[.int .i64 z4] 2)).ownsRow (w.heap.size + 1) 2 1 (.slice ya yn yc) ys.length (ints ys)) := (HD4.out.own.each 0 _ ys huj.out HXJ.out).alloc _
                  refine hK.out _ _ (Or.inr ⟨(two_cellsQ (HD4.out.below Ba.out hgw).box).2.1, ((HD4.out.below Ba.out hgw).own.row.cellAt 0 (by omega)).trans huj.out⟩) (fun hHeld => ?_)
                  replace hHeld := hHeld.resolve_left (by decide)
                  clear hK K
                  try simp only [Act.put, List.setIfInBounds_toArray, List.set_cons_zero, List.set_cons_succ]
                  refine wpAnyG_ready (rs := [12]) (by kernel_rfl) (by simp) ?_
                  refine (AllReadyG.cons (o := ?oos17b12) ?hos17b12 (fun K hK => ?hks17b12) AllReadyG.nil)
                  case hos17b12 =>
                    simp only [List.getElem?_toArray, List.getElem?_cons_succ, List.getElem?_cons_zero]
                    rfl
                  case hks17b12 =>
                    refine step_append_anyQ _ rfl (.tmp 64) (.tmp 70) 33 rfl (w.heap.size + 1) 2 j0 (.int .i64 0) 1 8 Try.underlying33 hj hy0 hy1 hy2 rfl (by decide) (.slice ya yn yc) ys.length (ints ys) rfl Va.out (some ⟨w4.heap.size, 0, none⟩) 1 1 [.int .i64 z4] rfl rfl (fun _ => ⟨_, rfl, lit_cellsQ La.out⟩) (by simp [Value.oneCell']) (by unfold maxLen; omega) (by omega) (Nat.le_trans HD4.out.size Ba.out.size) ?_
                    intro v7 w7 own7 grow7 fresh7
                    obtain ⟨va, vn, vc, rfl⟩ := own_sliceQ own7
                    have N7 : ∀ b, b < w4.heap.size → (Value.slice ya yn yc).ownBlock ≠ some b → w7.heap[b]? = w4.heap[b]? := fun b hb hne => (grow7.block b (Nat.lt_of_lt_of_le hb Ba.out.size) (fun e => hne e.symm)).trans (Ba.out.block b hb)
                    have HOj4 : Hid (w4.ownsRow (w.heap.size + 1) 2 1 (.slice ya yn yc) ys.length (ints ys)) := HD4.out.own.each 0 _ ys huj.out HXJ.out
                    have cj4 : w4.cell? ⟨R, 0, none⟩ = some (.slice ya yn yc) := by rw [HD4.out.own.row.cellAt 0 (by omega)]; exact huj.out
                    have K7 : Hid (w7.heap[C]? = some (.cells #[.int .i64 (τ : Int), .slice (some ⟨R, 0, none⟩) X.length uc] 26 (0, 0))) := (N7 C (Array.getElem?_eq_some_iff.1 HD4.out.box).1 (fun e => row_not_box HOj4.out HD4.out.box e)).trans HD4.out.box
                    have cR7 : w7.cell? ⟨R, 0, none⟩ = some (.slice ya yn yc) := (World.cell?_of_block (N7 R (World.block_lt_of_cell? _ _ cj4) (fun e => row_kind HOj4.out HD4.out.own.row (by decide) e rfl))).trans cj4
                    have f7 : w7.frozen? ⟨R, 0, none⟩ = false := (World.frozen?_of_block (N7 R (World.block_lt_of_cell? _ _ cj4) (fun e => row_kind HOj4.out HD4.out.own.row (by decide) e rfl))).trans (HD4.out.own.row.frozenAt 0)
                    have O7 := came_put (zs := ys ++ [z4]) HD4.out.own HD4.out.apart HOj4.out huj.out hjX N7 (by simpa [ints] using own7) (fun k hk => (fresh7 k hk).imp id (fun h => Nat.le_trans Ba.out.size h))
                    have L7 : Below (w.heap.size + 1) w4 w7 := ⟨grow7.os.trans Ba.out.os, grow7.tape.trans Ba.out.tape, grow7.output.trans Ba.out.output, Nat.le_trans Ba.out.size grow7.size, fun b hb => (grow7.block b (Nat.lt_of_lt_of_le hb (Nat.le_trans HD4.out.size Ba.out.size)) (fun e => absurd (HOj4.out.lt b e.symm).1 (by omega))).trans (Ba.out.block b (Nat.lt_of_lt_of_le hb HD4.out.size))⟩
                    have D8 : Hid (DQ w g bs C R uc τ (us.set 0 (.slice va vn vc)) (X.set 0 (ys ++ [z4])) X.length (w7.setCell ⟨R, 0, none⟩ (.slice va vn vc))) := HD4.out.put L7 K7.out O7.1 O7.2 hRC hRlo
                    clear own7 grow7 fresh7 N7 HOj4 cj4 L7 O7
                    refine hK.out _ _ (Or.inr ⟨(two_cellsQ K7.out).2.1, cR7⟩) (fun hHeld => ?_)
                    replace hHeld := hHeld.resolve_left (by decide)
                    clear hK K
                    try simp only [Act.put, List.setIfInBounds_toArray, List.set_cons_zero, List.set_cons_succ]
                    refine wpAnyG_take (i := 13) (oi := ?ois17b13) (v := .pointer (some ⟨R, 0, none⟩)) ?his17b13 (by kernel_rfl) (by kernel_rfl) (by kernel_rfl) (by kernel_rfl) ?hqs17b13 ?hys17b13 hHeld ?hrs17b13
                    case his17b13 =>
                      simp only [List.getElem?_toArray, List.getElem?_cons_succ, List.getElem?_cons_zero]
                      rfl
                    case hqs17b13 => exact fun _ _ _ h => h
                    case hys17b13 => exact Or.inl ⟨by kernel_rfl, fun w hSw => by go_simp⟩
                    try simp only [Act.put, List.setIfInBounds_toArray, List.set_cons_zero, List.set_cons_succ]
                    refine wpAnyG_ready (rs := [14]) (by kernel_rfl) (by simp) ?_
                    refine (AllReadyG.cons (o := ?oos17b14) ?hos17b14 (fun K hK => ?hks17b14) AllReadyG.nil)
                    case hos17b14 =>
                      simp only [List.getElem?_toArray, List.getElem?_cons_succ, List.getElem?_cons_zero]
                      rfl
                    case hks17b14 =>
                      go_simp
                      try go_wp2_with fail
                      refine hK.out _ _ (Or.inl rfl) (fun _ => ?_)
                      clear hK K
                      try simp only [Act.put, List.setIfInBounds_toArray, List.set_cons_zero, List.set_cons_succ]
                      refine wpAnyG_done (by kernel_rfl) ?_ _
                      obtain ⟨D9, hD9⟩ : ∃ W, w7.setCell ⟨R, 0, none⟩ (.slice va vn vc) = W := ⟨_, rfl⟩
                      rw [hD9] at D8 ⊢
                      clear hD9 K7 cR7 f7 Ba La Va HD4 HD d0 d1 d2 d3 cj hz4
                      obtain ⟨e0, e1, -, -⟩ := two_cellsQ D8.out.box
                      obtain ⟨r0, r1, x0, x1⟩ := two_cellsQ D8.out.res
                      have R9 := two_setQ D8.out.res (.int .i64 (τ : Int)) (.slice (some ⟨R, 0, none⟩) X.length uc)
                      obtain ⟨y0, y1, _, _⟩ := two_cellsQ R9
                      go_wp2
                      refine bodyPost_ret (v := .agg #[.int .i64 (τ : Int), .slice (some ⟨R, 0, none⟩) X.length uc]) (by simp [results, Try.results32, go_sem, y0, y1]) rfl ?_
                      refine ⟨_, _, X.set 0 (ys ++ [z4]), rfl, by simp; omega, fun x hx => ?_, fun W' hW => (OwnSS.hi ((D8.out.own.set (by omega)).set (by omega)) hW).reads, DQ.fin_cur D8.out hgw, DQ.fin_low D8.out⟩
                      rcases List.mem_or_eq_of_mem_set hx with hx | hx
                      · have := h5 x hx; omega
                      · subst hx; simp; omega

end Go.Proofs.Ytjlpjjddnkceoaa
