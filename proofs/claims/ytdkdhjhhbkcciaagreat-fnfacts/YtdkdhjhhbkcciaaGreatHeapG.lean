/-
 The program's heap: its row and its box; Push and Pop of visits, up, down, heap.Push, heap.Pop.
-/
import Derived.Test.YtdkdhjhhbkcciaaGreatHeapF
import Derived.Test.YtdkdhjhhbkcciaaGreatLists
import Derived.Test.YtdkdhjhhbkcciaaGreatG07Proc
import Derived.Deep.AppendLies
import Derived.Deep.RegionLaw
namespace Go.Proofs.YtdkdhjhhbkcciaaGreat
open Go.RowKit
set_option linter.unusedVariables false
set_option maxHeartbeats 2000000
set_option maxRecDepth 20000
structure Hp (w : World) (base Wb g cap : Nat) (L : List Vis) : Prop where
 box : w.heap[Wb]? = some (.cells #[.slice (some ⟨g, 0, none⟩) L.length cap] 116 (0, 0))
 row : RowV w base g cap L
 ways : ∀ x ∈ L, w.ownsRow base 2 1 x.u x.way.length (ints x.way)
 short : ∀ x ∈ L, x.way.length ≤ 100000
structure Turn2 (w : World) (Wb g : Nat) (w' : World) : Prop where
 os : w'.os = w.os
 tape : w'.tape = w.tape
 output : w'.output = w.output
 size : w.heap.size ≤ w'.heap.size
 block : ∀ r, r < w.heap.size → r ≠ Wb → r ≠ g → w'.heap[r]? = w.heap[r]?
theorem Turn2.refl (w : World) (Wb g : Nat) : Turn2 w Wb g w := ⟨rfl, rfl, rfl, Nat.le_refl _, fun _ _ _ _ => rfl⟩
theorem Turn2.trans {a b c : World} {Wb g g' : Nat} (x : Turn2 a Wb g b) (y : Turn2 b Wb g' c) (h : g' = g ∨ a.heap.size ≤ g') : Turn2 a Wb g c := by
 refine ⟨y.os.trans x.os, y.tape.trans x.tape, y.output.trans x.output, Nat.le_trans x.size y.size, fun r hr h1 h2 => (y.block r (Nat.lt_of_lt_of_le hr x.size) h1 ?_).trans (x.block r hr h1 h2)⟩
 intro e
 rcases h with h | h
 · exact h2 (e.trans h)
 · omega
theorem Turn2.of_below {w w' : World} (h : Below w.heap.size w w') (Wb g : Nat) : Turn2 w Wb g w' := ⟨h.os, h.tape, h.output, h.size, fun r hr _ _ => h.block r hr⟩
theorem Turn2.of_grown {w w' : World} {g : Nat} (h : w.grownBy w' (some g)) (Wb : Nat) : Turn2 w Wb g w' := ⟨h.os, h.tape, h.output, h.size, fun r hr _ h2 => h.block r hr (fun e => h2 (by simpa using e))⟩
theorem Turn2.of_grownB {w w' : World} {Wb : Nat} (h : w.grownBy w' (some Wb)) (g : Nat) : Turn2 w Wb g w' := ⟨h.os, h.tape, h.output, h.size, fun r hr h1 _ => h.block r hr (fun e => h1 (by simpa using e))⟩
section
variable {w w' : World} {base Wb g cap : Nat} {L : List Vis}
theorem Hp.lt (h : Hp w base Wb g cap L) : Wb < w.heap.size := (Array.getElem?_eq_some_iff.1 h.box).1
theorem Hp.ltg (h : Hp w base Wb g cap L) : g < w.heap.size := h.row.le.2.2.2
theorem Hp.ne (h : Hp w base Wb g cap L) : Wb ≠ g := by
 rintro rfl
 rcases h.row.2 with ⟨e, _⟩ | ⟨g', cap', cur, e, _, hg, _⟩
 · cases e
 · cases e
   have := h.box.symm.trans hg
   simp only [Option.some.injEq, Obj.cells.injEq] at this
   exact absurd this.2.1 (by decide)
theorem Hp.apart (h : Hp w base Wb g cap L) {x : Vis} (hx : x ∈ L) {k : Nat} (hk : x.u.ownBlock = some k) : k ≠ Wb ∧ k ≠ g ∧ k < w.heap.size := by
 have hw := h.ways x hx
 refine ⟨?_, fun e => row_kind hw h.row (by decide) hk (by rw [e]; rfl), (hw.lt k hk).2⟩
 rintro rfl
 rcases hw.2 with ⟨e, _⟩ | ⟨g', cap', cur, e, _, hg, _⟩
 · rw [e] at hk; cases hk
 · rw [e] at hk
   simp [Value.ownBlock] at hk
   subst hk
   have := h.box.symm.trans hg
   simp only [Option.some.injEq, Obj.cells.injEq] at this
   exact absurd this.2.1 (by decide)
theorem Hp.below (h : Hp w base Wb g cap L) (hb : Below w.heap.size w w') : Hp w' base Wb g cap L :=
 ⟨(hb.block _ h.lt).trans h.box, own_kept h.row hb, fun x hx => own_kept (h.ways x hx) hb, h.short⟩
theorem Hp.turned (h : Hp w base Wb g cap L) (hg : w.grownBy w' (some g)) {L' : List Vis} (hr : RowV w' base g cap L') (hl : L'.length = L.length) (hm : ∀ x, x ∈ L' → x ∈ L) : Hp w' base Wb g cap L' :=
 ⟨by rw [hl]; exact (hg.block _ h.lt (fun e => h.ne (by simpa using e))).trans h.box, hr, fun x hx => own_grown (h.ways x (hm x hx)) hg (fun k hk e => (h.apart (hm x hx) hk).2.1 (by simpa using e.symm)), fun x hx => h.short x (hm x hx)⟩
theorem Hp.slices (h : Hp w base Wb g cap L) : ∀ x ∈ L, ∃ o m c, x.u = .slice o m c := fun x hx => own_slice (h.ways x hx)
end
theorem infoVisit : (Tryz.prog.info? 95).map (fun i => (i.zero, i.size, i.bytes)) = some (some (.agg #[.slice none 0 0, .int .i64 0]), 2, 32) := by kernel_rfl
theorem hpLess {w : World} {base Wb g cap : Nat} {L : List Vis} (h : Hp w base Wb g cap L) {i j : Nat} (hi : i < L.length) (hj : j < L.length) :
 Calls Tryz.prog 133 #[.slice (some ⟨g, 0, none⟩) L.length cap, .int .i64 i, .int .i64 j] w fun e w' => e = .returned (.bool (wlt (wy L i) (wy L j))) ∧ Below w.heap.size w w' := by
 have mi : L.getD i vis0 ∈ L := mem_getD.2 ⟨i, hi, rfl⟩
 have mj : L.getD j vis0 ∈ L := mem_getD.2 ⟨j, hj, rfl⟩
 have si := h.short _ mi
 have sj := h.short _ mj
 exact visLess L.length cap g i j _ _ (wy L i) (wy L j) w hi hj (Nat.le_trans h.row.le.1 h.row.le.2.1) (h.row.at hi).1 (h.row.at hj).1 (by unfold wy maxLen; omega) (by unfold wy maxLen; omega) (reads_own (h.ways _ mi)) (reads_own (h.ways _ mj))
theorem hpSwap {w : World} {base Wb g cap : Nat} {L : List Vis} (h : Hp w base Wb g cap L) {i j : Nat} (hi : i < L.length) (hj : j < L.length) :
 Calls Tryz.prog 134 #[.slice (some ⟨g, 0, none⟩) L.length cap, .int .i64 i, .int .i64 j] w fun e w' => (∃ v, e = .returned v) ∧ Hp w' base Wb g cap (swp L i j) ∧ w.grownBy w' (some g) := by
 refine (visSwap L base cap g i j w hi hj h.row h.slices).mono ?_
 rintro e w' ⟨he, hr, hg⟩
 exact ⟨he, h.turned hg hr (swp_length L i j) (fun x hx => (swp_mem hi hj x).1 hx), hg⟩
theorem grown_setCell1H (w : World) (b o : Nat) (v : Value) : w.grownBy (w.setCell ⟨b, o, none⟩ v) (some b) :=
 ⟨rfl, rfl, rfl, by simp [World.setCell], fun k _ hk => Below.heap_setCell w ⟨b, o, none⟩ v k (fun e => hk (by rw [e]))⟩
theorem visAssert (v : Value) (t : TypeId) (w : World) : (Instr.typeAssert (.iface 95 v) t 95 false).run Tryz.prog w = .ok v w := by
 first | kernel_rfl | rfl | (simp [Instr.typeAssert, go_sem])
theorem visPush (L : List Vis) (base cap g Wb : Nat) (x : Vis) (w : World) (hn : L.length ≤ 100000) (hbase : base ≤ w.heap.size) (h : Hp w base Wb g cap L) (hx : w.ownsRow base 2 1 x.u x.way.length (ints x.way)) (hxs : x.way.length ≤ 100000) :
 Calls Tryz.prog 142 #[.pointer (some ⟨Wb, 0, none⟩), .iface 95 (.agg #[x.u, .int .i64 x.set])] w fun e w' => (∃ v, e = .returned v) ∧ ∃ g' cap', Hp w' base Wb g' cap' (L ++ [x]) ∧ Turn2 w Wb g w' ∧ (g' = g ∨ w.heap.size ≤ g') := by
 obtain ⟨i0, hi, hz0, hz1, hz2⟩ := info_parts infoVisit
 obtain ⟨c0, f0⟩ := one_cell h.box
 obtain ⟨xo, xm, xc, hxu⟩ := own_slice hx
 have ltW := h.lt
 have ltg := h.ltg
 have hne := h.ne
 have H : Hid _ := h
 have HX : Hid _ := hx
 have HU : Hid _ := hxu
 rw [hxu]
 have hone : ∀ u ∈ [Value.slice xo xm xc, .int .i64 x.set], u.oneCell' = true := fun u hu => by
  simp at hu
  rcases hu with rfl | rfl <;> rfl
 have hmx : L.length + 1 ≤ maxLen := by unfold maxLen; omega
 have hby : (L.length + 1) * 32 ≤ 140737488355328 := by omega
 have HA : Hid (∀ W w7 g7 cap7, Below w.heap.size w W → w7.ownsRow base 95 2 (.slice (some ⟨g7, 0, none⟩) (L.length + 1) cap7) (L.length + 1) (cellsV L ++ [Value.slice xo xm xc, .int .i64 x.set]) → W.grownBy w7 (some g) → ((some g : Option Nat) = some g7 ∨ g7 = W.heap.size) →
  w7.heap[Wb]? = some (.cells #[.slice (some ⟨g, 0, none⟩) L.length cap] 116 (0, 0)) ∧ (∃ g' cap', Hp ((w7.setCell ⟨Wb, 0, none⟩ (.slice (some ⟨g7, 0, none⟩) (L.length + 1) cap7))) base Wb g' cap' (L ++ [x]) ∧ Turn2 w Wb g ((w7.setCell ⟨Wb, 0, none⟩ (.slice (some ⟨g7, 0, none⟩) (L.length + 1) cap7))) ∧ (g' = g ∨ w.heap.size ≤ g'))) := by
  intro W w7 g7 cap7 hW own7 grow7 hat7
  have hpW := H.out.below hW
  have b7 : w7.heap[Wb]? = some (.cells #[.slice (some ⟨g, 0, none⟩) L.length cap] 116 (0, 0)) := (grow7.block Wb hpW.lt (fun e => hne (by simpa using e))).trans hpW.box
  have e1 : cellsV (L ++ [x]) = cellsV L ++ [Value.slice xo xm xc, .int .i64 x.set] := by rw [cellsV_append]; simp [cellsV, HU.out]
  have gs := grown_setCell1H w7 Wb 0 (.slice (some ⟨g7, 0, none⟩) (L.length + 1) cap7)
  have ne7 : g7 ≠ Wb := by
   rcases hat7 with e | e
   · simp at e; omega
   · have := hW.size; omega
  have hway : ∀ y, y ∈ L ++ [x] → w.ownsRow base 2 1 y.u y.way.length (ints y.way) := fun y hy => by
   rcases List.mem_append.1 hy with hy | hy
   · exact H.out.ways y hy
   · simp at hy; subst hy; exact HX.out
  refine ⟨b7, g7, cap7, ⟨?_, ?_, ?_, ?_⟩, ?_, ?_⟩
  · show (w7.setCell ⟨Wb, 0, none⟩ _).heap[Wb]? = _
    rw [one_set b7, List.length_append]; rfl
  · show (w7.setCell ⟨Wb, 0, none⟩ _).ownsRow _ _ _ _ _ _
    rw [List.length_append, e1]
    exact own_grown own7 gs (fun k hk e => by simp [Value.ownBlock] at hk; simp at e; omega)
  · intro y hy
    show (w7.setCell ⟨Wb, 0, none⟩ _).ownsRow _ _ _ _ _ _
    have h1 := own_kept (hway y hy) hW
    have h2 := own_grown h1 grow7 (fun k hk e => row_kind h1 hpW.row (by decide) hk (by simp at e; subst e; rfl))
    refine own_grown h2 gs (fun k hk e => ?_)
    simp at e
    subst e
    rcases h2.2 with ⟨e, _⟩ | ⟨g', cap', cur, e, _, hg, _⟩
    · rw [e] at hk; cases hk
    · rw [e] at hk
      simp [Value.ownBlock] at hk
      subst hk
      have := b7.symm.trans hg
      simp only [Option.some.injEq, Obj.cells.injEq] at this
      exact absurd this.2.1 (by decide)
  · intro y hy
    rcases List.mem_append.1 hy with hy | hy
    · exact H.out.short y hy
    · simp at hy; subst hy; exact hxs
  · refine ((Turn2.of_below hW Wb g).trans (Turn2.of_grown grow7 Wb) (.inl rfl)).trans (g' := g) ?_ (.inl rfl)
    exact Turn2.of_grownB gs g
  · rcases hat7 with e | e
    · simp at e; exact .inl e.symm
    · have := hW.size; exact .inr (by omega)
 clear h hx hxu
 have has := fun v t W => visAssert v t W
 go_enter Tryz.func142, Tryz.ntmps142
 go_wp2_with fail
 go_region_law (refine step_append_lies _ rfl (.tmp 7) (.tmp 10) 116 rfl base 95 i0 (.agg #[.slice none 0 0, .int .i64 0]) 2 32 Tryz.underlying116 hi hz0 hz1 hz2 rfl (by decide) (.slice (some ⟨g, 0, none⟩) L.length cap) L.length (cellsV L) (by simp [Act.eval]) (own_kept H.out.row (by go_grown)) ⟨w.heap.size, 0, none⟩ 1 1 [Value.slice xo xm xc, .int .i64 x.set] (by simp [Act.eval]) rfl (World.news_of_block (heap_alloc_new w _)) hone (by omega) hmx hby (by simp; omega) _ rfl ?_; intro g7 cap7 w7 own7 grow7 hat7 hlt7; (obtain ⟨b7, HH⟩ := HA.out _ w7 g7 cap7 (by go_grown) own7 grow7 hat7); (obtain ⟨c7, f7⟩ := one_cell b7))
 all_goals
  go_wp2
  go_end0
  exact ⟨⟨_, rfl⟩, HH⟩
theorem Hp.popped {w : World} {base Wb g cap : Nat} {L : List Vis} {x : Vis} (h : Hp w base Wb g cap (L ++ [x])) : Hp (w.setCell ⟨Wb, 0, none⟩ (.slice (some ⟨g, 0, none⟩) L.length cap)) base Wb g cap L ∧ Turn2 w Wb g (w.setCell ⟨Wb, 0, none⟩ (.slice (some ⟨g, 0, none⟩) L.length cap)) := by
 have hl : (L ++ [x]).length = L.length + 1 := by simp
 have B1 := one_set h.box (.slice (some ⟨g, 0, none⟩) L.length cap)
 have gs := grown_setCell1H w Wb 0 (.slice (some ⟨g, 0, none⟩) L.length cap)
 refine ⟨⟨B1, ?_, fun y hy => ?_, fun y hy => h.short y (by simp [hy])⟩, Turn2.of_grownB gs g⟩
 · have h1 := own_grown h.row gs (fun k hk e => by simp [Value.ownBlock] at hk; simp at e; exact h.ne (by omega))
   rcases h1.2 with ⟨e, _⟩ | ⟨g', cap', cur, e, k1, k2, k3, k4, k5, k6⟩
   · cases e
   · cases e
     refine ⟨by rw [cellsV_length], .inr ⟨g, cap, cur, rfl, k1, k2, by omega, k4, k5, ?_⟩⟩
     have e2 : cur.toList.take (L.length * 2) = (cur.toList.take ((L ++ [x]).length * 2)).take (L.length * 2) := by rw [List.take_take, hl]; congr 1; omega
     rw [e2, k6, cellsV_append, List.take_append_of_le_length (by rw [cellsV_length]; exact Nat.le_refl _), List.take_of_length_le (by rw [cellsV_length]; exact Nat.le_refl _)]
 · exact own_grown (h.ways y (by simp [hy])) gs (fun k hk e => (h.apart (by simp [hy]) hk).1 (by simpa using e.symm))
theorem visPop (L : List Vis) (base cap g Wb : Nat) (x : Vis) (w : World) (hn : L.length ≤ 100000) (h : Hp w base Wb g cap (L ++ [x])) :
 Calls Tryz.prog 141 #[.pointer (some ⟨Wb, 0, none⟩)] w fun e w' => e = .returned (.iface 95 (.agg #[x.u, .int .i64 x.set])) ∧ Hp w' base Wb g cap L ∧ Turn2 w Wb g w' := by
 obtain ⟨c0, f0⟩ := one_cell h.box
 have hl : (L ++ [x]).length = L.length + 1 := by simp
 have hx := h.row.at (j := L.length) (by omega)
 have hgx : (L ++ [x]).getD L.length vis0 = x := by simp [List.getD]
 rw [hgx] at hx
 obtain ⟨x0, x1⟩ := hx
 have hle := h.row.le
 rw [hl] at c0 hle
 have ltW := h.lt
 have hWne : ¬ w.heap.size = Wb := by omega
 obtain ⟨xo, xm, xc, hxu⟩ := h.slices x (by simp)
 have HP : Hid _ := h.popped
 rw [hxu] at x0 ⊢
 unfold maxLen at hle
 obtain ⟨hle1, hle2, hle3, hle4⟩ := hle
 have h1 : (0 : Int) ≤ (L.length : Int) := by omega
 clear h hgx hxu
 go_enter Tryz.func141, Tryz.ntmps141
 go_wp2
 go_ret
 exact ⟨rfl, HP.out.1.below (by go_grown), HP.out.2.trans (Turn2.of_below (by go_grown) Wb g) (.inl rfl)⟩
theorem heapUp (L : List Vis) (base cap g Wb j : Nat) (w : World) (hn : L.length ≤ 100000) (h : Hp w base Wb g cap L) (hj : j < L.length) (hU : UpH L j) :
 Calls Tryz.prog 101 #[.iface 118 (.pointer (some ⟨Wb, 0, none⟩)), .int .i64 j] w fun e w' => (∃ v, e = .returned v) ∧ ∃ L', Hp w' base Wb g cap L' ∧ Turn2 w Wb g w' ∧ L'.length = L.length ∧ (∀ x, x ∈ L' ↔ x ∈ L) ∧ IsH L' L'.length := by
 go_enter Tryz.func101, Tryz.ntmps101
 go_wp2_with fail
 go_loopw [1] (fun jv wr => ∃ (k : Nat) (L' : List Vis), k < L'.length ∧ jv = .int .i64 k ∧ Hp wr base Wb g cap L' ∧ Turn2 w Wb g wr ∧ L'.length = L.length ∧ (∀ x, x ∈ L' ↔ x ∈ L) ∧ UpH L' k) (fun jv _ => (intOf jv).toNat)
 case atStart => exact ⟨j, L, hj, rfl, h, Turn2.refl _ _ _, rfl, fun _ => Iff.rfl, hU⟩
 case round =>
  obtain ⟨k, L', hk, rfl, hH, hT, hl', hm, hU'⟩ := hrel
  have hkn : k ≤ 100000 := by omega
  have HL : Hid _ := hl'
  clear hl'
  obtain ⟨c0, f0⟩ := one_cell hH.box
  rcases Nat.eq_zero_or_pos k with h0 | h0
  · subst h0
    have HF : Hid _ := up_done hU' (.inl rfl)
    have HH : Hid _ := hH
    clear hH hU' hU h
    go_wp2
    go_end0
    exact ⟨⟨_, rfl⟩, L', HH.out, hT, HL.out, hm, HF.out⟩
  · obtain ⟨p, hp⟩ : ∃ p, (k - 1) / 2 = p := ⟨_, rfl⟩
    have hpl : p < L'.length := by omega
    have hpk : p < k := by omega
    have hq : ((k : Int) - 1).tdiv 2 = (p : Int) := by
     have e : ((k : Int) - 1) = ((k - 1 : Nat) : Int) := by omega
     rw [e, ← hp]; rfl
    have hne : ((p : Int) == (k : Int)) = false := by
     rw [beq_eq_false_iff_ne]; omega
    have hML := fun n => vis_less n Wb _ _ _ wr c0
    have hle := hpLess hH hk hpl
    have HH : Hid _ := hH
    have HU : Hid _ := hU'
    have HS : Hid _ := hp
    clear hH hU' hU h hp
    cases hb : wlt (wy L' k) (wy L' p)
    · rw [hb] at hle
      have HB : Hid _ := hb
      clear hb
      go_wp2_with (go_at_call 133; refine hle.mono ?_; rintro e w5 ⟨rfl, b5⟩)
      go_end0
      refine ⟨⟨_, rfl⟩, L', HH.out.below b5, hT.trans (Turn2.of_below b5 Wb g) (.inl rfl), HL.out, hm, up_done HU.out (.inr ?_)⟩
      rw [HS.out]; exact HB.out
    · rw [hb] at hle
      have HB : Hid _ := hb
      clear hb
      go_wp2_with fail
      go_at_call 133
      refine hle.mono ?_
      rintro e w5 ⟨rfl, b5⟩
      have h5 := HH.out.below b5
      obtain ⟨c5, f5⟩ := one_cell h5.box
      have hMS := fun n => vis_swap n Wb _ _ _ w5 c5
      have hsw := hpSwap h5 hpl hk
      clear c0 f0 hML hle f5
      go_wp2_with fail
      go_at_call 134
      refine hsw.mono ?_
      rintro e w6 ⟨⟨v6, rfl⟩, h6, g6⟩
      have T6 : Hid (Turn2 w Wb g w6) := (hT.trans (Turn2.of_below b5 Wb g) (.inl rfl)).trans (Turn2.of_grown g6 Wb) (.inl rfl)
      have H6 : Hid _ := h6
      clear h6 g6 hMS hsw h5 c5
      go_wp2
      go_roundw
      case rel =>
       refine ⟨p, swp L' p k, by rw [swp_length]; exact hpl, rfl, H6.out, T6.out, by rw [swp_length]; exact HL.out, fun x => (swp_mem hpl hk x).trans (hm x), ?_⟩
       have := up_step HU.out h0 hk (by rw [HS.out]; exact HB.out)
       rwa [HS.out] at this
      case measure => simp [intOf]; omega
theorem heapDown (L : List Vis) (base cap g Wb n : Nat) (w : World) (hn : L.length ≤ 100000) (h : Hp w base Wb g cap L) (hnl : n ≤ L.length) (hD : DnH L n 0) :
 Calls Tryz.prog 98 #[.iface 118 (.pointer (some ⟨Wb, 0, none⟩)), .int .i64 0, .int .i64 n] w fun e w' => (∃ v, e = .returned v) ∧ ∃ L', Hp w' base Wb g cap L' ∧ Turn2 w Wb g w' ∧ L'.length = L.length ∧ (∀ x, x ∈ L' ↔ x ∈ L) ∧ IsH L' n ∧ (∀ k, n ≤ k → L'.getD k vis0 = L.getD k vis0) := by
 go_enter Tryz.func98, Tryz.ntmps98
 go_wp2_with fail
 go_loopw [7] (fun iv wr => ∃ (k : Nat) (L' : List Vis), (k < n ∨ k = 0) ∧ iv = .int .i64 k ∧ Hp wr base Wb g cap L' ∧ Turn2 w Wb g wr ∧ L'.length = L.length ∧ (∀ x, x ∈ L' ↔ x ∈ L) ∧ DnH L' n k ∧ (∀ q, n ≤ q → L'.getD q vis0 = L.getD q vis0)) (fun iv _ => n - (intOf iv).toNat)
 case atStart => exact ⟨0, L, .inr rfl, rfl, h, Turn2.refl _ _ _, rfl, fun _ => Iff.rfl, hD, fun _ _ => rfl⟩
 case round =>
  obtain ⟨k, L', hk, rfl, hH, hT, hl', hm, hU', hkeep⟩ := hrel
  have hkn : k ≤ 100000 := by omega
  have HL : Hid _ := hl'
  have hln : n ≤ L'.length := by omega
  clear hl'
  obtain ⟨c0, f0⟩ := one_cell hH.box
  have HH : Hid _ := hH
  have HT : Hid _ := hT
  have HU : Hid _ := hU'
  clear hH hU' hD h hT
  have hn1 : n ≤ 100000 := by omega
  by_cases h1 : 2 * k + 1 < n
  · have h1' : ¬ (n : Int) ≤ 2 * (k : Int) + 1 := by omega
    have hkl : k < L'.length := by omega
    have hL1 : 2 * k + 1 < L'.length := by omega
    have HC1 : Hid ((2 : Int) * (k : Int) + 1 = ((2 * k + 1 : Nat) : Int)) := by show (2 : Int) * (k : Int) + 1 = ((2 * k + 1 : Nat) : Int); omega
    have HC2 : Hid ((2 : Int) * (k : Int) + 1 + 1 = ((2 * k + 2 : Nat) : Int)) := by show (2 : Int) * (k : Int) + 1 + 1 = ((2 * k + 2 : Nat) : Int); omega
    by_cases h2 : 2 * k + 2 < n
    · have h2' : (2 : Int) * (k : Int) + 1 + 1 < (n : Int) := by omega
      have hL2 : 2 * k + 2 < L'.length := by omega
      have hML0 := fun n => vis_less n Wb _ _ _ wr c0
      have hle0 := hpLess HH.out hL2 hL1
      rw [← HC2.out, ← HC1.out] at hle0
      cases hb0 : wlt (wy L' (2 * k + 2)) (wy L' (2 * k + 1))
      · rw [hb0] at hle0
        have HB0 : Hid _ := hb0
        clear hb0
        have HMIN : Hid (∀ q, 0 < q → q < n → (q - 1) / 2 = k → wle (wy L' (2 * k + 1)) (wy L' q)) := by
         intro q hq0 hqn hqp
         have : q = 2 * k + 1 ∨ q = 2 * k + 2 := by omega
         rcases this with rfl | rfl
         · exact wle_refl _
         · exact HB0.out
        go_wp2_with fail
        go_at_call 133
        refine hle0.mono ?_
        rintro e w5 ⟨rfl, b5⟩
        have H5 : Hid _ := HH.out.below b5
        have T5 : Hid (Turn2 w Wb g w5) := HT.out.trans (Turn2.of_below b5 Wb g) (.inl rfl)
        clear c0 f0 hML0 hle0 HH HT b5
        have hcl : 2 * k + 1 < L'.length := by omega
        obtain ⟨c5, f5⟩ := one_cell (H5).out.box
        have hML := fun n => vis_less n Wb _ _ _ w5 c5
        have hle := hpLess (H5).out hcl hkl
        rw [← HC1.out] at hle
        cases hb : wlt (wy L' (2 * k + 1)) (wy L' k)
        · rw [hb] at hle
          have HB : Hid _ := hb
          clear hb
          go_wp2_with (go_at_call 133; refine hle.mono ?_; rintro e w6 ⟨rfl, b6⟩)
          go_ret
          refine ⟨⟨_, rfl⟩, L', (H5).out.below b6, (T5).out.trans (Turn2.of_below b6 Wb g) (.inl rfl), HL.out, hm, dn_done HU.out (fun q hq0 hqn hqp => ?_), hkeep⟩
          exact wle_trans HB.out (HMIN.out q hq0 hqn hqp)
        · rw [hb] at hle
          have HB : Hid _ := hb
          clear hb
          go_wp2_with fail
          go_at_call 133
          refine hle.mono ?_
          rintro e w6 ⟨rfl, b6⟩
          have h6 := (H5).out.below b6
          obtain ⟨c6, f6⟩ := one_cell h6.box
          have hMS := fun n => vis_swap n Wb _ _ _ w6 c6
          have hsw := hpSwap h6 hkl hcl
          rw [← HC1.out] at hsw
          clear c5 f5 hML hle f6
          go_wp2_with fail
          go_at_call 134
          refine hsw.mono ?_
          rintro e w7 ⟨⟨v7, rfl⟩, h7, g7⟩
          have T7 : Hid (Turn2 w Wb g w7) := ((T5).out.trans (Turn2.of_below b6 Wb g) (.inl rfl)).trans (Turn2.of_grown g7 Wb) (.inl rfl)
          have H7 : Hid _ := h7
          clear h7 g7 hMS hsw h6 c6
          go_wp2
          go_roundw
          case rel =>
           refine ⟨2 * k + 1, swp L' k (2 * k + 1), by omega, by go_num, H7.out, T7.out, by rw [swp_length]; exact HL.out, fun x => (swp_mem hkl hcl x).trans (hm x), dn_step HU.out (by rw [HL.out]; exact hnl) (by omega) (by omega) (by omega) HB.out (HMIN.out), fun q hq => ?_⟩
           rw [swp_get L' hkl hcl, if_neg (by omega), if_neg (by omega)]
           exact hkeep q hq
          case measure => simp [intOf]; omega
      · rw [hb0] at hle0
        have HB0 : Hid _ := hb0
        clear hb0
        have HMIN : Hid (∀ q, 0 < q → q < n → (q - 1) / 2 = k → wle (wy L' (2 * k + 2)) (wy L' q)) := by
         intro q hq0 hqn hqp
         have : q = 2 * k + 1 ∨ q = 2 * k + 2 := by omega
         rcases this with rfl | rfl
         · exact wle_of_lt HB0.out
         · exact wle_refl _
        go_wp2_with fail
        go_at_call 133
        refine hle0.mono ?_
        rintro e w5 ⟨rfl, b5⟩
        have H5 : Hid _ := HH.out.below b5
        have T5 : Hid (Turn2 w Wb g w5) := HT.out.trans (Turn2.of_below b5 Wb g) (.inl rfl)
        clear c0 f0 hML0 hle0 HH HT b5
        have hcl : 2 * k + 2 < L'.length := by omega
        obtain ⟨c5, f5⟩ := one_cell (H5).out.box
        have hML := fun n => vis_less n Wb _ _ _ w5 c5
        have hle := hpLess (H5).out hcl hkl
        rw [← HC2.out] at hle
        cases hb : wlt (wy L' (2 * k + 2)) (wy L' k)
        · rw [hb] at hle
          have HB : Hid _ := hb
          clear hb
          go_wp2_with (go_at_call 133; refine hle.mono ?_; rintro e w6 ⟨rfl, b6⟩)
          go_ret
          refine ⟨⟨_, rfl⟩, L', (H5).out.below b6, (T5).out.trans (Turn2.of_below b6 Wb g) (.inl rfl), HL.out, hm, dn_done HU.out (fun q hq0 hqn hqp => ?_), hkeep⟩
          exact wle_trans HB.out (HMIN.out q hq0 hqn hqp)
        · rw [hb] at hle
          have HB : Hid _ := hb
          clear hb
          go_wp2_with fail
          go_at_call 133
          refine hle.mono ?_
          rintro e w6 ⟨rfl, b6⟩
          have h6 := (H5).out.below b6
          obtain ⟨c6, f6⟩ := one_cell h6.box
          have hMS := fun n => vis_swap n Wb _ _ _ w6 c6
          have hsw := hpSwap h6 hkl hcl
          rw [← HC2.out] at hsw
          clear c5 f5 hML hle f6
          go_wp2_with fail
          go_at_call 134
          refine hsw.mono ?_
          rintro e w7 ⟨⟨v7, rfl⟩, h7, g7⟩
          have T7 : Hid (Turn2 w Wb g w7) := ((T5).out.trans (Turn2.of_below b6 Wb g) (.inl rfl)).trans (Turn2.of_grown g7 Wb) (.inl rfl)
          have H7 : Hid _ := h7
          clear h7 g7 hMS hsw h6 c6
          go_wp2
          go_roundw
          case rel =>
           refine ⟨2 * k + 2, swp L' k (2 * k + 2), by omega, by go_num, H7.out, T7.out, by rw [swp_length]; exact HL.out, fun x => (swp_mem hkl hcl x).trans (hm x), dn_step HU.out (by rw [HL.out]; exact hnl) (by omega) (by omega) (by omega) HB.out (HMIN.out), fun q hq => ?_⟩
           rw [swp_get L' hkl hcl, if_neg (by omega), if_neg (by omega)]
           exact hkeep q hq
          case measure => simp [intOf]; omega
    · have h2' : ¬ (2 : Int) * (k : Int) + 1 + 1 < (n : Int) := by omega
      have HMIN : Hid (∀ q, 0 < q → q < n → (q - 1) / 2 = k → wle (wy L' (2 * k + 1)) (wy L' q)) := by
       intro q hq0 hqn hqp
       have : q = 2 * k + 1 := by omega
       subst this
       exact wle_refl _
      clear c0 f0
      have hcl : 2 * k + 1 < L'.length := by omega
      obtain ⟨c5, f5⟩ := one_cell (HH).out.box
      have hML := fun n => vis_less n Wb _ _ _ wr c5
      have hle := hpLess (HH).out hcl hkl
      rw [← HC1.out] at hle
      cases hb : wlt (wy L' (2 * k + 1)) (wy L' k)
      · rw [hb] at hle
        have HB : Hid _ := hb
        clear hb
        go_wp2_with (go_at_call 133; refine hle.mono ?_; rintro e w6 ⟨rfl, b6⟩)
        go_ret
        refine ⟨⟨_, rfl⟩, L', (HH).out.below b6, (HT).out.trans (Turn2.of_below b6 Wb g) (.inl rfl), HL.out, hm, dn_done HU.out (fun q hq0 hqn hqp => ?_), hkeep⟩
        exact wle_trans HB.out (HMIN.out q hq0 hqn hqp)
      · rw [hb] at hle
        have HB : Hid _ := hb
        clear hb
        go_wp2_with fail
        go_at_call 133
        refine hle.mono ?_
        rintro e w6 ⟨rfl, b6⟩
        have h6 := (HH).out.below b6
        obtain ⟨c6, f6⟩ := one_cell h6.box
        have hMS := fun n => vis_swap n Wb _ _ _ w6 c6
        have hsw := hpSwap h6 hkl hcl
        rw [← HC1.out] at hsw
        clear c5 f5 hML hle f6
        go_wp2_with fail
        go_at_call 134
        refine hsw.mono ?_
        rintro e w7 ⟨⟨v7, rfl⟩, h7, g7⟩
        have T7 : Hid (Turn2 w Wb g w7) := ((HT).out.trans (Turn2.of_below b6 Wb g) (.inl rfl)).trans (Turn2.of_grown g7 Wb) (.inl rfl)
        have H7 : Hid _ := h7
        clear h7 g7 hMS hsw h6 c6
        go_wp2
        go_roundw
        case rel =>
         refine ⟨2 * k + 1, swp L' k (2 * k + 1), by omega, by go_num, H7.out, T7.out, by rw [swp_length]; exact HL.out, fun x => (swp_mem hkl hcl x).trans (hm x), dn_step HU.out (by rw [HL.out]; exact hnl) (by omega) (by omega) (by omega) HB.out (HMIN.out), fun q hq => ?_⟩
         rw [swp_get L' hkl hcl, if_neg (by omega), if_neg (by omega)]
         exact hkeep q hq
        case measure => simp [intOf]; omega
  · have h1' : (n : Int) ≤ 2 * (k : Int) + 1 := by omega
    clear c0 f0
    go_wp2
    go_ret
    refine ⟨⟨_, rfl⟩, L', HH.out, HT.out, HL.out, hm, dn_done HU.out (fun q hq0 hqn hqp => ?_), hkeep⟩
    omega
end Go.Proofs.YtdkdhjhhbkcciaaGreat
