/-
  Put together out of: HeapG, HeapH, VisAt, RangeFoot, RangeFootG, RangeFootH.
-/
import Derived.Test.YtciccbbgamklbaaG05Lists
import Derived.Test.YtciccbbgamklbaaG03Proc
import Derived.Deep.AppendLies
import Derived.Deep.RegionLaw
import Derived.Test.YtciccbbgamklbaaG04VisitsM
import Derived.ArgAppend
import Derived.Test.YtciccbbgamklbaaG00RelA
import Derived.RangeFuncNested
import Derived.RangeFuncLeaves
import Derived.RangeFuncFrom
import Derived.RangeFuncCalls
import Derived.RangeFuncBound
import Derived.Shelf.Abstract
import Derived.Shelf.RegionOpen
import Derived.OwnWalkIn
import Derived.TacticsInMore
import Derived.LoopNIn
import Derived.LoopIn
/-
  The program's heap: its row and its box; Push and Pop of visits, up, down, heap.Push, heap.Pop.
-/
namespace Go.Proofs.Ytciccbbgamklbaa
open Go.RowKit
set_option linter.unusedVariables false
set_option maxHeartbeats 2000000
set_option maxRecDepth 20000

/-- The heap as it lies: its box Wb, its row g, each way a row of its own. -/
structure Hp (w : World) (base Wb g cap : Nat) (L : List Vis) : Prop where
  box : w.heap[Wb]? = some (.cells #[.slice (some ⟨g, 0, none⟩) L.length cap] 92 (0, 0))
  row : RowV w base g cap L
  ways : ∀ x ∈ L, w.ownsRow base 2 1 x.u x.way.length (ints x.way)
  short : ∀ x ∈ L, x.way.length ≤ 100000

/-- Only these two blocks have turned. -/
structure Turn2 (w : World) (Wb g : Nat) (w' : World) : Prop where
  os : w'.os = w.os
  tape : w'.tape = w.tape
  output : w'.output = w.output
  size : w.heap.size ≤ w'.heap.size
  block : ∀ r, r < w.heap.size → r ≠ Wb → r ≠ g → w'.heap[r]? = w.heap[r]?

theorem Turn2.refl (w : World) (Wb g : Nat) : Turn2 w Wb g w := ⟨rfl, rfl, rfl, Nat.le_refl _, fun _ _ _ _ => rfl⟩

theorem Turn2.trans {a b c : World} {Wb g g' : Nat} (x : Turn2 a Wb g b) (y : Turn2 b Wb g' c) (h : g' = g ∨ a.heap.size ≤ g') : Turn2 a Wb g c := by
  refine ⟨y.os.trans x.os, y.tape.trans x.tape, y.output.trans x.output, Nat.le_trans x.size y.size, fun r hr h1 h2 => (y.block r (Nat.lt_of_lt_of_le hr x.size) h1 ?_).trans (x.block r hr h1 h2)⟩
  intro e
  rcases h with h | h
  · exact h2 (e.trans h)
  · omega

theorem Turn2.of_below {w w' : World} (h : Below w.heap.size w w') (Wb g : Nat) : Turn2 w Wb g w' := ⟨h.os, h.tape, h.output, h.size, fun r hr _ _ => h.block r hr⟩

theorem Turn2.of_grown {w w' : World} {g : Nat} (h : w.grownBy w' (some g)) (Wb : Nat) : Turn2 w Wb g w' := ⟨h.os, h.tape, h.output, h.size, fun r hr _ h2 => h.block r hr (fun e => h2 (by simpa using e))⟩

theorem Turn2.of_grownB {w w' : World} {Wb : Nat} (h : w.grownBy w' (some Wb)) (g : Nat) : Turn2 w Wb g w' := ⟨h.os, h.tape, h.output, h.size, fun r hr h1 _ => h.block r hr (fun e => h1 (by simpa using e))⟩

section
variable {w w' : World} {base Wb g cap : Nat} {L : List Vis}

theorem Hp.lt (h : Hp w base Wb g cap L) : Wb < w.heap.size := (Array.getElem?_eq_some_iff.1 h.box).1
theorem Hp.ltg (h : Hp w base Wb g cap L) : g < w.heap.size := h.row.le.2.2.2

theorem Hp.ne (h : Hp w base Wb g cap L) : Wb ≠ g := by
  rintro rfl
  rcases h.row.2 with ⟨e, _⟩ | ⟨g', cap', cur, e, _, hg, _⟩
  · cases e
  · cases e
    have := h.box.symm.trans hg
    simp only [Option.some.injEq, Obj.cells.injEq] at this
    exact absurd this.2.1 (by decide)

/-- A way lies neither in the box nor in the row. -/
theorem Hp.apart (h : Hp w base Wb g cap L) {x : Vis} (hx : x ∈ L) {k : Nat} (hk : x.u.ownBlock = some k) : k ≠ Wb ∧ k ≠ g ∧ k < w.heap.size := by
  have hw := h.ways x hx
  refine ⟨?_, fun e => row_kind hw h.row (by decide) hk (by rw [e]; rfl), (hw.lt k hk).2⟩
  rintro rfl
  rcases hw.2 with ⟨e, _⟩ | ⟨g', cap', cur, e, _, hg, _⟩
  · rw [e] at hk; cases hk
  · rw [e] at hk
    simp [Value.ownBlock] at hk
    subst hk
    have := h.box.symm.trans hg
    simp only [Option.some.injEq, Obj.cells.injEq] at this
    exact absurd this.2.1 (by decide)

theorem Hp.below (h : Hp w base Wb g cap L) (hb : Below w.heap.size w w') : Hp w' base Wb g cap L :=
  ⟨(hb.block _ h.lt).trans h.box, own_kept h.row hb, fun x hx => own_kept (h.ways x hx) hb, h.short⟩

/-- The row has turned. -/
theorem Hp.turned (h : Hp w base Wb g cap L) (hg : w.grownBy w' (some g)) {L' : List Vis} (hr : RowV w' base g cap L') (hl : L'.length = L.length) (hm : ∀ x, x ∈ L' → x ∈ L) : Hp w' base Wb g cap L' :=
  ⟨by rw [hl]; exact (hg.block _ h.lt (fun e => h.ne (by simpa using e))).trans h.box, hr, fun x hx => own_grown (h.ways x (hm x hx)) hg (fun k hk e => (h.apart (hm x hx) hk).2.1 (by simpa using e.symm)), fun x hx => h.short x (hm x hx)⟩

theorem Hp.slices (h : Hp w base Wb g cap L) : ∀ x ∈ L, ∃ o m c, x.u = .slice o m c := fun x hx => own_slice (h.ways x hx)

end

theorem infoVisit : (Try.prog.info? 67).map (fun i => (i.zero, i.size, i.bytes)) = some (some (.agg #[.slice none 0 0, .int .i64 0]), 2, 32) := by kernel_rfl

theorem hpLess {w : World} {base Wb g cap : Nat} {L : List Vis} (h : Hp w base Wb g cap L) {i j : Nat} (hi : i < L.length) (hj : j < L.length) :
    Calls Try.prog 96 #[.slice (some ⟨g, 0, none⟩) L.length cap, .int .i64 i, .int .i64 j] w fun e w' => e = .returned (.bool (wlt (wy L i) (wy L j))) ∧ Below w.heap.size w w' := by
  have mi : L.getD i vis0 ∈ L := mem_getD.2 ⟨i, hi, rfl⟩
  have mj : L.getD j vis0 ∈ L := mem_getD.2 ⟨j, hj, rfl⟩
  have si := h.short _ mi
  have sj := h.short _ mj
  exact visLess L.length cap g i j _ _ (wy L i) (wy L j) w hi hj (Nat.le_trans h.row.le.1 h.row.le.2.1) (h.row.at hi).1 (h.row.at hj).1 (by unfold wy maxLen; omega) (by unfold wy maxLen; omega) (reads_own (h.ways _ mi)) (reads_own (h.ways _ mj))

theorem hpSwap {w : World} {base Wb g cap : Nat} {L : List Vis} (h : Hp w base Wb g cap L) {i j : Nat} (hi : i < L.length) (hj : j < L.length) :
    Calls Try.prog 97 #[.slice (some ⟨g, 0, none⟩) L.length cap, .int .i64 i, .int .i64 j] w fun e w' => (∃ v, e = .returned v) ∧ Hp w' base Wb g cap (swp L i j) ∧ w.grownBy w' (some g) := by
  refine (visSwap L base cap g i j w hi hj h.row h.slices).mono ?_
  rintro e w' ⟨he, hr, hg⟩
  exact ⟨he, h.turned hg hr (swp_length L i j) (fun x hx => (swp_mem hi hj x).1 hx), hg⟩

theorem grown_setCell1H (w : World) (b o : Nat) (v : Value) : w.grownBy (w.setCell ⟨b, o, none⟩ v) (some b) :=
  ⟨rfl, rfl, rfl, by simp [World.setCell], fun k _ hk => Below.heap_setCell w ⟨b, o, none⟩ v k (fun e => hk (by rw [e]))⟩

theorem visAssert (v : Value) (t : TypeId) (w : World) : (Instr.typeAssert (.iface 67 v) t 67 false).run Try.prog w = .ok v w := by
  first | kernel_rfl | rfl | (simp [Instr.typeAssert, go_sem])

theorem visPush (L : List Vis) (base cap g Wb : Nat) (x : Vis) (w : World) (hn : L.length ≤ 100000) (hbase : base ≤ w.heap.size) (h : Hp w base Wb g cap L) (hx : w.ownsRow base 2 1 x.u x.way.length (ints x.way)) (hxs : x.way.length ≤ 100000) :
    Calls Try.prog 105 #[.pointer (some ⟨Wb, 0, none⟩), .iface 67 (.agg #[x.u, .int .i64 x.set])] w fun e w' => (∃ v, e = .returned v) ∧ ∃ g' cap', Hp w' base Wb g' cap' (L ++ [x]) ∧ Turn2 w Wb g w' ∧ (g' = g ∨ w.heap.size ≤ g') := by
  obtain ⟨i0, hi, hz0, hz1, hz2⟩ := info_parts infoVisit
  obtain ⟨c0, f0⟩ := one_cell h.box
  obtain ⟨xo, xm, xc, hxu⟩ := own_slice hx
  have ltW := h.lt
  have ltg := h.ltg
  have hne := h.ne
  have H : Hid _ := h
  have HX : Hid _ := hx
  have HU : Hid _ := hxu
  rw [hxu]
  have hone : ∀ u ∈ [Value.slice xo xm xc, .int .i64 x.set], u.oneCell' = true := fun u hu => by
    simp at hu
    rcases hu with rfl | rfl <;> rfl
  have hmx : L.length + 1 ≤ maxLen := by unfold maxLen; omega
  have hby : (L.length + 1) * 32 ≤ 140737488355328 := by omega
  have HA : Hid (∀ W w7 g7 cap7, Below w.heap.size w W → w7.ownsRow base 67 2 (.slice (some ⟨g7, 0, none⟩) (L.length + 1) cap7) (L.length + 1) (cellsV L ++ [Value.slice xo xm xc, .int .i64 x.set]) → W.grownBy w7 (some g) → ((some g : Option Nat) = some g7 ∨ g7 = W.heap.size) →
      w7.heap[Wb]? = some (.cells #[.slice (some ⟨g, 0, none⟩) L.length cap] 92 (0, 0)) ∧ (∃ g' cap', Hp ((w7.setCell ⟨Wb, 0, none⟩ (.slice (some ⟨g7, 0, none⟩) (L.length + 1) cap7))) base Wb g' cap' (L ++ [x]) ∧ Turn2 w Wb g ((w7.setCell ⟨Wb, 0, none⟩ (.slice (some ⟨g7, 0, none⟩) (L.length + 1) cap7))) ∧ (g' = g ∨ w.heap.size ≤ g'))) := by
    intro W w7 g7 cap7 hW own7 grow7 hat7
    have hpW := H.out.below hW
    have b7 : w7.heap[Wb]? = some (.cells #[.slice (some ⟨g, 0, none⟩) L.length cap] 92 (0, 0)) := (grow7.block Wb hpW.lt (fun e => hne (by simpa using e))).trans hpW.box
    have e1 : cellsV (L ++ [x]) = cellsV L ++ [Value.slice xo xm xc, .int .i64 x.set] := by rw [cellsV_append]; simp [cellsV, HU.out]
    have gs := grown_setCell1H w7 Wb 0 (.slice (some ⟨g7, 0, none⟩) (L.length + 1) cap7)
    have ne7 : g7 ≠ Wb := by
      rcases hat7 with e | e
      · simp at e; omega
      · have := hW.size; omega
    have hway : ∀ y, y ∈ L ++ [x] → w.ownsRow base 2 1 y.u y.way.length (ints y.way) := fun y hy => by
      rcases List.mem_append.1 hy with hy | hy
      · exact H.out.ways y hy
      · simp at hy; subst hy; exact HX.out
    refine ⟨b7, g7, cap7, ⟨?_, ?_, ?_, ?_⟩, ?_, ?_⟩
    · show (w7.setCell ⟨Wb, 0, none⟩ _).heap[Wb]? = _
      rw [one_set b7, List.length_append]; rfl
    · show (w7.setCell ⟨Wb, 0, none⟩ _).ownsRow _ _ _ _ _ _
      rw [List.length_append, e1]
      exact own_grown own7 gs (fun k hk e => by simp [Value.ownBlock] at hk; simp at e; omega)
    · intro y hy
      show (w7.setCell ⟨Wb, 0, none⟩ _).ownsRow _ _ _ _ _ _
      have h1 := own_kept (hway y hy) hW
      have h2 := own_grown h1 grow7 (fun k hk e => row_kind h1 hpW.row (by decide) hk (by simp at e; subst e; rfl))
      refine own_grown h2 gs (fun k hk e => ?_)
      simp at e
      subst e
      rcases h2.2 with ⟨e, _⟩ | ⟨g', cap', cur, e, _, hg, _⟩
      · rw [e] at hk; cases hk
      · rw [e] at hk
        simp [Value.ownBlock] at hk
        subst hk
        have := b7.symm.trans hg
        simp only [Option.some.injEq, Obj.cells.injEq] at this
        exact absurd this.2.1 (by decide)
    · intro y hy
      rcases List.mem_append.1 hy with hy | hy
      · exact H.out.short y hy
      · simp at hy; subst hy; exact hxs
    · refine ((Turn2.of_below hW Wb g).trans (Turn2.of_grown grow7 Wb) (.inl rfl)).trans (g' := g) ?_ (.inl rfl)
      exact Turn2.of_grownB gs g
    · rcases hat7 with e | e
      · simp at e; exact .inl e.symm
      · have := hW.size; exact .inr (by omega)
  clear h hx hxu
  have has := fun v t W => visAssert v t W
  go_enter Try.func105, Try.ntmps105
  go_wp2_with fail
  go_region_law (refine step_append_lies _ rfl (.tmp 7) (.tmp 10) 92 rfl base 67 i0 (.agg #[.slice none 0 0, .int .i64 0]) 2 32 Try.underlying92 hi hz0 hz1 hz2 rfl (by decide) (.slice (some ⟨g, 0, none⟩) L.length cap) L.length (cellsV L) (by simp [Act.eval]) (own_kept H.out.row (by go_grown)) ⟨w.heap.size, 0, none⟩ 1 1 [Value.slice xo xm xc, .int .i64 x.set] (by simp [Act.eval]) rfl (World.news_of_block (heap_alloc_new w _)) hone (by omega) hmx hby (by simp; omega) _ rfl ?_; intro g7 cap7 w7 own7 grow7 hat7 hlt7; (obtain ⟨b7, HH⟩ := HA.out _ w7 g7 cap7 (by go_grown) own7 grow7 hat7); (obtain ⟨c7, f7⟩ := one_cell b7))
  all_goals
    go_wp2
    go_end0
    exact ⟨⟨_, rfl⟩, HH⟩

theorem Hp.popped {w : World} {base Wb g cap : Nat} {L : List Vis} {x : Vis} (h : Hp w base Wb g cap (L ++ [x])) : Hp (w.setCell ⟨Wb, 0, none⟩ (.slice (some ⟨g, 0, none⟩) L.length cap)) base Wb g cap L ∧ Turn2 w Wb g (w.setCell ⟨Wb, 0, none⟩ (.slice (some ⟨g, 0, none⟩) L.length cap)) := by
  have hl : (L ++ [x]).length = L.length + 1 := by simp
  have B1 := one_set h.box (.slice (some ⟨g, 0, none⟩) L.length cap)
  have gs := grown_setCell1H w Wb 0 (.slice (some ⟨g, 0, none⟩) L.length cap)
  refine ⟨⟨B1, ?_, fun y hy => ?_, fun y hy => h.short y (by simp [hy])⟩, Turn2.of_grownB gs g⟩
  · have h1 := own_grown h.row gs (fun k hk e => by simp [Value.ownBlock] at hk; simp at e; exact h.ne (by omega))
    rcases h1.2 with ⟨e, _⟩ | ⟨g', cap', cur, e, k1, k2, k3, k4, k5, k6⟩
    · cases e
    · cases e
      refine ⟨by rw [cellsV_length], .inr ⟨g, cap, cur, rfl, k1, k2, by omega, k4, k5, ?_⟩⟩
      have e2 : cur.toList.take (L.length * 2) = (cur.toList.take ((L ++ [x]).length * 2)).take (L.length * 2) := by rw [List.take_take, hl]; congr 1; omega
      rw [e2, k6, cellsV_append, List.take_append_of_le_length (by rw [cellsV_length]; exact Nat.le_refl _), List.take_of_length_le (by rw [cellsV_length]; exact Nat.le_refl _)]
  · exact own_grown (h.ways y (by simp [hy])) gs (fun k hk e => (h.apart (by simp [hy]) hk).1 (by simpa using e.symm))

theorem visPop (L : List Vis) (base cap g Wb : Nat) (x : Vis) (w : World) (hn : L.length ≤ 100000) (h : Hp w base Wb g cap (L ++ [x])) :
    Calls Try.prog 104 #[.pointer (some ⟨Wb, 0, none⟩)] w fun e w' => e = .returned (.iface 67 (.agg #[x.u, .int .i64 x.set])) ∧ Hp w' base Wb g cap L ∧ Turn2 w Wb g w' := by
  obtain ⟨c0, f0⟩ := one_cell h.box
  have hl : (L ++ [x]).length = L.length + 1 := by simp
  have hx := h.row.at (j := L.length) (by omega)
  have hgx : (L ++ [x]).getD L.length vis0 = x := by simp [List.getD]
  rw [hgx] at hx
  obtain ⟨x0, x1⟩ := hx
  have hle := h.row.le
  rw [hl] at c0 hle
  have ltW := h.lt
  have hWne : ¬ w.heap.size = Wb := by omega
  obtain ⟨xo, xm, xc, hxu⟩ := h.slices x (by simp)
  have HP : Hid _ := h.popped
  rw [hxu] at x0 ⊢
  unfold maxLen at hle
  obtain ⟨hle1, hle2, hle3, hle4⟩ := hle
  have h1 : (0 : Int) ≤ (L.length : Int) := by omega
  clear h hgx hxu
  go_enter Try.func104, Try.ntmps104
  go_wp2
  go_ret
  exact ⟨rfl, HP.out.1.below (by go_grown), HP.out.2.trans (Turn2.of_below (by go_grown) Wb g) (.inl rfl)⟩

theorem heapUp (L : List Vis) (base cap g Wb j : Nat) (w : World) (hn : L.length ≤ 100000) (h : Hp w base Wb g cap L) (hj : j < L.length) (hU : UpH L j) :
    Calls Try.prog 75 #[.iface 94 (.pointer (some ⟨Wb, 0, none⟩)), .int .i64 j] w fun e w' => (∃ v, e = .returned v) ∧ ∃ L', Hp w' base Wb g cap L' ∧ Turn2 w Wb g w' ∧ L'.length = L.length ∧ (∀ x, x ∈ L' ↔ x ∈ L) ∧ IsH L' L'.length := by
  go_enter Try.func75, Try.ntmps75
  go_wp2_with fail
  go_loopw [1] (fun jv wr => ∃ (k : Nat) (L' : List Vis), k < L'.length ∧ jv = .int .i64 k ∧ Hp wr base Wb g cap L' ∧ Turn2 w Wb g wr ∧ L'.length = L.length ∧ (∀ x, x ∈ L' ↔ x ∈ L) ∧ UpH L' k) (fun jv _ => (intOf jv).toNat)
  case atStart => exact ⟨j, L, hj, rfl, h, Turn2.refl _ _ _, rfl, fun _ => Iff.rfl, hU⟩
  case round =>
    obtain ⟨k, L', hk, rfl, hH, hT, hl', hm, hU'⟩ := hrel
    have hkn : k ≤ 100000 := by omega
    have HL : Hid _ := hl'
    clear hl'
    obtain ⟨c0, f0⟩ := one_cell hH.box
    rcases Nat.eq_zero_or_pos k with h0 | h0
    · subst h0
      have HF : Hid _ := up_done hU' (.inl rfl)
      have HH : Hid _ := hH
      clear hH hU' hU h
      go_wp2
      go_end0
      exact ⟨⟨_, rfl⟩, L', HH.out, hT, HL.out, hm, HF.out⟩
    · obtain ⟨p, hp⟩ : ∃ p, (k - 1) / 2 = p := ⟨_, rfl⟩
      have hpl : p < L'.length := by omega
      have hpk : p < k := by omega
      have hq : ((k : Int) - 1).tdiv 2 = (p : Int) := by
        have e : ((k : Int) - 1) = ((k - 1 : Nat) : Int) := by omega
        rw [e, ← hp]; rfl
      have hne : ((p : Int) == (k : Int)) = false := by
        rw [beq_eq_false_iff_ne]; omega
      have hML := fun n => vis_less n Wb _ _ _ wr c0
      have hle := hpLess hH hk hpl
      have HH : Hid _ := hH
      have HU : Hid _ := hU'
      have HS : Hid _ := hp
      clear hH hU' hU h hp
      cases hb : wlt (wy L' k) (wy L' p)
      · rw [hb] at hle
        have HB : Hid _ := hb
        clear hb
        go_wp2_with (go_at_call 96; refine hle.mono ?_; rintro e w5 ⟨rfl, b5⟩)
        go_end0
        refine ⟨⟨_, rfl⟩, L', HH.out.below b5, hT.trans (Turn2.of_below b5 Wb g) (.inl rfl), HL.out, hm, up_done HU.out (.inr ?_)⟩
        rw [HS.out]; exact HB.out
      · rw [hb] at hle
        have HB : Hid _ := hb
        clear hb
        go_wp2_with fail
        go_at_call 96
        refine hle.mono ?_
        rintro e w5 ⟨rfl, b5⟩
        have h5 := HH.out.below b5
        obtain ⟨c5, f5⟩ := one_cell h5.box
        have hMS := fun n => vis_swap n Wb _ _ _ w5 c5
        have hsw := hpSwap h5 hpl hk
        clear c0 f0 hML hle f5
        go_wp2_with fail
        go_at_call 97
        refine hsw.mono ?_
        rintro e w6 ⟨⟨v6, rfl⟩, h6, g6⟩
        have T6 : Hid (Turn2 w Wb g w6) := (hT.trans (Turn2.of_below b5 Wb g) (.inl rfl)).trans (Turn2.of_grown g6 Wb) (.inl rfl)
        have H6 : Hid _ := h6
        clear h6 g6 hMS hsw h5 c5
        go_wp2
        go_roundw
        case rel =>
          refine ⟨p, swp L' p k, by rw [swp_length]; exact hpl, rfl, H6.out, T6.out, by rw [swp_length]; exact HL.out, fun x => (swp_mem hpl hk x).trans (hm x), ?_⟩
          have := up_step HU.out h0 hk (by rw [HS.out]; exact HB.out)
          rwa [HS.out] at this
        case measure => simp [intOf]; omega

theorem heapDown (L : List Vis) (base cap g Wb n : Nat) (w : World) (hn : L.length ≤ 100000) (h : Hp w base Wb g cap L) (hnl : n ≤ L.length) (hD : DnH L n 0) :
    Calls Try.prog 74 #[.iface 94 (.pointer (some ⟨Wb, 0, none⟩)), .int .i64 0, .int .i64 n] w fun e w' => (∃ v, e = .returned v) ∧ ∃ L', Hp w' base Wb g cap L' ∧ Turn2 w Wb g w' ∧ L'.length = L.length ∧ (∀ x, x ∈ L' ↔ x ∈ L) ∧ IsH L' n ∧ (∀ k, n ≤ k → L'.getD k vis0 = L.getD k vis0) := by
  go_enter Try.func74, Try.ntmps74
  go_wp2_with fail
  go_loopw [7] (fun iv wr => ∃ (k : Nat) (L' : List Vis), (k < n ∨ k = 0) ∧ iv = .int .i64 k ∧ Hp wr base Wb g cap L' ∧ Turn2 w Wb g wr ∧ L'.length = L.length ∧ (∀ x, x ∈ L' ↔ x ∈ L) ∧ DnH L' n k ∧ (∀ q, n ≤ q → L'.getD q vis0 = L.getD q vis0)) (fun iv _ => n - (intOf iv).toNat)
  case atStart => exact ⟨0, L, .inr rfl, rfl, h, Turn2.refl _ _ _, rfl, fun _ => Iff.rfl, hD, fun _ _ => rfl⟩
  case round =>
    obtain ⟨k, L', hk, rfl, hH, hT, hl', hm, hU', hkeep⟩ := hrel
    have hkn : k ≤ 100000 := by omega
    have HL : Hid _ := hl'
    have hln : n ≤ L'.length := by omega
    clear hl'
    obtain ⟨c0, f0⟩ := one_cell hH.box
    have HH : Hid _ := hH
    have HT : Hid _ := hT
    have HU : Hid _ := hU'
    clear hH hU' hD h hT
    have hn1 : n ≤ 100000 := by omega
    by_cases h1 : 2 * k + 1 < n
    · have h1' : ¬ (n : Int) ≤ 2 * (k : Int) + 1 := by omega
      have hkl : k < L'.length := by omega
      have hL1 : 2 * k + 1 < L'.length := by omega
      have HC1 : Hid ((2 : Int) * (k : Int) + 1 = ((2 * k + 1 : Nat) : Int)) := by show (2 : Int) * (k : Int) + 1 = ((2 * k + 1 : Nat) : Int); omega
      have HC2 : Hid ((2 : Int) * (k : Int) + 1 + 1 = ((2 * k + 2 : Nat) : Int)) := by show (2 : Int) * (k : Int) + 1 + 1 = ((2 * k + 2 : Nat) : Int); omega
      by_cases h2 : 2 * k + 2 < n
      · have h2' : (2 : Int) * (k : Int) + 1 + 1 < (n : Int) := by omega
        have hL2 : 2 * k + 2 < L'.length := by omega
        have hML0 := fun n => vis_less n Wb _ _ _ wr c0
        have hle0 := hpLess HH.out hL2 hL1
        rw [← HC2.out, ← HC1.out] at hle0
        cases hb0 : wlt (wy L' (2 * k + 2)) (wy L' (2 * k + 1))
        · rw [hb0] at hle0
          have HB0 : Hid _ := hb0
          clear hb0
          have HMIN : Hid (∀ q, 0 < q → q < n → (q - 1) / 2 = k → wle (wy L' (2 * k + 1)) (wy L' q)) := by
            intro q hq0 hqn hqp
            have : q = 2 * k + 1 ∨ q = 2 * k + 2 := by omega
            rcases this with rfl | rfl
            · exact wle_refl _
            · exact HB0.out
          go_wp2_with fail
          go_at_call 96
          refine hle0.mono ?_
          rintro e w5 ⟨rfl, b5⟩
          have H5 : Hid _ := HH.out.below b5
          have T5 : Hid (Turn2 w Wb g w5) := HT.out.trans (Turn2.of_below b5 Wb g) (.inl rfl)
          clear c0 f0 hML0 hle0 HH HT b5
          have hcl : 2 * k + 1 < L'.length := by omega
          obtain ⟨c5, f5⟩ := one_cell (H5).out.box
          have hML := fun n => vis_less n Wb _ _ _ w5 c5
          have hle := hpLess (H5).out hcl hkl
          rw [← HC1.out] at hle
          cases hb : wlt (wy L' (2 * k + 1)) (wy L' k)
          · rw [hb] at hle
            have HB : Hid _ := hb
            clear hb
            go_wp2_with (go_at_call 96; refine hle.mono ?_; rintro e w6 ⟨rfl, b6⟩)
            go_ret
            refine ⟨⟨_, rfl⟩, L', (H5).out.below b6, (T5).out.trans (Turn2.of_below b6 Wb g) (.inl rfl), HL.out, hm, dn_done HU.out (fun q hq0 hqn hqp => ?_), hkeep⟩
            exact wle_trans HB.out (HMIN.out q hq0 hqn hqp)
          · rw [hb] at hle
            have HB : Hid _ := hb
            clear hb
            go_wp2_with fail
            go_at_call 96
            refine hle.mono ?_
            rintro e w6 ⟨rfl, b6⟩
            have h6 := (H5).out.below b6
            obtain ⟨c6, f6⟩ := one_cell h6.box
            have hMS := fun n => vis_swap n Wb _ _ _ w6 c6
            have hsw := hpSwap h6 hkl hcl
            rw [← HC1.out] at hsw
            clear c5 f5 hML hle f6
            go_wp2_with fail
            go_at_call 97
            refine hsw.mono ?_
            rintro e w7 ⟨⟨v7, rfl⟩, h7, g7⟩
            have T7 : Hid (Turn2 w Wb g w7) := ((T5).out.trans (Turn2.of_below b6 Wb g) (.inl rfl)).trans (Turn2.of_grown g7 Wb) (.inl rfl)
            have H7 : Hid _ := h7
            clear h7 g7 hMS hsw h6 c6
            go_wp2
            go_roundw
            case rel =>
              refine ⟨2 * k + 1, swp L' k (2 * k + 1), by omega, by go_num, H7.out, T7.out, by rw [swp_length]; exact HL.out, fun x => (swp_mem hkl hcl x).trans (hm x), dn_step HU.out (by rw [HL.out]; exact hnl) (by omega) (by omega) (by omega) HB.out (HMIN.out), fun q hq => ?_⟩
              rw [swp_get L' hkl hcl, if_neg (by omega), if_neg (by omega)]
              exact hkeep q hq
            case measure => simp [intOf]; omega
        · rw [hb0] at hle0
          have HB0 : Hid _ := hb0
          clear hb0
          have HMIN : Hid (∀ q, 0 < q → q < n → (q - 1) / 2 = k → wle (wy L' (2 * k + 2)) (wy L' q)) := by
            intro q hq0 hqn hqp
            have : q = 2 * k + 1 ∨ q = 2 * k + 2 := by omega
            rcases this with rfl | rfl
            · exact wle_of_lt HB0.out
            · exact wle_refl _
          go_wp2_with fail
          go_at_call 96
          refine hle0.mono ?_
          rintro e w5 ⟨rfl, b5⟩
          have H5 : Hid _ := HH.out.below b5
          have T5 : Hid (Turn2 w Wb g w5) := HT.out.trans (Turn2.of_below b5 Wb g) (.inl rfl)
          clear c0 f0 hML0 hle0 HH HT b5
          have hcl : 2 * k + 2 < L'.length := by omega
          obtain ⟨c5, f5⟩ := one_cell (H5).out.box
          have hML := fun n => vis_less n Wb _ _ _ w5 c5
          have hle := hpLess (H5).out hcl hkl
          rw [← HC2.out] at hle
          cases hb : wlt (wy L' (2 * k + 2)) (wy L' k)
          · rw [hb] at hle
            have HB : Hid _ := hb
            clear hb
            go_wp2_with (go_at_call 96; refine hle.mono ?_; rintro e w6 ⟨rfl, b6⟩)
            go_ret
            refine ⟨⟨_, rfl⟩, L', (H5).out.below b6, (T5).out.trans (Turn2.of_below b6 Wb g) (.inl rfl), HL.out, hm, dn_done HU.out (fun q hq0 hqn hqp => ?_), hkeep⟩
            exact wle_trans HB.out (HMIN.out q hq0 hqn hqp)
          · rw [hb] at hle
            have HB : Hid _ := hb
            clear hb
            go_wp2_with fail
            go_at_call 96
            refine hle.mono ?_
            rintro e w6 ⟨rfl, b6⟩
            have h6 := (H5).out.below b6
            obtain ⟨c6, f6⟩ := one_cell h6.box
            have hMS := fun n => vis_swap n Wb _ _ _ w6 c6
            have hsw := hpSwap h6 hkl hcl
            rw [← HC2.out] at hsw
            clear c5 f5 hML hle f6
            go_wp2_with fail
            go_at_call 97
            refine hsw.mono ?_
            rintro e w7 ⟨⟨v7, rfl⟩, h7, g7⟩
            have T7 : Hid (Turn2 w Wb g w7) := ((T5).out.trans (Turn2.of_below b6 Wb g) (.inl rfl)).trans (Turn2.of_grown g7 Wb) (.inl rfl)
            have H7 : Hid _ := h7
            clear h7 g7 hMS hsw h6 c6
            go_wp2
            go_roundw
            case rel =>
              refine ⟨2 * k + 2, swp L' k (2 * k + 2), by omega, by go_num, H7.out, T7.out, by rw [swp_length]; exact HL.out, fun x => (swp_mem hkl hcl x).trans (hm x), dn_step HU.out (by rw [HL.out]; exact hnl) (by omega) (by omega) (by omega) HB.out (HMIN.out), fun q hq => ?_⟩
              rw [swp_get L' hkl hcl, if_neg (by omega), if_neg (by omega)]
              exact hkeep q hq
            case measure => simp [intOf]; omega
      · have h2' : ¬ (2 : Int) * (k : Int) + 1 + 1 < (n : Int) := by omega
        have HMIN : Hid (∀ q, 0 < q → q < n → (q - 1) / 2 = k → wle (wy L' (2 * k + 1)) (wy L' q)) := by
          intro q hq0 hqn hqp
          have : q = 2 * k + 1 := by omega
          subst this
          exact wle_refl _
        clear c0 f0
        have hcl : 2 * k + 1 < L'.length := by omega
        obtain ⟨c5, f5⟩ := one_cell (HH).out.box
        have hML := fun n => vis_less n Wb _ _ _ wr c5
        have hle := hpLess (HH).out hcl hkl
        rw [← HC1.out] at hle
        cases hb : wlt (wy L' (2 * k + 1)) (wy L' k)
        · rw [hb] at hle
          have HB : Hid _ := hb
          clear hb
          go_wp2_with (go_at_call 96; refine hle.mono ?_; rintro e w6 ⟨rfl, b6⟩)
          go_ret
          refine ⟨⟨_, rfl⟩, L', (HH).out.below b6, (HT).out.trans (Turn2.of_below b6 Wb g) (.inl rfl), HL.out, hm, dn_done HU.out (fun q hq0 hqn hqp => ?_), hkeep⟩
          exact wle_trans HB.out (HMIN.out q hq0 hqn hqp)
        · rw [hb] at hle
          have HB : Hid _ := hb
          clear hb
          go_wp2_with fail
          go_at_call 96
          refine hle.mono ?_
          rintro e w6 ⟨rfl, b6⟩
          have h6 := (HH).out.below b6
          obtain ⟨c6, f6⟩ := one_cell h6.box
          have hMS := fun n => vis_swap n Wb _ _ _ w6 c6
          have hsw := hpSwap h6 hkl hcl
          rw [← HC1.out] at hsw
          clear c5 f5 hML hle f6
          go_wp2_with fail
          go_at_call 97
          refine hsw.mono ?_
          rintro e w7 ⟨⟨v7, rfl⟩, h7, g7⟩
          have T7 : Hid (Turn2 w Wb g w7) := ((HT).out.trans (Turn2.of_below b6 Wb g) (.inl rfl)).trans (Turn2.of_grown g7 Wb) (.inl rfl)
          have H7 : Hid _ := h7
          clear h7 g7 hMS hsw h6 c6
          go_wp2
          go_roundw
          case rel =>
            refine ⟨2 * k + 1, swp L' k (2 * k + 1), by omega, by go_num, H7.out, T7.out, by rw [swp_length]; exact HL.out, fun x => (swp_mem hkl hcl x).trans (hm x), dn_step HU.out (by rw [HL.out]; exact hnl) (by omega) (by omega) (by omega) HB.out (HMIN.out), fun q hq => ?_⟩
            rw [swp_get L' hkl hcl, if_neg (by omega), if_neg (by omega)]
            exact hkeep q hq
          case measure => simp [intOf]; omega
    · have h1' : (n : Int) ≤ 2 * (k : Int) + 1 := by omega
      clear c0 f0
      go_wp2
      go_ret
      refine ⟨⟨_, rfl⟩, L', HH.out, HT.out, HL.out, hm, dn_done HU.out (fun q hq0 hqn hqp => ?_), hkeep⟩
      omega

end Go.Proofs.Ytciccbbgamklbaa

/-
  heap.Push, heap.Pop over visits: the least way comes first.
-/
namespace Go.Proofs.Ytciccbbgamklbaa
open Go.RowKit
set_option linter.unusedVariables false
set_option maxHeartbeats 2000000
set_option maxRecDepth 20000

theorem heapPush (L : List Vis) (base cap g Wb : Nat) (x : Vis) (w : World) (hn : L.length ≤ 90000) (hbase : base ≤ w.heap.size) (h : Hp w base Wb g cap L) (hI : IsH L L.length) (hx : w.ownsRow base 2 1 x.u x.way.length (ints x.way)) (hxs : x.way.length ≤ 100000) :
    Calls Try.prog 55 #[.iface 94 (.pointer (some ⟨Wb, 0, none⟩)), .iface 67 (.agg #[x.u, .int .i64 x.set])] w fun e w' =>
      (∃ v, e = .returned v) ∧ ∃ g' cap' L', Hp w' base Wb g' cap' L' ∧ Turn2 w Wb g w' ∧ (g' = g ∨ w.heap.size ≤ g') ∧ L'.length = L.length + 1 ∧ (∀ y, y ∈ L' ↔ y = x ∨ y ∈ L) ∧ IsH L' L'.length := by
  have hp := visPush L base cap g Wb x w (by omega) hbase h hx hxs
  have hst := push_start hI x
  have hl1 : (L ++ [x]).length = L.length + 1 := by simp
  have hmem : ∀ y, y ∈ L ++ [x] ↔ y = x ∨ y ∈ L := fun y => by simp [or_comm]
  have HL1 : Hid _ := hl1
  have HST : Hid _ := hst
  generalize L ++ [x] = M at *
  clear hst hl1 h hx
  go_enter Try.func55, Try.ntmps55
  go_wp2_with fail
  go_at_call 105
  refine hp.mono ?_
  rintro e w1 ⟨⟨v1, rfl⟩, g1, cap1, h1, t1, hg1⟩
  obtain ⟨c1, f1⟩ := one_cell h1.box
  have hML := fun n => vis_len n Wb _ _ _ w1 c1
  have hle := fun W => visLen (some ⟨g1, 0, none⟩) M.length cap1 W
  have hup := heapUp M base cap1 g1 Wb L.length w1 (by rw [HL1.out]; omega) h1 (by rw [HL1.out]; omega) HST.out
  have hM : (M.length : Int) - 1 = (L.length : Int) := by rw [HL1.out]; omega
  have hM2 : M.length ≤ 100000 := by rw [HL1.out]; omega
  clear hp
  go_wp2_with (first
    | (go_at_call 95; refine (hle _).mono ?_; rintro e w2 ⟨rfl, rfl⟩)
    | (go_at_call 75; refine hup.mono ?_; rintro e w3 ⟨⟨v3, rfl⟩, L', h3, t3, hl3, hm3, hi3⟩))
  go_end0
  exact ⟨⟨_, rfl⟩, g1, cap1, L', h3, t1.trans t3 hg1, hg1, by rw [hl3, HL1.out], fun y => (hm3 y).trans (hmem y), hi3⟩

theorem take_last {L : List Vis} {n : Nat} (h : L.length = n + 1) : L = L.take n ++ [L.getD n vis0] := by
  have hn : n < L.length := by omega
  have e : L.getD n vis0 = L[n] := by simp [List.getD, hn]
  rw [e, ← List.take_succ_eq_append_getElem hn, List.take_of_length_le (by omega)]

theorem heapPop (L : List Vis) (base cap g Wb n : Nat) (w : World) (hl : L.length = n + 1) (hn : n ≤ 90000) (h : Hp w base Wb g cap L) (hI : IsH L L.length) :
    Calls Try.prog 54 #[.iface 94 (.pointer (some ⟨Wb, 0, none⟩))] w fun e w' =>
      ∃ x, e = .returned (.iface 67 (.agg #[x.u, .int .i64 x.set])) ∧ w'.ownsRow base 2 1 x.u x.way.length (ints x.way) ∧ x.u.ownBlock ≠ some Wb ∧ x.u.ownBlock ≠ some g ∧ ∃ L', Hp w' base Wb g cap L' ∧ Turn2 w Wb g w' ∧ L'.length = n ∧ (∀ y, y ∈ L ↔ y = x ∨ y ∈ L') ∧ IsH L' L'.length ∧ (∀ y, y ∈ L' → wle x.way y.way) := by
  obtain ⟨c0, f0⟩ := one_cell h.box
  have hML := fun m => vis_len m Wb _ _ _ w c0
  have hMS := fun m => vis_swap m Wb _ _ _ w c0
  have hle := fun W => visLen (some ⟨g, 0, none⟩) L.length cap W
  have hsw := hpSwap h (i := 0) (j := n) (by omega) (by omega)
  have hM : (L.length : Int) - 1 = (n : Int) := by omega
  have hL2 : L.length ≤ 100000 := by omega
  have HL : Hid _ := hl
  have HH : Hid _ := h
  have HI : Hid _ := hI
  clear h hI hl
  go_enter Try.func54, Try.ntmps54
  go_wp2_with fail
  go_at_call 95
  refine (hle _).mono ?_
  rintro e w1 ⟨rfl, rfl⟩
  go_wp2_with fail
  go_at_call 97
  refine hsw.mono ?_
  rintro e w2 ⟨⟨v2, rfl⟩, h2, g2⟩
  have hd := heapDown (swp L 0 n) base cap g Wb n w2 (by rw [swp_length]; exact hL2) h2 (by rw [swp_length, HL.out]; omega) (pop_start (by rw [← HL.out]; exact HI.out) HL.out)
  clear c0 f0 hML hMS hle hsw
  go_wp2_with fail
  go_at_call 74
  refine hd.mono ?_
  rintro e w3 ⟨⟨v3, rfl⟩, L', h3, t3, hl3, hm3, hi3, hk3⟩
  have hl3' : L'.length = n + 1 := by rw [hl3, swp_length, HL.out]
  have hlast := take_last hl3'
  have hx : L'.getD n vis0 = L.getD 0 vis0 := by
    rw [hk3 n (Nat.le_refl _), swp_get L (by rw [HL.out]; omega) (by rw [HL.out]; omega), if_pos rfl]
  rw [hx] at hlast
  have hmm : ∀ y, y ∈ L ↔ y = L.getD 0 vis0 ∨ y ∈ L'.take n := fun y => by
    rw [← swp_mem (i := 0) (j := n) (by rw [HL.out]; omega) (by rw [HL.out]; omega), ← hm3 y]
    have e : (y ∈ L') = (y ∈ L'.take n ++ [L.getD 0 vis0]) := by rw [← hlast]
    rw [e, List.mem_append, List.mem_singleton, or_comm]
  have HMM : Hid _ := hmm
  have h4 := h3
  rw [hlast] at h4
  have hpo := visPop (L'.take n) base cap g Wb (L.getD 0 vis0) w3 (by simp; omega) h4
  have HW : Hid _ := h4.ways (L.getD 0 vis0) (by simp)
  have HAP : Hid (∀ k, (L.getD 0 vis0).u.ownBlock = some k → k ≠ Wb ∧ k ≠ g) := fun k hk => ⟨(h4.apart (x := L.getD 0 vis0) (by simp) hk).1, (h4.apart (x := L.getD 0 vis0) (by simp) hk).2.1⟩
  have HT : Hid (Turn2 w Wb g w3) := (Turn2.of_grown g2 Wb).trans t3 (.inl rfl)
  have HI2 : Hid _ := isH_take hi3 (by omega)
  have HLN : Hid ((L'.take n).length = n) := by show (L'.take n).length = n; simp; omega
  have HMIN : Hid (∀ y, y ∈ L'.take n → wle (L.getD 0 vis0).way y.way) := fun y hy => by
    obtain ⟨k, hk, e⟩ := mem_getD.1 ((hmm y).2 (.inr hy))
    have := root_min HI.out k hk
    unfold wy at this
    rwa [e] at this
  generalize L.getD 0 vis0 = x at *
  generalize L'.take n = M at *
  clear hd h4 h3 hlast hx hmm hi3 hm3 hk3 hl3 hl3' h2
  go_wp2_with fail
  go_at_call 104
  refine hpo.mono ?_
  rintro e w5 ⟨rfl, h5, t5⟩
  have HF : Hid _ := h5
  have T5 : Hid (Turn2 w Wb g w5) := HT.out.trans t5 (.inl rfl)
  have HW5 : Hid (w5.ownsRow base 2 1 x.u x.way.length (ints x.way)) := own_same HW.out (fun k hk => t5.block k ((World.ownsRow.lt HW.out) k hk).2 (HAP.out k hk).1 (HAP.out k hk).2)
  clear h5 t5 hpo
  go_wp2
  go_ret
  exact ⟨x, rfl, HW5.out, fun e => (HAP.out _ e).1 rfl, fun e => (HAP.out _ e).2 rfl, M, HF.out, T5.out, HLN.out, HMM.out, HI2.out, HMIN.out⟩

end Go.Proofs.Ytciccbbgamklbaa

/-
  visit.at, longer, visitsWithNews (not the iterator itself).
-/
namespace Go.Proofs.Ytciccbbgamklbaa
open Go.RowKit
set_option linter.unusedVariables false
set_option maxHeartbeats 2000000
set_option maxRecDepth 20000

theorem own_formV {w : World} {base : Nat} {e : TypeId} {v : Value} {ys : List Int} (h : w.ownsRow base e 1 v ys.length (ints ys)) (hn : 0 < ys.length) : ∃ g cap, v = .slice (some ⟨g, 0, none⟩) ys.length cap ∧ ys.length ≤ cap ∧ cap ≤ maxLen ∧ g < w.heap.size ∧ (∀ j, j < ys.length → w.cell? ⟨g, j, none⟩ = some (.int .i64 (ys.getD j 0))) := by
  rcases h.2 with ⟨_, h0⟩ | ⟨g, cap, cur, rfl, k1, k2, k3, k4, k5, k6⟩
  · omega
  · refine ⟨g, cap, rfl, k3, k4, (Array.getElem?_eq_some_iff.1 k2).1, fun j hj => ?_⟩
    rw [h.cellAt j (by omega)]
    simp [ints, List.getD, hj]

theorem visitAt (x : Vis) (base : Nat) (w : World) (hx : w.ownsRow base 2 1 x.u x.way.length (ints x.way)) (hn : 0 < x.way.length) (hs : x.way.length ≤ 100000) :
    Calls Try.prog 33 #[.agg #[x.u, .int .i64 x.set]] w fun e w' => e = .returned (.int .i64 (lastI x.way)) ∧ Below w.heap.size w w' := by
  obtain ⟨g, cap, hu, k1, k2, k3, k4⟩ := own_formV hx hn
  rw [hu]
  obtain ⟨m, hm⟩ : ∃ m, x.way.length = m + 1 := ⟨x.way.length - 1, by omega⟩
  have c0 := k4 m (by omega)
  rw [← lastI_at hm] at c0
  rw [hm]
  generalize lastI x.way = y at *
  have hm' : m ≤ 100000 := by omega
  clear k4 hx hu
  go_enter Try.func33, Try.ntmps33
  go_wp2
  go_ret
  exact ⟨rfl, by go_grown⟩

theorem longer (way : List Int) (y : Int) (u : Value) (base : Nat) (w : World) (hx : w.ownsRow base 2 1 u way.length (ints way)) (hn : 0 < way.length) (hs : way.length ≤ 90000) :
    Calls Try.prog 56 #[u, .int .i64 y] w fun e w' => ∃ u', e = .returned u' ∧ w'.ownsRow w.heap.size 2 1 u' (way ++ [y]).length (ints (way ++ [y])) ∧ Below w.heap.size w w' := by
  obtain ⟨i0, hi, hz0, hz1, hz2⟩ := info_parts infoInt
  obtain ⟨g, cap, hu, k1, k2, k3, k4⟩ := own_formV hx hn
  subst hu
  have HC : Hid (∀ b, (some ⟨g, 0, none⟩ : Option Addr) = some b → ∀ j v, (ints way)[j]? = some v → (w.alloc (.cells #[.int .i64 y] 2)).cell? (b.add j) = some v) := by
    intro b hb j v hv
    cases hb
    have hj : j < way.length := by have := (List.getElem?_eq_some_iff.1 hv).1; simpa [ints] using this
    rw [Addr.add_lit, Nat.zero_add]
    have bW : Below w.heap.size w (w.alloc (.cells #[.int .i64 y] 2)) := by go_grown
    rw [bW.cell (p := ⟨g, j, none⟩) k3, k4 j hj, ← hv]
    simp [ints, List.getD, hj]
  have hone : ∀ u ∈ [Value.int .i64 y], u.oneCell' = true := fun u hu => by simp at hu; subst hu; rfl
  have hmx : way.length + 1 ≤ maxLen := by unfold maxLen; omega
  have hby : (way.length + 1) * 8 ≤ 140737488355328 := by omega
  have e1 : (way ++ [y]).length = way.length + 1 := by simp
  have e2 : ints (way ++ [y]) = ints way ++ [.int .i64 y] := by simp [ints]
  rw [e1, e2]
  unfold maxLen at k2
  have hil : (ints way).length = way.length * 1 := by simp [ints]
  clear k4 hx e1 e2
  generalize hcs : ints way = cs at *
  generalize hnn : way.length = n at *
  clear hcs hnn
  go_enter Try.func56, Try.ntmps56
  go_wp2_with (at_builtin; refine wpList_append_grows _ rfl (.tmp 10) (.tmp 12) 26 rfl 2 i0 (.int .i64 0) 1 8 Try.underlying26 hi hz0 hz1 hz2 rfl (by decide) (some ⟨g, 0, none⟩) n n cs rfl (fun h => by cases h) hil HC.out ⟨w.heap.size, 0, none⟩ 1 1 [.int .i64 y] rfl rfl (cell_one w y) hone (by omega) hmx hby ?_; intro v7 w7 own7 grow7)
  go_ret
  have bW : Below w.heap.size w (w.alloc (.cells #[.int .i64 y] 2)) := by go_grown
  exact ⟨_, rfl, own_mono own7 bW.size, bW.grown grow7 bW.size (by simp)⟩

theorem visitsWithNews (v : Value) (a b c d : Value) (s : Int) (w : World) :
    Calls Try.prog 32 #[.agg #[v], .agg #[a, b, c, d], .int .i64 s] w fun e w' => e = .returned (.func (.func 53) #[] #[.pointer (some ⟨w.heap.size + 1 + 1, 0, none⟩), .pointer (some ⟨w.heap.size + 1, 0, none⟩), .pointer (some ⟨w.heap.size, 0, none⟩)]) ∧ w' = ((w.alloc (.cells #[v] 30)).alloc (.cells #[a, b, c, d] 59)).alloc (.cells #[.int .i64 s] 2) := by
  go_enter Try.func32, Try.ntmps32
  go_wp2
  go_ret
  exact ⟨rfl, rfl⟩

end Go.Proofs.Ytciccbbgamklbaa

/-
  A loop over an iterator that keeps a state of its own in cells: the caller's cells are a set of blocks (its foot), which the iterator leaves alone; all others the body leaves alone.
-/
namespace Go.Proofs.Ytciccbbgamklbaa
open Go.RowKit

/-- From W to W' only blocks of the foot f have turned; what f' has more is new. -/
structure Outside (f : Nat → Prop) (W : World) (f' : Nat → Prop) (W' : World) : Prop where
  os : W'.os = W.os
  tape : W'.tape = W.tape
  output : W'.output = W.output
  size : W.heap.size ≤ W'.heap.size
  block : ∀ r, r < W.heap.size → ¬ f r → W'.heap[r]? = W.heap[r]?
  more : ∀ r, f r → f' r
  less : ∀ r, r < W.heap.size → f' r → f r
  lt : ∀ r, f' r → r < W'.heap.size

theorem Outside.trans {f g h : Nat → Prop} {A B C : World} (x : Outside f A g B) (y : Outside g B h C) : Outside f A h C :=
  ⟨y.os.trans x.os, y.tape.trans x.tape, y.output.trans x.output, Nat.le_trans x.size y.size, fun r hr hf => (y.block r (Nat.lt_of_lt_of_le hr x.size) (fun hg => hf (x.less r hr hg))).trans (x.block r hr hf),
    fun r hf => y.more r (x.more r hf), fun r hr hh => x.less r hr (y.less r (Nat.lt_of_lt_of_le hr x.size) hh), y.lt⟩

theorem Outside.refl {f : Nat → Prop} {A : World} (h : ∀ r, f r → r < A.heap.size) : Outside f A f A :=
  ⟨rfl, rfl, rfl, Nat.le_refl _, fun _ _ _ => rfl, fun _ h => h, fun _ _ h => h, h⟩

/-- One block of the foot turns, others are laid. -/
theorem Outside.grown {f : Nat → Prop} {A B : World} {row : Option Nat} (hg : A.grownBy B row) (h : ∀ r, f r → r < A.heap.size) (hr : ∀ r, row = some r → f r) : Outside f A f B :=
  ⟨hg.os, hg.tape, hg.output, hg.size, fun r hr' hf => hg.block r hr' (fun e => hf (hr r e.symm)), fun _ h => h, fun _ _ h => h, fun r hf => Nat.lt_of_lt_of_le (h r hf) hg.size⟩

/-- What the iterator's steps leave as it is. -/
def FootAbides {α : Type} (B : Nat) (J : List α → (Nat → Prop) → World → Prop) : Prop :=
  ∀ s f W W' row, J s f W → W.grownBy W' row → (∀ r, row = some r → B ≤ r ∧ ¬ f r) → J s f W'

/-- The contract of an iterator: whatever the caller's foot. -/
def SeqFoot {α : Type} (F : Fence) (n : Nat) (P : Program) (g : Nat) (lb : Array Value) (encs : α → Array Value) (Pf : (Nat → Prop) → Prop) (S Sp : List α → Prop) (N : Nat) (w : World) : Prop :=
  ∀ (l : Nat) (J Jx : List α → (Nat → Prop) → World → Prop) (W : World) (f : Nat → Prop), Below w.heap.size w W → FootAbides W.heap.size J → FootAbides W.heap.size Jx → Pf f → (∀ r, f r → r < W.heap.size) →
    (∀ pre x f W1, J pre f W1 → pre.length < N → YieldAt F (n - 1) P l (encs x) W1 fun e W' =>
      (e = .returned (.bool true) ∧ ∃ f', Outside f W1 f' W' ∧ J (pre ++ [x]) f' W') ∨ (e = .returned (.bool false) ∧ ∃ f', Outside f W1 f' W' ∧ Jx (pre ++ [x]) f' W')) →
    J [] f W →
    CallsIn F n P g (#[.func (.yield l) #[] #[]] ++ lb) W fun e W' => (∃ v, e = .returned v) ∧ ((∃ xs f', S xs ∧ J xs f' W') ∨ (∃ pre f', Sp pre ∧ Jx pre f' W'))

/-- How the body of a round may be left. -/
def footPost {α : Type} (I : List α → (Nat → Prop) → World → Prop) (Ix : Code → List α → (Nat → Prop) → World → Prop) (xs : List α) (f : Nat → Prop) (W : World) : Exit → Act → World → Prop
  | .normal, _, W' => KeepsOthers W W' ∧ ∃ f', Outside f W f' W' ∧ I xs f' W'
  | .ret, _, W' => KeepsOthers W W' ∧ ∃ f', Outside f W f' W' ∧ Ix .ret xs f' W'
  | .exit id, _, W' => KeepsOthers W W' ∧ ∃ f', Outside f W f' W' ∧ Ix (.exit id) xs f' W'
  | .goto t, _, W' => KeepsOthers W W' ∧ ∃ f', Outside f W f' W' ∧ Ix (.goto t) xs f' W'
  | .panic _, _, _ => False
  | .outgrown, _, _ => False

/-- The caller's invariant abides the turn of blocks beyond B that are none of its foot, or are no cells. -/
def FootOwn {α : Type} (B : Nat) (I : List α → (Nat → Prop) → World → Prop) : Prop :=
  ∀ s f W W' row, I s f W → W.grownBy W' row → (∀ r, row = some r → B ≤ r ∧ (¬ f r ∨ ∃ o : Obj, W.heap[r]? = some o ∧ o.isCells = false)) → I s f W'

theorem FootOwn.put {α : Type} {B : Nat} {I : List α → (Nat → Prop) → World → Prop} (h : FootOwn B I) {s : List α} {f : Nat → Prop} {W : World} {l : Nat} {o : Obj} (o' : Obj) (hs : I s f W) (hB : B ≤ l) (hl : W.heap[l]? = some o) (ho : o.isCells = false) : I s f (W.putObj l o') :=
  h s f W _ (some l) hs (grownBy_putObj' W l o') (fun r e => by cases e; exact ⟨hB, .inr ⟨o, hl, ho⟩⟩)

theorem FootOwn.alloc {α : Type} {B : Nat} {I : List α → (Nat → Prop) → World → Prop} (h : FootOwn B I) {s : List α} {f : Nat → Prop} {W : World} (o : Obj) (hs : I s f W) : I s f (W.alloc o) :=
  h s f W _ none hs (World.grownBy_alloc W o none) (fun r e => by cases e)

section
variable {F : Fence} {n : Nat} {P : Program}

theorem outside_put {f : Nat → Prop} {W : World} {l : Nat} (o' : Obj) (h : ∀ r, f r → r < W.heap.size) (hl : f l) : Outside f W f (W.putObj l o') :=
  Outside.grown (grownBy_putObj' W l o') h (fun r e => by cases e; exact hl)

set_option maxHeartbeats 1000000 in
/-- The loop: the foot at its beginning is f0; the loop's own two blocks are added to it. -/
theorem wpIn_rangeFunc_foot {α : Type} {g : Operand} {ps : Array Tmp} {assign body : Code} {Q : Exit → Act → World → Prop} {a : Act} {w : World}
    (hro : F.round = none) (h1 : 1 ≤ n) {gf : Nat} {lb : Array Value} (hg : a.eval g = .func (.func gf) #[] lb) (hFg : F.fn gf) (eg : ∀ args w, (callFunc gf args).run P w = .ok (.enter gf args) w)
    {encs : α → Array Value} {Pf : (Nat → Prop) → Prop} {S Sp : List α → Prop} {N : Nat} {w0 : World} (hseq : SeqFoot F (n - 1) P gf lb encs Pf S Sp N w0) (hb0 : Below w0.heap.size w0 w) (hps : ∀ x, (encs x).size = ps.size)
    (f0 : Nat → Prop) (hf0 : ∀ r, f0 r → r < w.heap.size) (hPf : Pf (fun r => f0 r ∨ r = w.heap.size ∨ r = w.heap.size + 1))
    (I : List α → (Nat → Prop) → World → Prop) (Ix : Code → List α → (Nat → Prop) → World → Prop) (hI : FootOwn w.heap.size I) (hIx : ∀ c, FootOwn w.heap.size (Ix c))
    (h0 : I [] (fun r => f0 r ∨ r = w.heap.size ∨ r = w.heap.size + 1) w) (a₁ : α → Act)
    (hassign : ∀ (l : Nat) (x : α) (W : World) (K : Act → World → Prop), K (a₁ x) W →
      assign.wpIn (F.inRound l) (n - 1 - 1) P (Exit.then K (fun _ _ _ => False)) { tmps := (ps.zip (encs x)).foldl (fun t (p, v) => t.setIfInBounds p v) a.tmps, defers := [] } W)
    (hbody : ∀ (l : Nat) (pre : List α) (x : α) (f : Nat → Prop) (W : World), I pre f W → (∀ r, f r → r < W.heap.size) → f w.heap.size → pre.length < N → body.wpIn (F.inRound l) (n - 1 - 1) P (footPost I Ix (pre ++ [x]) f W) (a₁ x) W)
    (hdone : ∀ (D : Nat) (xs : List α) (f : Nat → Prop) (W : World), w.heap.size ≤ D → S xs → I xs f W → W.heap[D]? = some (.deferred (some [])) → Q .normal { a with defers := { target := .collected D, args := #[] } :: a.defers } W)
    (hstop : ∀ (D : Nat) (c : Code) (pre : List α) (f : Nat → Prop) (W : World), w.heap.size ≤ D → Sp pre → Ix c pre f W → W.heap[D]? = some (.deferred (some [])) → c.wpIn F n P Q { a with defers := { target := .collected D, args := #[] } :: a.defers } W) :
    (Code.rangeFunc g ps assign body).wpIn F n P Q a w := by
  refine wpIn_rangeFunc ?_
  intro fn hfn
  rw [hro]
  obtain ⟨rec, hrec⟩ : ∃ rec : LoopState → Option Code → Loop, rec = fun st pe => { state := st, pending := pe, fn, tmps := a.tmps, params := ps, assign, body, defers := w.heap.size } := ⟨_, rfl⟩
  obtain ⟨W1, hW1⟩ : ∃ W1, (w.alloc (.deferred (some []))).alloc (.loop (rec .ready none)) = W1 := ⟨_, rfl⟩
  have hs1 : W1.heap.size = w.heap.size + 1 + 1 := by rw [← hW1]; simp
  have hL1 : W1.heap[w.heap.size + 1]? = some (.loop (rec .ready none)) := by
    have := World.alloc_heap_new (w.alloc (.deferred (some []))) (.loop (rec .ready none))
    rw [World.size_alloc] at this
    rw [← hW1]; exact this
  have hK1 : W1.heap[w.heap.size]? = some (.deferred (some [])) := by
    rw [← hW1]; exact (Below.heap_alloc _ _ _ (by simp)).trans (World.alloc_heap_new w _)
  have hI1 : I [] (fun r => f0 r ∨ r = w.heap.size ∨ r = w.heap.size + 1) W1 := by rw [← hW1]; exact hI.alloc _ (hI.alloc _ h0)
  have hb1 : Below w0.heap.size w0 W1 := by
    rw [← hW1]; exact hb0.trans ((((Below.refl _ w).alloc (Nat.le_refl _) _).alloc (by simp) _).mono hb0.size)
  refine ⟨w.heap.size + 1, [{ target := .collected w.heap.size, args := #[] }], W1, { target := .fn (.func gf) lb, args := #[.func (.yield (w.heap.size + 1)) #[] #[]] }, W1, gf,
    #[.func (.yield (w.heap.size + 1)) #[] #[]] ++ lb, W1, ?_, ?_, ?_, ?_, fun _ => h1, ?_⟩
  · rw [← hW1, hrec]; exact run_enterLoop_outer _ _ _ _ _
  · simp only [resolve, hg]
    simp [go_sem]
  · intro f' hf'; simp [Target.leads] at hf'; subst hf'; exact hFg
  · simp [invoke, go_sem, eg]
  -- the iterator's contract, at the caller's invariant and the loop's own two blocks
  have ab : ∀ (st : LoopState) (pe : Option Code) (I' : List α → (Nat → Prop) → World → Prop), FootOwn w.heap.size I' → FootAbides W1.heap.size (fun pre f W => I' pre f W ∧ f w.heap.size ∧ f (w.heap.size + 1) ∧ (∀ r, f r → r < W.heap.size) ∧
      W.heap[w.heap.size + 1]? = some (.loop (rec st pe)) ∧ W.heap[w.heap.size]? = some (.deferred (some []))) := by
    rintro st pe I' hI' s f A B row ⟨hi, hfD, hfL, hlt, hl, hk⟩ hgr hr
    refine ⟨hI' s f A B row hi hgr (fun r e => ⟨by have := (hr r e).1; omega, .inl (hr r e).2⟩), hfD, hfL, fun r hf => Nat.lt_of_lt_of_le (hlt r hf) hgr.size, ?_, ?_⟩
    · exact (hgr.block _ (hlt _ hfL) (fun e => (hr _ e.symm).2 hfL)).trans hl
    · exact (hgr.block _ (hlt _ hfD) (fun e => (hr _ e.symm).2 hfD)).trans hk
  refine (hseq (w.heap.size + 1)
    (fun pre f W => I pre f W ∧ f w.heap.size ∧ f (w.heap.size + 1) ∧ (∀ r, f r → r < W.heap.size) ∧ W.heap[w.heap.size + 1]? = some (.loop (rec .ready none)) ∧ W.heap[w.heap.size]? = some (.deferred (some [])))
    (fun pre f W => ∃ c, Ix c pre f W ∧ f w.heap.size ∧ f (w.heap.size + 1) ∧ (∀ r, f r → r < W.heap.size) ∧ W.heap[w.heap.size + 1]? = some (.loop (rec .done (some c))) ∧ W.heap[w.heap.size]? = some (.deferred (some [])))
    W1 (fun r => f0 r ∨ r = w.heap.size ∨ r = w.heap.size + 1) hb1 (ab _ _ I hI)
    (by
      rintro s f A B row ⟨c, hc⟩ hgr hr
      exact ⟨c, ab _ _ (Ix c) (hIx c) s f A B row hc hgr hr⟩)
    hPf (fun r hf => by rcases hf with h | h | h; · have := hf0 r h; omega
                        · omega
                        · omega)
    ?_ ⟨hI1, .inr (.inl rfl), .inr (.inr rfl), (fun r hf => by rcases hf with h | h | h; · have := hf0 r h; omega
                                                               · omega
                                                               · omega), hL1, hK1⟩).mono ?_
  · -- one round
    rintro pre x f W ⟨hi, hfD, hfL, hlt, hl, hk⟩ hlen
    have hltL := hlt _ hfL
    have hy := run_yield (P := P) (args := encs x) hl (by rw [hrec]; exact hps x)
    rw [hrec] at hy
    refine ⟨fn, _, assign, body, hy, roundIn_of_wpIn hfn (hassign _ x W _ ⟨_, run_beginRound hl (by rw [hrec]), ?_⟩)⟩
    obtain ⟨WB, hWB⟩ : ∃ WB, W.putObj (w.heap.size + 1) (.loop { rec .ready none with state := .busy }) = WB := ⟨_, rfl⟩
    have hl2 : WB.heap[w.heap.size + 1]? = some (.loop { rec .ready none with state := .busy }) := by rw [← hWB]; exact World.putObj_heap_same hltL
    have hk2 : WB.heap[w.heap.size]? = some (.deferred (some [])) := by rw [← hWB]; exact (World.putObj_heap_other (by omega)).trans hk
    have hO2 : Outside f W f WB := by rw [← hWB]; exact outside_put _ hlt hfL
    have hi2 : I pre f WB := by rw [← hWB]; exact hI.put _ hi (by omega) hl rfl
    rw [hWB]
    refine wpIn_mono (hbody _ pre x f WB hi2 hO2.lt hfD hlen) ?_
    have fin : ∀ (jump : Option Code) (f' : Nat → Prop) (W3 : World), KeepsOthers WB W3 → Outside f WB f' W3 →
        ∃ W4, (Instr.endRound (w.heap.size + 1) jump).run P W3 = .ok (.bool jump.isNone) W4 ∧ W4 = W3.putObj (w.heap.size + 1) (.loop (rec (if jump.isNone then .ready else .done) jump)) ∧
        (∃ o : Obj, W3.heap[w.heap.size + 1]? = some o ∧ o.isCells = false) ∧ f' w.heap.size ∧ f' (w.heap.size + 1) ∧ Outside f W f' W4 ∧
        W4.heap[w.heap.size + 1]? = some (.loop (rec (if jump.isNone then .ready else .done) jump)) ∧ W4.heap[w.heap.size]? = some (.deferred (some [])) := fun jump f' W3 hk3 ho3 => by
      have hl3 := hk3.same _ _ hl2 rfl
      have hrun := run_endRound (P := P) jump hl3
      rw [hrec] at hrun hl3
      refine ⟨W3.putObj (w.heap.size + 1) (.loop (rec (if jump.isNone then .ready else .done) jump)), by rw [hrec]; exact hrun, rfl, ⟨_, hl3, rfl⟩, ho3.more _ hfD, ho3.more _ hfL, hO2.trans (ho3.trans (outside_put _ ho3.lt (ho3.more _ hfL))), ?_, ?_⟩
      · rw [hrec]; exact World.putObj_heap_same (Array.getElem?_eq_some_iff.1 hl3).1
      · exact (World.putObj_heap_other (by omega)).trans (hk3.same _ _ hk2 rfl)
    rintro e a3 W3 hp
    cases e with
    | normal =>
      obtain ⟨hk3, f', ho3, hi3⟩ := hp
      obtain ⟨W4, hr, rfl, ⟨o, hl3, hoc⟩, hD', hL', hO4, hl4, hk4⟩ := fin none f' W3 hk3 ho3
      exact ⟨_, _, hr, .inl ⟨rfl, f', hO4, hI.put _ hi3 (by omega) hl3 hoc, hD', hL', hO4.lt, hl4, hk4⟩⟩
    | ret =>
      obtain ⟨hk3, f', ho3, hi3⟩ := hp
      obtain ⟨W4, hr, rfl, ⟨o, hl3, hoc⟩, hD', hL', hO4, hl4, hk4⟩ := fin (some .ret) f' W3 hk3 ho3
      exact ⟨_, _, hr, .inr ⟨rfl, f', hO4, .ret, (hIx _).put _ hi3 (by omega) hl3 hoc, hD', hL', hO4.lt, hl4, hk4⟩⟩
    | exit id =>
      obtain ⟨hk3, f', ho3, hi3⟩ := hp
      obtain ⟨W4, hr, rfl, ⟨o, hl3, hoc⟩, hD', hL', hO4, hl4, hk4⟩ := fin (some (.exit id)) f' W3 hk3 ho3
      exact ⟨_, _, hr, .inr ⟨rfl, f', hO4, .exit id, (hIx _).put _ hi3 (by omega) hl3 hoc, hD', hL', hO4.lt, hl4, hk4⟩⟩
    | goto t =>
      obtain ⟨hk3, f', ho3, hi3⟩ := hp
      obtain ⟨W4, hr, rfl, ⟨o, hl3, hoc⟩, hD', hL', hO4, hl4, hk4⟩ := fin (some (.goto t)) f' W3 hk3 ho3
      exact ⟨_, _, hr, .inr ⟨rfl, f', hO4, .goto t, (hIx _).put _ hi3 (by omega) hl3 hoc, hD', hL', hO4.lt, hl4, hk4⟩⟩
    | panic ch => exact hp.elim
    | outgrown => exact hp.elim
  · -- behind the iterator
    rintro e W2 ⟨⟨v, rfl⟩, (⟨xs, f', hS, hi, hfD, hfL, hlt, hl, hk⟩ | ⟨pre, f', hSp, c, hi, hfD, hfL, hlt, hl, hk⟩)⟩
    · exact ⟨none, _, by have := run_endLoop (P := P) hl (by rw [hrec]; simp); rw [hrec] at this; exact this, hdone _ xs f' _ (Nat.le_refl _) hS (hI.put _ hi (by omega) hl rfl) ((World.putObj_heap_other (by omega)).trans hk)⟩
    · exact ⟨some c, _, by have := run_endLoop (P := P) hl (by rw [hrec]; simp); rw [hrec] at this; exact this, hstop _ c pre f' _ (Nat.le_refl _) hSp ((hIx c).put _ hi (by omega) hl rfl) ((World.putObj_heap_other (by omega)).trans hk)⟩

end
end Go.Proofs.Ytciccbbgamklbaa

/-
  As RangeFoot, where the iterator tells the body something of what it hands over.
-/
namespace Go.Proofs.Ytciccbbgamklbaa
open Go.RowKit

/-- The contract of an iterator that tells the body something of what it hands over (G). -/
def SeqFootG {α : Type} (F : Fence) (n : Nat) (P : Program) (g : Nat) (lb : Array Value) (encs : α → Array Value) (G : α → (Nat → Prop) → World → Prop) (Pf : (Nat → Prop) → Prop) (S Sp : List α → Prop) (N : Nat) (w : World) : Prop :=
  ∀ (l : Nat) (J Jx : List α → (Nat → Prop) → World → Prop) (W : World) (f : Nat → Prop), Below w.heap.size w W → FootAbides W.heap.size J → FootAbides W.heap.size Jx → Pf f → (∀ r, f r → r < W.heap.size) →
    (∀ pre x f W1, J pre f W1 → G x f W1 → pre.length < N → YieldAt F (n - 1) P l (encs x) W1 fun e W' =>
      (e = .returned (.bool true) ∧ ∃ f', Outside f W1 f' W' ∧ J (pre ++ [x]) f' W') ∨ (e = .returned (.bool false) ∧ ∃ f', Outside f W1 f' W' ∧ Jx (pre ++ [x]) f' W')) →
    J [] f W →
    CallsIn F n P g (#[.func (.yield l) #[] #[]] ++ lb) W fun e W' => (∃ v, e = .returned v) ∧ ((∃ xs f', S xs ∧ J xs f' W') ∨ (∃ pre f', Sp pre ∧ Jx pre f' W'))

section
variable {F : Fence} {n : Nat} {P : Program}

set_option maxHeartbeats 1000000 in
/-- The loop: the foot at its beginning is f0; the loop's own two blocks are added to it. -/
theorem wpIn_rangeFunc_footG {α : Type} {g : Operand} {ps : Array Tmp} {assign body : Code} {Q : Exit → Act → World → Prop} {a : Act} {w : World}
    (hro : F.round = none) (h1 : 1 ≤ n) {gf : Nat} {lb : Array Value} (hg : a.eval g = .func (.func gf) #[] lb) (hFg : F.fn gf) (eg : ∀ args w, (callFunc gf args).run P w = .ok (.enter gf args) w)
    {encs : α → Array Value} {G : α → (Nat → Prop) → World → Prop} {Pf : (Nat → Prop) → Prop} {S Sp : List α → Prop} {N : Nat} {w0 : World} (hseq : SeqFootG F (n - 1) P gf lb encs G Pf S Sp N w0) (hb0 : Below w0.heap.size w0 w) (hps : ∀ x, (encs x).size = ps.size)
    (hG : ∀ (x : α) (f : Nat → Prop) (W : World) (l : Nat) (o o' : Obj), G x f W → W.heap[l]? = some o → o.isCells = false → G x f (W.putObj l o')) (f0 : Nat → Prop) (hf0 : ∀ r, f0 r → r < w.heap.size) (hPf : Pf (fun r => f0 r ∨ r = w.heap.size ∨ r = w.heap.size + 1))
    (I : List α → (Nat → Prop) → World → Prop) (Ix : Code → List α → (Nat → Prop) → World → Prop) (hI : FootOwn w.heap.size I) (hIx : ∀ c, FootOwn w.heap.size (Ix c))
    (h0 : I [] (fun r => f0 r ∨ r = w.heap.size ∨ r = w.heap.size + 1) w) (a₁ : α → Act)
    (hassign : ∀ (l : Nat) (x : α) (W : World) (K : Act → World → Prop), K (a₁ x) W →
      assign.wpIn (F.inRound l) (n - 1 - 1) P (Exit.then K (fun _ _ _ => False)) { tmps := (ps.zip (encs x)).foldl (fun t (p, v) => t.setIfInBounds p v) a.tmps, defers := [] } W)
    (hbody : ∀ (l : Nat) (pre : List α) (x : α) (f : Nat → Prop) (W : World), I pre f W → G x f W → (∀ r, f r → r < W.heap.size) → f w.heap.size → pre.length < N → body.wpIn (F.inRound l) (n - 1 - 1) P (footPost I Ix (pre ++ [x]) f W) (a₁ x) W)
    (hdone : ∀ (D : Nat) (xs : List α) (f : Nat → Prop) (W : World), w.heap.size ≤ D → S xs → I xs f W → W.heap[D]? = some (.deferred (some [])) → Q .normal { a with defers := { target := .collected D, args := #[] } :: a.defers } W)
    (hstop : ∀ (D : Nat) (c : Code) (pre : List α) (f : Nat → Prop) (W : World), w.heap.size ≤ D → Sp pre → Ix c pre f W → W.heap[D]? = some (.deferred (some [])) → c.wpIn F n P Q { a with defers := { target := .collected D, args := #[] } :: a.defers } W) :
    (Code.rangeFunc g ps assign body).wpIn F n P Q a w := by
  refine wpIn_rangeFunc ?_
  intro fn hfn
  rw [hro]
  obtain ⟨rec, hrec⟩ : ∃ rec : LoopState → Option Code → Loop, rec = fun st pe => { state := st, pending := pe, fn, tmps := a.tmps, params := ps, assign, body, defers := w.heap.size } := ⟨_, rfl⟩
  obtain ⟨W1, hW1⟩ : ∃ W1, (w.alloc (.deferred (some []))).alloc (.loop (rec .ready none)) = W1 := ⟨_, rfl⟩
  have hs1 : W1.heap.size = w.heap.size + 1 + 1 := by rw [← hW1]; simp
  have hL1 : W1.heap[w.heap.size + 1]? = some (.loop (rec .ready none)) := by
    have := World.alloc_heap_new (w.alloc (.deferred (some []))) (.loop (rec .ready none))
    rw [World.size_alloc] at this
    rw [← hW1]; exact this
  have hK1 : W1.heap[w.heap.size]? = some (.deferred (some [])) := by
    rw [← hW1]; exact (Below.heap_alloc _ _ _ (by simp)).trans (World.alloc_heap_new w _)
  have hI1 : I [] (fun r => f0 r ∨ r = w.heap.size ∨ r = w.heap.size + 1) W1 := by rw [← hW1]; exact hI.alloc _ (hI.alloc _ h0)
  have hb1 : Below w0.heap.size w0 W1 := by
    rw [← hW1]; exact hb0.trans ((((Below.refl _ w).alloc (Nat.le_refl _) _).alloc (by simp) _).mono hb0.size)
  refine ⟨w.heap.size + 1, [{ target := .collected w.heap.size, args := #[] }], W1, { target := .fn (.func gf) lb, args := #[.func (.yield (w.heap.size + 1)) #[] #[]] }, W1, gf,
    #[.func (.yield (w.heap.size + 1)) #[] #[]] ++ lb, W1, ?_, ?_, ?_, ?_, fun _ => h1, ?_⟩
  · rw [← hW1, hrec]; exact run_enterLoop_outer _ _ _ _ _
  · simp only [resolve, hg]
    simp [go_sem]
  · intro f' hf'; simp [Target.leads] at hf'; subst hf'; exact hFg
  · simp [invoke, go_sem, eg]
  -- the iterator's contract, at the caller's invariant and the loop's own two blocks
  have ab : ∀ (st : LoopState) (pe : Option Code) (I' : List α → (Nat → Prop) → World → Prop), FootOwn w.heap.size I' → FootAbides W1.heap.size (fun pre f W => I' pre f W ∧ f w.heap.size ∧ f (w.heap.size + 1) ∧ (∀ r, f r → r < W.heap.size) ∧
      W.heap[w.heap.size + 1]? = some (.loop (rec st pe)) ∧ W.heap[w.heap.size]? = some (.deferred (some []))) := by
    rintro st pe I' hI' s f A B row ⟨hi, hfD, hfL, hlt, hl, hk⟩ hgr hr
    refine ⟨hI' s f A B row hi hgr (fun r e => ⟨by have := (hr r e).1; omega, .inl (hr r e).2⟩), hfD, hfL, fun r hf => Nat.lt_of_lt_of_le (hlt r hf) hgr.size, ?_, ?_⟩
    · exact (hgr.block _ (hlt _ hfL) (fun e => (hr _ e.symm).2 hfL)).trans hl
    · exact (hgr.block _ (hlt _ hfD) (fun e => (hr _ e.symm).2 hfD)).trans hk
  refine (hseq (w.heap.size + 1)
    (fun pre f W => I pre f W ∧ f w.heap.size ∧ f (w.heap.size + 1) ∧ (∀ r, f r → r < W.heap.size) ∧ W.heap[w.heap.size + 1]? = some (.loop (rec .ready none)) ∧ W.heap[w.heap.size]? = some (.deferred (some [])))
    (fun pre f W => ∃ c, Ix c pre f W ∧ f w.heap.size ∧ f (w.heap.size + 1) ∧ (∀ r, f r → r < W.heap.size) ∧ W.heap[w.heap.size + 1]? = some (.loop (rec .done (some c))) ∧ W.heap[w.heap.size]? = some (.deferred (some [])))
    W1 (fun r => f0 r ∨ r = w.heap.size ∨ r = w.heap.size + 1) hb1 (ab _ _ I hI)
    (by
      rintro s f A B row ⟨c, hc⟩ hgr hr
      exact ⟨c, ab _ _ (Ix c) (hIx c) s f A B row hc hgr hr⟩)
    hPf (fun r hf => by rcases hf with h | h | h; · have := hf0 r h; omega
                        · omega
                        · omega)
    ?_ ⟨hI1, .inr (.inl rfl), .inr (.inr rfl), (fun r hf => by rcases hf with h | h | h; · have := hf0 r h; omega
                                                               · omega
                                                               · omega), hL1, hK1⟩).mono ?_
  · -- one round
    rintro pre x f W ⟨hi, hfD, hfL, hlt, hl, hk⟩ hgx hlen
    have hltL := hlt _ hfL
    have hy := run_yield (P := P) (args := encs x) hl (by rw [hrec]; exact hps x)
    rw [hrec] at hy
    refine ⟨fn, _, assign, body, hy, roundIn_of_wpIn hfn (hassign _ x W _ ⟨_, run_beginRound hl (by rw [hrec]), ?_⟩)⟩
    obtain ⟨WB, hWB⟩ : ∃ WB, W.putObj (w.heap.size + 1) (.loop { rec .ready none with state := .busy }) = WB := ⟨_, rfl⟩
    have hl2 : WB.heap[w.heap.size + 1]? = some (.loop { rec .ready none with state := .busy }) := by rw [← hWB]; exact World.putObj_heap_same hltL
    have hk2 : WB.heap[w.heap.size]? = some (.deferred (some [])) := by rw [← hWB]; exact (World.putObj_heap_other (by omega)).trans hk
    have hO2 : Outside f W f WB := by rw [← hWB]; exact outside_put _ hlt hfL
    have hi2 : I pre f WB := by rw [← hWB]; exact hI.put _ hi (by omega) hl rfl
    have hg2 : G x f WB := by rw [← hWB]; exact hG x f W _ _ _ hgx hl rfl
    rw [hWB]
    refine wpIn_mono (hbody _ pre x f WB hi2 hg2 hO2.lt hfD hlen) ?_
    have fin : ∀ (jump : Option Code) (f' : Nat → Prop) (W3 : World), KeepsOthers WB W3 → Outside f WB f' W3 →
        ∃ W4, (Instr.endRound (w.heap.size + 1) jump).run P W3 = .ok (.bool jump.isNone) W4 ∧ W4 = W3.putObj (w.heap.size + 1) (.loop (rec (if jump.isNone then .ready else .done) jump)) ∧
        (∃ o : Obj, W3.heap[w.heap.size + 1]? = some o ∧ o.isCells = false) ∧ f' w.heap.size ∧ f' (w.heap.size + 1) ∧ Outside f W f' W4 ∧
        W4.heap[w.heap.size + 1]? = some (.loop (rec (if jump.isNone then .ready else .done) jump)) ∧ W4.heap[w.heap.size]? = some (.deferred (some [])) := fun jump f' W3 hk3 ho3 => by
      have hl3 := hk3.same _ _ hl2 rfl
      have hrun := run_endRound (P := P) jump hl3
      rw [hrec] at hrun hl3
      refine ⟨W3.putObj (w.heap.size + 1) (.loop (rec (if jump.isNone then .ready else .done) jump)), by rw [hrec]; exact hrun, rfl, ⟨_, hl3, rfl⟩, ho3.more _ hfD, ho3.more _ hfL, hO2.trans (ho3.trans (outside_put _ ho3.lt (ho3.more _ hfL))), ?_, ?_⟩
      · rw [hrec]; exact World.putObj_heap_same (Array.getElem?_eq_some_iff.1 hl3).1
      · exact (World.putObj_heap_other (by omega)).trans (hk3.same _ _ hk2 rfl)
    rintro e a3 W3 hp
    cases e with
    | normal =>
      obtain ⟨hk3, f', ho3, hi3⟩ := hp
      obtain ⟨W4, hr, rfl, ⟨o, hl3, hoc⟩, hD', hL', hO4, hl4, hk4⟩ := fin none f' W3 hk3 ho3
      exact ⟨_, _, hr, .inl ⟨rfl, f', hO4, hI.put _ hi3 (by omega) hl3 hoc, hD', hL', hO4.lt, hl4, hk4⟩⟩
    | ret =>
      obtain ⟨hk3, f', ho3, hi3⟩ := hp
      obtain ⟨W4, hr, rfl, ⟨o, hl3, hoc⟩, hD', hL', hO4, hl4, hk4⟩ := fin (some .ret) f' W3 hk3 ho3
      exact ⟨_, _, hr, .inr ⟨rfl, f', hO4, .ret, (hIx _).put _ hi3 (by omega) hl3 hoc, hD', hL', hO4.lt, hl4, hk4⟩⟩
    | exit id =>
      obtain ⟨hk3, f', ho3, hi3⟩ := hp
      obtain ⟨W4, hr, rfl, ⟨o, hl3, hoc⟩, hD', hL', hO4, hl4, hk4⟩ := fin (some (.exit id)) f' W3 hk3 ho3
      exact ⟨_, _, hr, .inr ⟨rfl, f', hO4, .exit id, (hIx _).put _ hi3 (by omega) hl3 hoc, hD', hL', hO4.lt, hl4, hk4⟩⟩
    | goto t =>
      obtain ⟨hk3, f', ho3, hi3⟩ := hp
      obtain ⟨W4, hr, rfl, ⟨o, hl3, hoc⟩, hD', hL', hO4, hl4, hk4⟩ := fin (some (.goto t)) f' W3 hk3 ho3
      exact ⟨_, _, hr, .inr ⟨rfl, f', hO4, .goto t, (hIx _).put _ hi3 (by omega) hl3 hoc, hD', hL', hO4.lt, hl4, hk4⟩⟩
    | panic ch => exact hp.elim
    | outgrown => exact hp.elim
  · -- behind the iterator
    rintro e W2 ⟨⟨v, rfl⟩, (⟨xs, f', hS, hi, hfD, hfL, hlt, hl, hk⟩ | ⟨pre, f', hSp, c, hi, hfD, hfL, hlt, hl, hk⟩)⟩
    · exact ⟨none, _, by have := run_endLoop (P := P) hl (by rw [hrec]; simp); rw [hrec] at this; exact this, hdone _ xs f' _ (Nat.le_refl _) hS (hI.put _ hi (by omega) hl rfl) ((World.putObj_heap_other (by omega)).trans hk)⟩
    · exact ⟨some c, _, by have := run_endLoop (P := P) hl (by rw [hrec]; simp); rw [hrec] at this; exact this, hstop _ c pre f' _ (Nat.le_refl _) hSp ((hIx c).put _ hi (by omega) hl rfl) ((World.putObj_heap_other (by omega)).trans hk)⟩

end
end Go.Proofs.Ytciccbbgamklbaa

/-
  As RangeFootG, where the iterator turns several blocks of its own at once, and does nothing any more once it is stopped.
-/
namespace Go.Proofs.Ytciccbbgamklbaa
open Go.RowKit

/-- From W to W' only blocks of A have turned. -/
structure GrownA (W : World) (A : Nat → Prop) (W' : World) : Prop where
  os : W'.os = W.os
  tape : W'.tape = W.tape
  output : W'.output = W.output
  size : W.heap.size ≤ W'.heap.size
  block : ∀ r, r < W.heap.size → ¬ A r → W'.heap[r]? = W.heap[r]?

theorem GrownA.of {W W' : World} {row : Option Nat} (h : W.grownBy W' row) : GrownA W (fun r => row = some r) W' :=
  ⟨h.os, h.tape, h.output, h.size, fun r hr hn => h.block r hr (fun e => hn e.symm)⟩

theorem Below.grownA {base : Nat} {w W W' : World} {A : Nat → Prop} (h : Below base w W) (hg : GrownA W A W') (hb : base ≤ W.heap.size) (hA : ∀ r, A r → base ≤ r) : Below base w W' :=
  ⟨hg.os.trans h.os, hg.tape.trans h.tape, hg.output.trans h.output, Nat.le_trans h.size hg.size, fun k hk => (hg.block k (by omega) (fun e => by have := hA k e; omega)).trans (h.block k hk)⟩

/-- What the iterator's steps leave as it is. -/
def FootAbidesA {α : Type} (B : Nat) (J : List α → (Nat → Prop) → World → Prop) : Prop :=
  ∀ s f W W' A, J s f W → GrownA W A W' → (∀ r, A r → B ≤ r ∧ ¬ f r) → J s f W'

/-- The caller's invariant abides the turn of blocks beyond B that are none of its foot, or are no cells. -/
def FootOwnA {α : Type} (B : Nat) (I : List α → (Nat → Prop) → World → Prop) : Prop :=
  ∀ s f W W' A, I s f W → GrownA W A W' → (∀ r, A r → B ≤ r ∧ (¬ f r ∨ ∃ o : Obj, W.heap[r]? = some o ∧ o.isCells = false)) → I s f W'

theorem FootOwnA.put {α : Type} {B : Nat} {I : List α → (Nat → Prop) → World → Prop} (h : FootOwnA B I) {s : List α} {f : Nat → Prop} {W : World} {l : Nat} {o : Obj} (o' : Obj) (hs : I s f W) (hB : B ≤ l) (hl : W.heap[l]? = some o) (ho : o.isCells = false) : I s f (W.putObj l o') :=
  h s f W _ _ hs (GrownA.of (grownBy_putObj' W l o')) (fun r e => by cases e; exact ⟨hB, .inr ⟨o, hl, ho⟩⟩)

theorem FootOwnA.alloc {α : Type} {B : Nat} {I : List α → (Nat → Prop) → World → Prop} (h : FootOwnA B I) {s : List α} {f : Nat → Prop} {W : World} (o : Obj) (hs : I s f W) : I s f (W.alloc o) :=
  h s f W _ _ hs (GrownA.of (World.grownBy_alloc W o none)) (fun r e => by cases e)

/-- What a stopped loop holds abides the turn of what is no cells. -/
def FootPut {α : Type} (B : Nat) (I : List α → (Nat → Prop) → World → Prop) : Prop :=
  ∀ s f W l o o', B ≤ l → I s f W → W.heap[l]? = some o → o.isCells = false → I s f (W.putObj l o')

/-- The contract of an iterator that tells the body something of what it hands over (G). -/
def SeqFootH {α : Type} (F : Fence) (n : Nat) (P : Program) (g : Nat) (lb : Array Value) (encs : α → Array Value) (G : α → (Nat → Prop) → World → Prop) (Pf : (Nat → Prop) → Prop) (S Sp : List α → Prop) (N : Nat) (w : World) : Prop :=
  ∀ (l : Nat) (J Jx : List α → (Nat → Prop) → World → Prop) (W : World) (f : Nat → Prop), Below w.heap.size w W → FootAbidesA W.heap.size J → Pf f → (∀ r, f r → r < W.heap.size) →
    (∀ pre x f W1, J pre f W1 → G x f W1 → pre.length < N → YieldAt F (n - 1) P l (encs x) W1 fun e W' =>
      (e = .returned (.bool true) ∧ ∃ f', Outside f W1 f' W' ∧ J (pre ++ [x]) f' W') ∨ (e = .returned (.bool false) ∧ ∃ f', Outside f W1 f' W' ∧ Jx (pre ++ [x]) f' W')) →
    J [] f W →
    CallsIn F n P g (#[.func (.yield l) #[] #[]] ++ lb) W fun e W' => (∃ v, e = .returned v) ∧ ((∃ xs f', S xs ∧ J xs f' W') ∨ (∃ pre f', Sp pre ∧ Jx pre f' W'))

section
variable {F : Fence} {n : Nat} {P : Program}

set_option maxHeartbeats 1000000 in
/-- The loop: the foot at its beginning is f0; the loop's own two blocks are added to it. -/
theorem wpIn_rangeFunc_footH {α : Type} {g : Operand} {ps : Array Tmp} {assign body : Code} {Q : Exit → Act → World → Prop} {a : Act} {w : World}
    (hro : F.round = none) (h1 : 1 ≤ n) {gf : Nat} {lb : Array Value} (hg : a.eval g = .func (.func gf) #[] lb) (hFg : F.fn gf) (eg : ∀ args w, (callFunc gf args).run P w = .ok (.enter gf args) w)
    {encs : α → Array Value} {G : α → (Nat → Prop) → World → Prop} {Pf : (Nat → Prop) → Prop} {S Sp : List α → Prop} {N : Nat} {w0 : World} (hseq : SeqFootH F (n - 1) P gf lb encs G Pf S Sp N w0) (hb0 : Below w0.heap.size w0 w) (hps : ∀ x, (encs x).size = ps.size)
    (hG : ∀ (x : α) (f : Nat → Prop) (W : World) (l : Nat) (o o' : Obj), G x f W → W.heap[l]? = some o → o.isCells = false → G x f (W.putObj l o')) (f0 : Nat → Prop) (hf0 : ∀ r, f0 r → r < w.heap.size) (hPf : Pf (fun r => f0 r ∨ r = w.heap.size ∨ r = w.heap.size + 1))
    (I : List α → (Nat → Prop) → World → Prop) (Ix : Code → List α → (Nat → Prop) → World → Prop) (hI : FootOwnA w.heap.size I) (hIx : ∀ c, FootPut w.heap.size (Ix c))
    (h0 : I [] (fun r => f0 r ∨ r = w.heap.size ∨ r = w.heap.size + 1) w) (a₁ : α → Act)
    (hassign : ∀ (l : Nat) (x : α) (W : World) (K : Act → World → Prop), K (a₁ x) W →
      assign.wpIn (F.inRound l) (n - 1 - 1) P (Exit.then K (fun _ _ _ => False)) { tmps := (ps.zip (encs x)).foldl (fun t (p, v) => t.setIfInBounds p v) a.tmps, defers := [] } W)
    (hbody : ∀ (l : Nat) (pre : List α) (x : α) (f : Nat → Prop) (W : World), I pre f W → G x f W → (∀ r, f r → r < W.heap.size) → f w.heap.size → pre.length < N → body.wpIn (F.inRound l) (n - 1 - 1) P (footPost I Ix (pre ++ [x]) f W) (a₁ x) W)
    (hdone : ∀ (D : Nat) (xs : List α) (f : Nat → Prop) (W : World), w.heap.size ≤ D → S xs → I xs f W → W.heap[D]? = some (.deferred (some [])) → Q .normal { a with defers := { target := .collected D, args := #[] } :: a.defers } W)
    (hstop : ∀ (D : Nat) (c : Code) (pre : List α) (f : Nat → Prop) (W : World), w.heap.size ≤ D → Sp pre → Ix c pre f W → W.heap[D]? = some (.deferred (some [])) → c.wpIn F n P Q { a with defers := { target := .collected D, args := #[] } :: a.defers } W) :
    (Code.rangeFunc g ps assign body).wpIn F n P Q a w := by
  refine wpIn_rangeFunc ?_
  intro fn hfn
  rw [hro]
  obtain ⟨rec, hrec⟩ : ∃ rec : LoopState → Option Code → Loop, rec = fun st pe => { state := st, pending := pe, fn, tmps := a.tmps, params := ps, assign, body, defers := w.heap.size } := ⟨_, rfl⟩
  obtain ⟨W1, hW1⟩ : ∃ W1, (w.alloc (.deferred (some []))).alloc (.loop (rec .ready none)) = W1 := ⟨_, rfl⟩
  have hs1 : W1.heap.size = w.heap.size + 1 + 1 := by rw [← hW1]; simp
  have hL1 : W1.heap[w.heap.size + 1]? = some (.loop (rec .ready none)) := by
    have := World.alloc_heap_new (w.alloc (.deferred (some []))) (.loop (rec .ready none))
    rw [World.size_alloc] at this
    rw [← hW1]; exact this
  have hK1 : W1.heap[w.heap.size]? = some (.deferred (some [])) := by
    rw [← hW1]; exact (Below.heap_alloc _ _ _ (by simp)).trans (World.alloc_heap_new w _)
  have hI1 : I [] (fun r => f0 r ∨ r = w.heap.size ∨ r = w.heap.size + 1) W1 := by rw [← hW1]; exact hI.alloc _ (hI.alloc _ h0)
  have hb1 : Below w0.heap.size w0 W1 := by
    rw [← hW1]; exact hb0.trans ((((Below.refl _ w).alloc (Nat.le_refl _) _).alloc (by simp) _).mono hb0.size)
  refine ⟨w.heap.size + 1, [{ target := .collected w.heap.size, args := #[] }], W1, { target := .fn (.func gf) lb, args := #[.func (.yield (w.heap.size + 1)) #[] #[]] }, W1, gf,
    #[.func (.yield (w.heap.size + 1)) #[] #[]] ++ lb, W1, ?_, ?_, ?_, ?_, fun _ => h1, ?_⟩
  · rw [← hW1, hrec]; exact run_enterLoop_outer _ _ _ _ _
  · simp only [resolve, hg]
    simp [go_sem]
  · intro f' hf'; simp [Target.leads] at hf'; subst hf'; exact hFg
  · simp [invoke, go_sem, eg]
  -- the iterator's contract, at the caller's invariant and the loop's own two blocks
  have ab : ∀ (st : LoopState) (pe : Option Code) (I' : List α → (Nat → Prop) → World → Prop), FootOwnA w.heap.size I' → FootAbidesA W1.heap.size (fun pre f W => I' pre f W ∧ f w.heap.size ∧ f (w.heap.size + 1) ∧ (∀ r, f r → r < W.heap.size) ∧
      W.heap[w.heap.size + 1]? = some (.loop (rec st pe)) ∧ W.heap[w.heap.size]? = some (.deferred (some []))) := by
    rintro st pe I' hI' s f A B AA ⟨hi, hfD, hfL, hlt, hl, hk⟩ hgr hr
    refine ⟨hI' s f A B AA hi hgr (fun r e => ⟨by have := (hr r e).1; omega, .inl (hr r e).2⟩), hfD, hfL, fun r hf => Nat.lt_of_lt_of_le (hlt r hf) hgr.size, ?_, ?_⟩
    · exact (hgr.block _ (hlt _ hfL) (fun e => (hr _ e).2 hfL)).trans hl
    · exact (hgr.block _ (hlt _ hfD) (fun e => (hr _ e).2 hfD)).trans hk
  refine (hseq (w.heap.size + 1)
    (fun pre f W => I pre f W ∧ f w.heap.size ∧ f (w.heap.size + 1) ∧ (∀ r, f r → r < W.heap.size) ∧ W.heap[w.heap.size + 1]? = some (.loop (rec .ready none)) ∧ W.heap[w.heap.size]? = some (.deferred (some [])))
    (fun pre f W => ∃ c, Ix c pre f W ∧ f w.heap.size ∧ f (w.heap.size + 1) ∧ (∀ r, f r → r < W.heap.size) ∧ W.heap[w.heap.size + 1]? = some (.loop (rec .done (some c))) ∧ W.heap[w.heap.size]? = some (.deferred (some [])))
    W1 (fun r => f0 r ∨ r = w.heap.size ∨ r = w.heap.size + 1) hb1 (ab _ _ I hI)
    hPf (fun r hf => by rcases hf with h | h | h; · have := hf0 r h; omega
                        · omega
                        · omega)
    ?_ ⟨hI1, .inr (.inl rfl), .inr (.inr rfl), (fun r hf => by rcases hf with h | h | h; · have := hf0 r h; omega
                                                               · omega
                                                               · omega), hL1, hK1⟩).mono ?_
  · -- one round
    rintro pre x f W ⟨hi, hfD, hfL, hlt, hl, hk⟩ hgx hlen
    have hltL := hlt _ hfL
    have hy := run_yield (P := P) (args := encs x) hl (by rw [hrec]; exact hps x)
    rw [hrec] at hy
    refine ⟨fn, _, assign, body, hy, roundIn_of_wpIn hfn (hassign _ x W _ ⟨_, run_beginRound hl (by rw [hrec]), ?_⟩)⟩
    obtain ⟨WB, hWB⟩ : ∃ WB, W.putObj (w.heap.size + 1) (.loop { rec .ready none with state := .busy }) = WB := ⟨_, rfl⟩
    have hl2 : WB.heap[w.heap.size + 1]? = some (.loop { rec .ready none with state := .busy }) := by rw [← hWB]; exact World.putObj_heap_same hltL
    have hk2 : WB.heap[w.heap.size]? = some (.deferred (some [])) := by rw [← hWB]; exact (World.putObj_heap_other (by omega)).trans hk
    have hO2 : Outside f W f WB := by rw [← hWB]; exact outside_put _ hlt hfL
    have hi2 : I pre f WB := by rw [← hWB]; exact hI.put _ hi (by omega) hl rfl
    have hg2 : G x f WB := by rw [← hWB]; exact hG x f W _ _ _ hgx hl rfl
    rw [hWB]
    refine wpIn_mono (hbody _ pre x f WB hi2 hg2 hO2.lt hfD hlen) ?_
    have fin : ∀ (jump : Option Code) (f' : Nat → Prop) (W3 : World), KeepsOthers WB W3 → Outside f WB f' W3 →
        ∃ W4, (Instr.endRound (w.heap.size + 1) jump).run P W3 = .ok (.bool jump.isNone) W4 ∧ W4 = W3.putObj (w.heap.size + 1) (.loop (rec (if jump.isNone then .ready else .done) jump)) ∧
        (∃ o : Obj, W3.heap[w.heap.size + 1]? = some o ∧ o.isCells = false) ∧ f' w.heap.size ∧ f' (w.heap.size + 1) ∧ Outside f W f' W4 ∧
        W4.heap[w.heap.size + 1]? = some (.loop (rec (if jump.isNone then .ready else .done) jump)) ∧ W4.heap[w.heap.size]? = some (.deferred (some [])) := fun jump f' W3 hk3 ho3 => by
      have hl3 := hk3.same _ _ hl2 rfl
      have hrun := run_endRound (P := P) jump hl3
      rw [hrec] at hrun hl3
      refine ⟨W3.putObj (w.heap.size + 1) (.loop (rec (if jump.isNone then .ready else .done) jump)), by rw [hrec]; exact hrun, rfl, ⟨_, hl3, rfl⟩, ho3.more _ hfD, ho3.more _ hfL, hO2.trans (ho3.trans (outside_put _ ho3.lt (ho3.more _ hfL))), ?_, ?_⟩
      · rw [hrec]; exact World.putObj_heap_same (Array.getElem?_eq_some_iff.1 hl3).1
      · exact (World.putObj_heap_other (by omega)).trans (hk3.same _ _ hk2 rfl)
    rintro e a3 W3 hp
    cases e with
    | normal =>
      obtain ⟨hk3, f', ho3, hi3⟩ := hp
      obtain ⟨W4, hr, rfl, ⟨o, hl3, hoc⟩, hD', hL', hO4, hl4, hk4⟩ := fin none f' W3 hk3 ho3
      exact ⟨_, _, hr, .inl ⟨rfl, f', hO4, hI.put _ hi3 (by omega) hl3 hoc, hD', hL', hO4.lt, hl4, hk4⟩⟩
    | ret =>
      obtain ⟨hk3, f', ho3, hi3⟩ := hp
      obtain ⟨W4, hr, rfl, ⟨o, hl3, hoc⟩, hD', hL', hO4, hl4, hk4⟩ := fin (some .ret) f' W3 hk3 ho3
      exact ⟨_, _, hr, .inr ⟨rfl, f', hO4, .ret, hIx _ _ _ _ _ _ _ (by omega) hi3 hl3 hoc, hD', hL', hO4.lt, hl4, hk4⟩⟩
    | exit id =>
      obtain ⟨hk3, f', ho3, hi3⟩ := hp
      obtain ⟨W4, hr, rfl, ⟨o, hl3, hoc⟩, hD', hL', hO4, hl4, hk4⟩ := fin (some (.exit id)) f' W3 hk3 ho3
      exact ⟨_, _, hr, .inr ⟨rfl, f', hO4, .exit id, hIx _ _ _ _ _ _ _ (by omega) hi3 hl3 hoc, hD', hL', hO4.lt, hl4, hk4⟩⟩
    | goto t =>
      obtain ⟨hk3, f', ho3, hi3⟩ := hp
      obtain ⟨W4, hr, rfl, ⟨o, hl3, hoc⟩, hD', hL', hO4, hl4, hk4⟩ := fin (some (.goto t)) f' W3 hk3 ho3
      exact ⟨_, _, hr, .inr ⟨rfl, f', hO4, .goto t, hIx _ _ _ _ _ _ _ (by omega) hi3 hl3 hoc, hD', hL', hO4.lt, hl4, hk4⟩⟩
    | panic ch => exact hp.elim
    | outgrown => exact hp.elim
  · -- behind the iterator
    rintro e W2 ⟨⟨v, rfl⟩, (⟨xs, f', hS, hi, hfD, hfL, hlt, hl, hk⟩ | ⟨pre, f', hSp, c, hi, hfD, hfL, hlt, hl, hk⟩)⟩
    · exact ⟨none, _, by have := run_endLoop (P := P) hl (by rw [hrec]; simp); rw [hrec] at this; exact this, hdone _ xs f' _ (Nat.le_refl _) hS (hI.put _ hi (by omega) hl rfl) ((World.putObj_heap_other (by omega)).trans hk)⟩
    · exact ⟨some c, _, by have := run_endLoop (P := P) hl (by rw [hrec]; simp); rw [hrec] at this; exact this, hstop _ c pre f' _ (Nat.le_refl _) hSp (hIx c _ _ _ _ _ _ (by omega) hi hl rfl) ((World.putObj_heap_other (by omega)).trans hk)⟩

end
end Go.Proofs.Ytciccbbgamklbaa
