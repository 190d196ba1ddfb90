/-
  spec.l6Draw, l6DrawSet, DrawCompose, DrawWithin, DrawImage: relations that are drawn.
-/
import Derived.Test.YtmophdojojcpbaaRelTop
import Derived.Test.YtmophdojojcpbaaG02DrawKit
namespace Go.Proofs.Ytmophdojojcpbaa
open Go.RowKit
set_option linter.unusedVariables false
set_option maxRecDepth 20000
set_option maxHeartbeats 2000000

/-- The slice v holds xs, in blocks from base on. -/
def ReadsFrom (w : World) (base : Nat) (v : Value) (xs : List Value) : Prop :=
  ∃ ao cap, v = .slice ao xs.length cap ∧ ∀ j x, xs[j]? = some x → ∃ g off, ao = some ⟨g, off, none⟩ ∧ base ≤ g ∧ w.cell? ⟨g, off + j, none⟩ = some x

theorem ReadsFrom.reads {w : World} {base : Nat} {v : Value} {xs : List Value} (h : ReadsFrom w base v xs) : Reads w v xs := by
  obtain ⟨ao, cap, rfl, hc⟩ := h
  exact ⟨ao, cap, rfl, fun j x hx => by obtain ⟨g, off, h1, _, h3⟩ := hc j x hx; exact ⟨g, off, h1, h3⟩⟩

theorem ReadsFrom.grown {w w' : World} {base : Nat} {v : Value} {xs : List Value} (h : ReadsFrom w base v xs) {g : Nat} (hg : w.grownBy w' (some g)) (hlt : g < base) : ReadsFrom w' base v xs := by
  obtain ⟨ao, cap, rfl, hc⟩ := h
  refine ⟨ao, cap, rfl, fun j x hx => ?_⟩
  obtain ⟨b, off, h1, h2, h3⟩ := hc j x hx
  exact ⟨b, off, h1, h2, hg.cell h3 (by simp; omega)⟩

theorem ReadsFrom.below {w w' : World} {base : Nat} {v : Value} {xs : List Value} (h : ReadsFrom w base v xs) (hb : Below w.heap.size w w') : ReadsFrom w' base v xs := by
  obtain ⟨ao, cap, rfl, hc⟩ := h
  refine ⟨ao, cap, rfl, fun j x hx => ?_⟩
  obtain ⟨b, off, h1, h2, h3⟩ := hc j x hx
  exact ⟨b, off, h1, h2, (hb.cell (World.block_lt_of_cell? w _ h3)).trans h3⟩

theorem ReadsFrom.mono {w : World} {base base' : Nat} {v : Value} {xs : List Value} (h : ReadsFrom w base v xs) (hb : base' ≤ base) : ReadsFrom w base' v xs := by
  obtain ⟨ao, cap, rfl, hc⟩ := h
  exact ⟨ao, cap, rfl, fun j x hx => by obtain ⟨g, off, h1, h2, h3⟩ := hc j x hx; exact ⟨g, off, h1, by omega, h3⟩⟩

theorem readsFrom_own {w : World} {base : Nat} {e : TypeId} {v : Value} {n : Nat} {xs : List Value} (h : w.ownsRow base e 1 v n xs) : ReadsFrom w base v xs := by
  obtain ⟨ao, cap, rfl, hc⟩ := reads_own h
  refine ⟨ao, cap, rfl, fun j x hx => ?_⟩
  obtain ⟨g, off, rfl, h3⟩ := hc j x hx
  exact ⟨g, off, rfl, (h.lt g rfl).1, h3⟩

/-- What grows a row of its own has grown by the cursor alone. -/
theorem grownRow {a w w' : World} {row row' : Option Nat} (h : a.grownBy w row) (hg : w.grownBy w' row') (hr : ∀ k, row' = some k → a.heap.size ≤ k) : a.grownBy w' row :=
  ⟨hg.os.trans h.os, hg.tape.trans h.tape, hg.output.trans h.output, Nat.le_trans h.size hg.size, fun i hi hne => (hg.block i (Nat.lt_of_lt_of_le hi h.size) (fun e => by have := hr i e.symm; omega)).trans (h.block i hi hne)⟩

theorem l6Draw (g : Nat) (bs : List Int) (w : World) (hl : bs.length ≤ 1048576) (hc : Cur w g bs) :
    Calls Try.prog 41 #[.pointer (some ⟨g, 0, none⟩)] w fun e w' => ∃ (v : Value) (xs : List Int), e = .returned v ∧ xs.length ≤ 7 ∧ ReadsFrom w' w.heap.size v (ints xs) ∧ Cur w' g bs ∧ w.grownBy w' (some g) := by
  obtain ⟨i0, hi, hz0, hz1, hz2⟩ := info_parts infoInt
  have hgl := curLt hc
  go_enter Try.func41, Try.ntmps41
  go_wp2
  have G0 : w.grownBy (w.alloc (.cells #[] 2)) (some g) := World.grownBy_alloc w _ _
  have C0 := curAlloc hc (.cells #[] 2)
  have O0 := made0 w
  go_loopw [3, 4] (fun o i wr => ∃ (k : Nat) (xs : List Int), k ≤ 7 ∧ xs.length = k ∧ i = .int .i64 k ∧ wr.ownsRow w.heap.size 2 1 o k (ints xs) ∧ Cur wr g bs ∧ w.grownBy wr (some g)) (fun _ i _ => 7 - (intOf i).toNat)
  case atStart => exact ⟨0, [], by omega, rfl, rfl, O0, C0, G0⟩
  case round =>
    obtain ⟨k, xs, hk, hxl, rfl, hown, hcr, hgr⟩ := hrel
    clear O0 C0 G0
    obtain ⟨oa, on, oc, rfl⟩ : ∃ a n c, u3 = .slice a n c := by
      rcases hown.2 with ⟨h, _⟩ | ⟨a, b, c, h, _⟩
      · exact ⟨_, _, _, h⟩
      · exact ⟨_, _, _, h⟩
    by_cases hlt : k < 7
    · have hlt' : (k : Int) < 7 := by omega
      have hk64 : (1 : Int) * 2 ^ k ≤ 64 ∧ (1 : Int) ≤ 2 ^ k := by
        have hc : k = 0 ∨ k = 1 ∨ k = 2 ∨ k = 3 ∨ k = 4 ∨ k = 5 ∨ k = 6 := by omega
        rcases hc with rfl | rfl | rfl | rfl | rfl | rfl | rfl <;> decide
      go_wp2_with fail
      go_at_call 40
      refine (l1Below g bs 3 (by omega) _ hl hcr).mono ?_
      rintro e w1 ⟨x, rfl, hx0, hx1, _, hc1, hg1⟩
      have hx1 := hx1 (by omega)
      have own1 := own_grown hown hg1 (fun q hq => by have := (hown.lt q hq).1; simp; omega)
      have gr1 := grown_trans hgr hg1
      clear hown hcr hgr hg1
      obtain ⟨m0, rfl⟩ : ∃ m0 : Nat, x = m0 := ⟨x.toNat, by omega⟩
      generalize hn0 : (2 : Int) ^ k = n0
      clear hn0 hk64
      go_wp2_with fail
      go_loopw [5, 6] (fun n q wr => ∃ (nn : Int) (m : Nat), m ≤ 3 ∧ n = .int .i64 nn ∧ q = .int .i64 m ∧ wr.ownsRow w.heap.size 2 1 (.slice oa on oc) k (ints xs) ∧ Cur wr g bs ∧ w.grownBy wr (some g)) (fun _ q _ => (intOf q).toNat)
      case atStart => exact ⟨_, m0, by omega, rfl, rfl, own1, hc1, gr1⟩
      case round =>
        obtain ⟨nn, m, hm, rfl, rfl, own2, hc2, gr2⟩ := hrel
        clear own1 hc1 gr1
        by_cases hm0 : (0 : Int) < (m : Int)
        · go_wp2_with fail
          go_at_call 40
          refine (l1Below g bs 7 (by omega) _ hl hc2).mono ?_
          rintro e w3 ⟨y, rfl, hy0, hy1, _, hc3, hg3⟩
          have hy1 := hy1 (by omega)
          have own3 := own_grown own2 hg3 (fun q hq => by have := (own2.lt q hq).1; simp; omega)
          have gr3 := grown_trans gr2 hg3
          obtain ⟨j, rfl⟩ : ∃ j : Nat, y = j := ⟨y.toNat, by omega⟩
          have hj64 : (1 : Int) * 2 ^ j ≤ 64 ∧ (1 : Int) ≤ 2 ^ j := by
            have hc : j = 0 ∨ j = 1 ∨ j = 2 ∨ j = 3 ∨ j = 4 ∨ j = 5 ∨ j = 6 := by omega
            rcases hc with rfl | rfl | rfl | rfl | rfl | rfl | rfl <;> decide
          clear own2 hc2 gr2 hg3
          go_wp2
          go_roundw
          case rel => exact ⟨_, m - 1, by omega, rfl, by go_num, own3, hc3, gr3⟩
          case measure => simp [intOf]; omega
        · have hb2 := own2.lt
          have hsz : w.heap.size ≤ wr.heap.size := gr2.size
          have B1 := World.grownBy_alloc wr (.cells #[.int .i64 nn] 2) (some g)
          go_wp2_with (first
            | (at_builtin; refine wpList_append_own _ rfl (.tmp 27) (.tmp 29) 36 rfl w.heap.size 2 i0 (.int .i64 0) 1 8 Try.underlying36 hi hz0 hz1 hz2 rfl (by decide) _ _ _ rfl (own2.alloc _) ⟨wr.heap.size, 0, none⟩ 1 _ [.int .i64 nn] rfl rfl (cell_one wr _) (ints_oneCell [nn]) (by unfold maxLen; omega) (by omega) (by simp; omega) ?_; intro v4 w4 own4 grow4 _)
            | go_in)
          have gr4 : Hid (w.grownBy w4 (some g)) := grownRow (grown_trans gr2 B1) grow4 (fun q hq => (own2.lt q hq).1)
          have hc4 : Hid (Cur w4 g bs) := cur_grown (curAlloc hc2 _) grow4 (fun q hq => by have := (own2.lt q hq).1; omega)
          go_roundw
          case rel => exact ⟨k + 1, xs ++ [nn], by omega, by simp [hxl], by go_num, by rw [ints_append]; exact own4, hc4.out, gr4.out⟩
          case measure => simp [intOf]; omega
    · have hkk : k = 7 := by omega
      subst hkk
      go_wp2_with fail
      go_at_call 39
      refine (l1Once g bs 20 (by omega) _ hl hcr).mono ?_
      rintro e w1 ⟨b, rfl, hc1, hg1⟩
      have own1 := own_grown hown hg1 (fun q hq => by have := (hown.lt q hq).1; simp; omega)
      have gr1 := grown_trans hgr hg1
      clear hown hcr hgr hg1
      cases b with
      | false =>
        go_wp2
        go_ret
        exact ⟨_, xs, rfl, by omega, readsFrom_own own1, hc1, gr1⟩
      | true =>
        go_wp2_with fail
        go_at_call 40
        refine (l1Below g bs 2 (by omega) _ hl hc1).mono ?_
        rintro e w2 ⟨y, rfl, hy0, hy1, _, hc2, hg2⟩
        have hy1 := hy1 (by omega)
        have own2 := own_grown own1 hg2 (fun q hq => by have := (own1.lt q hq).1; simp; omega)
        have gr2 := grown_trans gr1 hg2
        clear own1 hc1 gr1 hg2
        obtain ⟨B, cap, hoa, hB, hcap⟩ : ∃ B cap, (Value.slice oa on oc) = .slice (some ⟨B, 0, none⟩) 7 cap ∧ w.heap.size ≤ B ∧ 7 ≤ cap := by
          rcases own2.2 with ⟨_, h⟩ | ⟨B, cap, cur, h, h2, _, h3, _⟩
          · omega
          · exact ⟨B, cap, h, h2, h3⟩
        obtain ⟨rfl, rfl, rfl⟩ : oa = _ ∧ on = _ ∧ oc = _ := by simpa using hoa
        clear hoa
        have hyc : y = 0 ∨ y = 1 := by omega
        rcases hyc with rfl | rfl
        · have ga := (World.grownBy_alloc w2 (.cells #[.int .i64 (-1), .int .i64 127, .int .i64 128] 2) (some g))
          have ha := heap_alloc_new w2 (.cells #[.int .i64 (-1), .int .i64 127, .int .i64 128] 2)
          have hsz2 := gr2.size
          go_wp2_with fail
          go_at_call 40
          refine (l1Below g bs 3 (by omega) _ hl (curAlloc hc2 _)).mono ?_
          rintro e w3 ⟨z, rfl, hz0', hz1', _, hc3, hg3⟩
          have hz1' := hz1' (by omega)
          have own3 := own_grown (own2.alloc (.cells #[.int .i64 (-1), .int .i64 127, .int .i64 128] 2)) hg3 (fun q hq => by have := (own2.lt q hq).1; simp; omega)
          have gr3 := grown_trans (grown_trans gr2 ga) hg3
          have h3 := blockGrown ha hg3 (by omega)
          clear own2 hc2 gr2 hg3 ha ga
          obtain ⟨q0, q1, q2, k0, k1, k2⟩ := threeCells h3
          have f0 := own3.frozenAt 0
          obtain ⟨y0, c0⟩ := own_cell own3 0 (by omega)
          have fin : ∀ y : Int, ∃ x : List Int, x.length ≤ 7 ∧ ReadsFrom (w3.setCell ⟨B, 0, none⟩ (.int .i64 y)) w.heap.size (.slice (some ⟨B, 0, none⟩) 7 oc) (ints x) ∧ Cur (w3.setCell ⟨B, 0, none⟩ (.int .i64 y)) g bs ∧ w.grownBy (w3.setCell ⟨B, 0, none⟩ (.int .i64 y)) (some g) := by
            intro y
            refine ⟨xs.set 0 y, by simp; omega, ?_, curSet hc3 (by omega) _, grownSet gr3 hB _⟩
            have := (own3.stored 0 (.int .i64 y)).1
            have e : (ints xs).set 0 (.int .i64 y) = ints (xs.set 0 y) := by simp [ints, List.map_set]
            rw [e] at this
            exact readsFrom_own this
          have FIN : Hid _ := fin
          clear fin h3 own3 hc3 gr3
          have hzc : z = 0 ∨ z = 1 ∨ z = 2 := by omega
          rcases hzc with rfl | rfl | rfl
          · go_wp2
            go_ret
            obtain ⟨x, h1, h2, h3, h4⟩ := FIN.out _
            exact ⟨_, x, rfl, h1, h2, h3, h4⟩
          · go_wp2
            go_ret
            obtain ⟨x, h1, h2, h3, h4⟩ := FIN.out _
            exact ⟨_, x, rfl, h1, h2, h3, h4⟩
          · go_wp2
            go_ret
            obtain ⟨x, h1, h2, h3, h4⟩ := FIN.out _
            exact ⟨_, x, rfl, h1, h2, h3, h4⟩
        · have hoc : ¬ oc = 1 := by omega
          have rf : Hid (ReadsFrom w2 w.heap.size (.slice (some ⟨B, 1, none⟩) 6 (oc - 1)) (ints (xs.drop 1))) := by
            refine ⟨some ⟨B, 1, none⟩, oc - 1, by simp [ints, hxl], fun j x hx => ⟨B, 1, rfl, hB, ?_⟩⟩
            have hj : j < 6 := by
              rcases Nat.lt_or_ge j 6 with h | h
              · exact h
              · rw [List.getElem?_eq_none (by simp [ints]; omega)] at hx; cases hx
            rw [own2.cellAt (1 + j) (by omega)]
            rw [← hx]
            simp only [ints, List.map_drop, List.getElem?_drop]
          clear own2
          go_wp2
          go_ret
          exact ⟨_, xs.drop 1, rfl, by simp; omega, rf.out, hc2, gr2⟩






theorem lawLike (xs ys : List Int) (v u : Value) (w : World) (hx : xs.length ≤ maxLen) (hy : ys.length ≤ maxLen) (hv : Reads w v (ints xs)) (hu : Reads w u (ints ys)) :
    Calls Try.prog 46 #[v, u] w fun e w' => e = .returned (.bool (decide (xs = ys))) ∧ Below w.heap.size w w' := by
  unfold maxLen at hx hy
  obtain ⟨ao, cap, rfl, hc⟩ := hv
  obtain ⟨bo, cap', rfl, hd⟩ := hu
  simp only [ints_length]
  by_cases hlen : (xs.length : Int) = ys.length
  · have hlen' : xs.length = ys.length := by omega
    rw [← hlen']
    have HL : Hid _ := hlen'
    clear hlen hlen'
    go_enter Try.func46, Try.ntmps46
    go_wp2
    go_loopw [5] (fun i wr => ∃ k : Nat, k ≤ xs.length ∧ i = .int .i64 k ∧ xs.take k = ys.take k ∧ Below w.heap.size w wr) (fun i _ => xs.length - (intOf i).toNat)
    case atStart => exact ⟨0, Nat.zero_le _, rfl, by simp, Below.refl _ _⟩
    case round =>
      obtain ⟨k, hk, rfl, htk, hb⟩ := hrel
      by_cases hlt : k < xs.length
      · obtain ⟨g, off, rfl, hg⟩ := getD_int hc hlt
        obtain ⟨g', off', rfl, hg'⟩ := getD_int hd (k := k) (by have := HL.out; omega)
        have hg := (hb.cell (World.block_lt_of_cell? w _ hg)).trans hg
        have hg' := (hb.cell (World.block_lt_of_cell? w _ hg')).trans hg'
        have hlt' : (k : Int) < (xs.length : Int) := by omega
        have HE : Hid _ := list_ext_take hlt HL.out htk
        have HN : Hid _ := @list_ne_get xs ys k
        clear hc hd htk
        generalize xs.getD k 0 = x at *
        generalize ys.getD k 0 = y at *
        by_cases hxy : x = y
        · subst hxy
          go_wp2
          go_quiet (fail)
          go_wp2
          go_roundw
          case rel => exact ⟨k + 1, by omega, by go_num, HE.out trivial, below_drewN hb _⟩
          case measure => simp [intOf]; omega
        · go_wp2
          go_quiet (fail)
          go_wp2
          go_ret
          exact ⟨by rw [decide_eq_false (HN.out hxy)]; rfl, below_drewN hb _⟩
      · have hkk : k = xs.length := by omega
        subst hkk
        rw [List.take_length, HL.out, List.take_length] at htk
        have HE : Hid _ := htk
        clear htk
        go_wp2
        go_ret
        exact ⟨by rw [decide_eq_true HE.out]; rfl, hb⟩
  · have hne : ¬ xs = ys := fun h => hlen (by rw [h])
    go_enter Try.func46, Try.ntmps46
    go_wp2
    go_ret
    exact ⟨by rw [decide_eq_false hne]; rfl, Below.refl _ _⟩

end Go.Proofs.Ytmophdojojcpbaa
