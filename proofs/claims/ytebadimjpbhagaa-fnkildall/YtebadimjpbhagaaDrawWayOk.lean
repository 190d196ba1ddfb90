/-
  spec.l4DrawWay, DrawWayOk: some Proc in rows of its own, and some way in a row of its own.
-/
import Derived.Test.YtebadimjpbhagaaG36DrawWays
import Derived.Test.YtebadimjpbhagaaIntLaws
import Derived.Test.YtebadimjpbhagaaG29KildM
namespace Go.Proofs.Ytebadimjpbhagaa
open Go.RowKit
set_option linter.unusedVariables false
set_option linter.unusedSimpArgs false
set_option maxRecDepth 40000
set_option maxHeartbeats 2000000
attribute [local go_sem ↓] Go.wp_at_zero Go.wp_at_succ

/-- What the drawing of a way has in hand. -/
structure WyS (X g base lo : Nat) (bs : List Int) (pv : Value) (ss : List Stm) (ys : List Int) (a : Value) (w wr : World) : Prop where
  cur : Cur wr g bs
  box : wr.heap[X]? = some (.cells #[pv] 26 (0, 0))
  own : wr.ownsRow base 77 3 pv ss.length (cells3 ss)
  way : wr.ownsRow lo 2 1 a ys.length (ints ys)
  gr : w.grownBy wr (some g)

/-- What grows a row of its own has grown by the cursor alone. -/
theorem grownRow' {a w w' : World} {row row' : Option Nat} (h : a.grownBy w row) (hg : w.grownBy w' row') (hr : ∀ k, row' = some k → a.heap.size ≤ k) : a.grownBy w' row :=
  ⟨hg.os.trans h.os, hg.tape.trans h.tape, hg.output.trans h.output, Nat.le_trans h.size hg.size, fun i hi hne => (hg.block i (Nat.lt_of_lt_of_le hi h.size) (fun e => by have := hr i e.symm; omega)).trans (h.block i hi hne)⟩

theorem WyS.step {X g base lo : Nat} {bs : List Int} {pv : Value} {ss : List Stm} {ys : List Int} {a : Value} {w wr w' : World} (h : WyS X g base lo bs pv ss ys a w wr) (hb : Below wr.heap.size wr w') : WyS X g base lo bs pv ss ys a w w' where
  cur := cur_below h.cur hb
  box := (hb.block X (Array.getElem?_eq_some_iff.1 h.box).1).trans h.box
  own := own_kept h.own hb
  way := own_kept h.way hb
  gr := grown_trans h.gr (grown_of_below hb _)

theorem WyS.draw {X g base lo : Nat} {bs : List Int} {pv : Value} {ss : List Stm} {ys : List Int} {a : Value} {w wr w' : World} (h : WyS X g base lo bs pv ss ys a w wr) (hgX : g < X) (hgb : g < base) (hgl : g < lo) (hc : Cur w' g bs) (hg : wr.grownBy w' (some g)) : WyS X g base lo bs pv ss ys a w w' where
  cur := hc
  box := blockGrown h.box hg hgX
  own := own_grown h.own hg (fun k hk e => by have := (h.own.lt k hk).1; simp at e; omega)
  way := own_grown h.way hg (fun k hk e => by have := (h.way.lt k hk).1; simp at e; omega)
  gr := grown_trans h.gr hg

theorem WyS.app {g base : Nat} {bs : List Int} {pv : Value} {ss : List Stm} {ys : List Int} {a v6 : Value} {w wr w6 : World} {y : Int} (h : WyS w.heap.size g base (w.heap.size + 1) bs pv ss ys a w wr) (hgw : g < w.heap.size)
    (own6 : w6.ownsRow (w.heap.size + 1) 2 1 v6 (ys.length + 1) (ints ys ++ [.int .i64 y])) (grow6 : (wr.alloc (.cells #[.int .i64 y] 2)).grownBy w6 a.ownBlock) : WyS w.heap.size g base (w.heap.size + 1) bs pv ss (ys ++ [y]) v6 w w6 where
  cur := cur_grown (curAlloc h.cur _) grow6 (fun q hq => by have := (h.way.lt q hq).1; omega)
  box := by
    have hX := (Array.getElem?_eq_some_iff.1 h.box).1
    refine (grow6.block w.heap.size (by simp; omega) (fun e => by have := (h.way.lt _ e.symm).1; omega)).trans ((old_block hX).trans h.box)
  own := own_grown (h.own.alloc _) grow6 (fun k hk e => row_kind h.own h.way (by decide) hk e)
  way := by
    have e : ints (ys ++ [y]) = ints ys ++ [.int .i64 y] := by simp [ints]
    rw [e, List.length_append]
    exact own6
  gr := grownRow' (grown_trans h.gr (World.grownBy_alloc wr _ _)) grow6 (fun q hq => by have := (h.way.lt q hq).1; omega)

theorem l4DrawWay (g base : Nat) (bs : List Int) (ss : List Stm) (pv : Value) (w : World) (hl : bs.length ≤ 1048576) (hc : Cur w g bs) (ho : w.ownsRow base 77 3 pv ss.length (cells3 ss)) (hgb : g < base) (h7 : ss.length ≤ 7) :
    Calls Try.prog 40 #[.pointer (some ⟨g, 0, none⟩), .agg #[pv]] w fun e w' => ∃ (a : Value) (ys : List Int), e = .returned a ∧ ys.length ≤ 10 ∧ w'.ownsRow w.heap.size 2 1 a ys.length (ints ys) ∧ Cur w' g bs ∧ w.grownBy w' (some g) := by
  obtain ⟨i0, hi, hz0, hz1, hz2⟩ := info_parts infoInt
  have hss : ss.length ≤ maxLen := by unfold maxLen; omega
  have hgw := curLt hc
  go_enter Try.func40, Try.ntmps40
  have D0 : WyS w.heap.size g base (w.heap.size + 1) bs pv ss [0] (.slice (some ⟨w.heap.size + 1, 0, none⟩) 1 1) w ((w.alloc (.cells #[pv] 26)).alloc (.cells #[.int .i64 0] 2)) := by
    refine ⟨curAlloc (curAlloc hc _) _, (old_block (by simp)).trans (heap_alloc_new w _), (ho.alloc _).alloc _, ?_, grownAlloc (World.grownBy_alloc w _ _) _⟩
    have h := World.ownsRow_lit (base := w.heap.size + 1) (e := 2) (size := 1) (w.alloc (.cells #[pv] 26)) #[.int .i64 0] 1 (by simp) (by decide) (by simp)
    simpa [ints] using h
  have hlo : g < w.heap.size + 1 := by omega
  cases hp : procOk ss
  · go_wp2_with fail
    go_at_call 41
    refine (specProcOk ss pv _ hss (reads3_own D0.own)).mono ?_
    rintro e w1 ⟨rfl, b1⟩
    have D1 := D0.step b1
    rw [hp]
    go_wp2
    go_ret
    exact ⟨_, [0], rfl, by simp, own_mono D1.way (by omega), D1.cur, D1.gr⟩
  · obtain ⟨hn0, hn12, _⟩ := procOk_parts hp
    go_wp2_with fail
    go_at_call 41
    refine (specProcOk ss pv _ hss (reads3_own D0.own)).mono ?_
    rintro e w1 ⟨rfl, b1⟩
    have D1 := D0.step b1
    rw [hp]
    clear D0 b1 hc ho
    go_wp2_with fail
    go_at_call 79
    refine (l1Below g bs 9 (by omega) _ hl D1.cur).mono ?_
    rintro e w2 ⟨z, rfl, hz0, hz1, _, hc2, hg2⟩
    have hz9 := hz1 (by omega)
    obtain ⟨n0, rfl⟩ : ∃ n0 : Nat, z = (n0 : Int) := ⟨z.toNat, by omega⟩
    have D2 := D1.draw hgw hgb hlo hc2 hg2
    clear D1 hc2 hg2 hz0 hz1
    go_wp2_with fail
    go_loopw [5, 6] (fun a n wr => ∃ (ys : List Int) (m j : Nat), ys.length + m ≤ n0 + 1 ∧ 1 ≤ ys.length ∧ n = .int .i64 (m : Int) ∧ ys.getD (ys.length - 1) 0 = (j : Int) ∧ j < ss.length ∧ WyS w.heap.size g base (w.heap.size + 1) bs pv ss ys a w wr) (fun _ n _ => (intOf n).toNat)
    case atStart => exact ⟨[0], n0, 0, by simp; omega, by simp, rfl, rfl, by omega, D2⟩
    case round =>
      obtain ⟨ys, m, j, hlen, h1, rfl, hlast, hj, D⟩ := hrel
      clear D2
      obtain ⟨wa, hwa⟩ : ∃ x, x = wr := ⟨_, rfl⟩
      subst wr
      obtain ⟨gw, cw, rfl⟩ : ∃ gw cw, u5 = .slice (some ⟨gw, 0, none⟩) ys.length cw := by
        rcases D.way.2 with ⟨h, e⟩ | ⟨b, c, d, h, _⟩
        · have := D.way.1
          rw [e, ints_length] at this
          simp at this
          omega
        · exact ⟨_, _, h⟩
      by_cases hm0 : (0 : Int) < (m : Int)
      · have cl : wa.cell? ⟨gw, ys.length - 1, none⟩ = some (.int .i64 (j : Int)) := by
          rw [D.way.cellAt (ys.length - 1) (by omega), ← hlast]
          simp [ints, List.getD, show ys.length - 1 < ys.length by omega]
        obtain ⟨c1, f1⟩ := oneCell D.box
        have hlt1 : (ys.length : Int) - 1 < (ys.length : Int) := by omega
        have hge1 : (0 : Int) ≤ (ys.length : Int) - 1 := by omega
        have hnat : ((ys.length : Int) - 1).toNat = ys.length - 1 := by omega
        have hn8 : ¬ (ys.length : Int) < 1 := by omega
        have hn9 : (1 : Int) ≤ (ys.length : Int) := by omega
        have hwr1 : IntKind.i64.wrap ((ys.length : Int) - 1) = (ys.length : Int) - 1 := IntWalk.i64_in _ (by omega)
        have hnx := fun W (hW : Below wa.heap.size wa W) => l4Next ss j pv W hp hj (reads3_below (reads3_own D.own) hW)
        have hXl := (Array.getElem?_eq_some_iff.1 D.box).1
        have gB := World.block_lt_of_cell? wa _ cl
        have hAl : (nextsS ss[j] j).length ≤ 2 := nextsS_length _ _
        have hAin : ∀ x ∈ nextsS ss[j] j, ∃ i : Nat, x = (i : Int) ∧ i < ss.length := fun x hx => nextsS_in hp hj x hx
        have HAI : Hid _ := hAin
        have HD : Hid _ := D
        clear hAin D
        generalize nextsS ss[j] j = A at *
        go_wp2_with fail
        go_region_held3 (fun w' => w'.cell? ⟨w.heap.size, 0, none⟩ = some pv ∧ w'.cell? ⟨gw, ys.length - 1, none⟩ = some (.int .i64 (j : Int))) (first | exact ⟨c1, cl⟩ | exact ⟨(hc4 _ _ hXl).trans c1, (hc4 _ _ gB).trans cl⟩) (first
          | (go_at_call 46; refine (hnx _ (by go_grown)).mono ?_; rintro e w4 ⟨gl, capl, rfl, own4, b4⟩; have M4 : Below wa.heap.size wa w4 := Below.trans (by go_grown) b4; obtain ⟨hc4, hf4⟩ := bcell M4))
        have D4 := HD.out.step M4
        by_cases hA0 : (0 : Int) < (A.length : Int)
        · clear hnx c1 f1 cl hc4 hf4
          go_wp2_with fail
          go_at_call 79
          refine (l1Below g bs (A.length : Int) (by omega) _ hl D4.cur).mono ?_
          rintro e w5 ⟨z, rfl, hq0, hq1, _, hc5, hg5⟩
          have hzA := hq1 hA0
          obtain ⟨zn, rfl⟩ : ∃ zn : Nat, z = (zn : Int) := ⟨z.toNat, by omega⟩
          have hzn : zn < A.length := by omega
          have D5 := D4.draw hgw hgb hlo hc5 hg5
          have own5 := own_grown own4 hg5 (fun k hk e => by have h : wa.heap.size ≤ k := (own4.lt k hk).1; have hq := curLt HD.out.cur; simp at e; omega)
          obtain ⟨y, hy, hylt⟩ := HAI.out A[zn] (by simp)
          have cz : w5.cell? ⟨gl, zn, none⟩ = some (.int .i64 (y : Int)) := by
            rw [own5.cellAt zn (by omega)]
            simp [ints, hzn, hy]
          clear hc5 hg5 own4 own5 D4 HD b4 M4 hq0 hq1
          have hys : ys.length ≤ 9 := by omega
          have B1 := World.grownBy_alloc w5 (.cells #[.int .i64 (y : Int)] 2) (some g)
          have hsz := D5.gr.size
          go_wp2_with (first
            | (at_builtin; refine wpList_append_own _ rfl (.tmp 30) (.tmp 38) 29 rfl (w.heap.size + 1) 2 i0 (.int .i64 0) 1 8 Try.underlying29 hi hz0 hz1 hz2 rfl (by decide) _ _ _ rfl (D5.way.alloc _) ⟨w5.heap.size, 0, none⟩ 1 _ [.int .i64 (y : Int)] rfl rfl (cell_one w5 _) (ints_oneCell [(y : Int)]) (by unfold maxLen; omega) (by omega) (by simp; omega) ?_; intro v6 w6 own6 grow6 _)
            | go_in)
          have D6 : WyS w.heap.size g base (w.heap.size + 1) bs pv ss (ys ++ [(y : Int)]) v6 w w6 := D5.app hgw own6 grow6
          go_roundw
          case rel => exact ⟨ys ++ [(y : Int)], m - 1, y, by simp; omega, by simp, by go_num, by simp [List.getD], hylt, D6⟩
          case measure => simp [intOf]; omega
        · clear hnx c1 f1 cl hc4 hf4
          go_wp2
          go_roundw
          case rel => exact ⟨ys, m - 1, j, by omega, h1, by go_num, hlast, hj, D4⟩
          case measure => simp [intOf]; omega
      · have hys : ys.length ≤ 9 := by omega
        go_wp2_with fail
        go_at_call 33
        refine (l1Once g bs 10 (by omega) _ hl D.cur).mono ?_
        rintro e w4 ⟨b, rfl, hc4, hg4⟩
        have D4 := D.draw hgw hgb hlo hc4 hg4
        clear D hc4 hg4
        cases b
        · go_wp2
          go_ret
          exact ⟨_, ys, rfl, by omega, own_mono D4.way (by omega), D4.cur, D4.gr⟩
        · go_wp2_with fail
          go_at_call 80
          refine (l1From g bs (-1) 8 (by omega) (by omega) (by omega) _ hl D4.cur).mono ?_
          rintro e w5 ⟨y, rfl, _, _, hc5, hg5⟩
          have D5 := D4.draw hgw hgb hlo hc5 hg5
          clear D4 hc5 hg5
          have hsz := D5.gr.size
          go_wp2_with (first
            | (at_builtin; refine wpList_append_own _ rfl (.tmp 42) (.tmp 45) 29 rfl (w.heap.size + 1) 2 i0 (.int .i64 0) 1 8 Try.underlying29 hi hz0 hz1 hz2 rfl (by decide) _ _ _ rfl (D5.way.alloc _) ⟨w5.heap.size, 0, none⟩ 1 _ [.int .i64 y] rfl rfl (cell_one w5 _) (ints_oneCell [y]) (by unfold maxLen; omega) (by omega) (by simp; omega) ?_; intro v6 w6 own6 grow6 _)
            | go_in)
          have D6 : WyS w.heap.size g base (w.heap.size + 1) bs pv ss (ys ++ [y]) v6 w w6 := D5.app hgw own6 grow6
          go_ret
          exact ⟨_, ys ++ [y], rfl, by simp; omega, own_mono D6.way (by omega), D6.cur, D6.gr⟩

end Go.Proofs.Ytebadimjpbhagaa
