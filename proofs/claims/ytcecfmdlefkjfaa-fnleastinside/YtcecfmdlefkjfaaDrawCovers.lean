/-
  spec.DrawCovers: some Proc and some list of numbers in rows of their own, and two numbers.
-/
import Derived.Test.YtcecfmdlefkjfaaDrawSolved
import Derived.Test.YtcecfmdlefkjfaaSpecSolved
namespace Go.Proofs.Ytcecfmdlefkjfaa
open Go.RowKit
set_option linter.unusedVariables false
set_option maxHeartbeats 2000000
set_option maxRecDepth 20000
attribute [local go_sem ↓] Go.wp_at_zero Go.wp_at_succ

/-- What it holds between its steps: the cursor g, the Proc's box X, the answer's box (w's size), the two rows. -/
structure CvS (g X : Nat) (bs : List Int) (u : Value) (ss : List Stm) (lv : Value) (ys : List Int) (w wr : World) : Prop where
  cur : Cur wr g bs
  box : wr.heap[X]? = some (.cells #[u] 26 (0, 0))
  res : wr.heap[w.heap.size]? = some (.cells #[.slice none 0 0] 26 (0, 0))
  pu : wr.ownsRow (g + 1) 72 3 u ss.length (cells3 ss)
  pl : wr.ownsRow (g + 1) 2 1 lv ys.length (ints ys)
  bl : Below w.heap.size w wr

theorem CvS.step {g X : Nat} {bs : List Int} {u : Value} {ss : List Stm} {lv : Value} {ys : List Int} {w wr wr' : World} (h : CvS g X bs u ss lv ys w wr) (hX : g < X) (hw : w.heap.size < g) (hg : wr.grownBy wr' (some g)) (hc : Cur wr' g bs) : CvS g X bs u ss lv ys w wr' :=
  ⟨hc, blockGrown h.box hg hX, (hg.block _ (Array.getElem?_eq_some_iff.1 h.res).1 (fun e => by simp at e; omega)).trans h.res, own_grown h.pu hg (fun k hk e => by have := (h.pu.lt k hk).1; simp at e; omega), own_grown h.pl hg (fun k hk e => by have := (h.pl.lt k hk).1; simp at e; omega), h.bl.grown hg h.bl.size (fun k e => by simp at e; omega)⟩

theorem CvS.below {g X : Nat} {bs : List Int} {u : Value} {ss : List Stm} {lv : Value} {ys : List Int} {w wr wr' : World} (h : CvS g X bs u ss lv ys w wr) (hb : Below wr.heap.size wr wr') : CvS g X bs u ss lv ys w wr' :=
  ⟨cur_below h.cur hb, (hb.block _ (Array.getElem?_eq_some_iff.1 h.box).1).trans h.box, (hb.block _ (Array.getElem?_eq_some_iff.1 h.res).1).trans h.res, own_kept h.pu hb, own_kept h.pl hb, h.bl.trans (hb.mono h.bl.size)⟩

/-- A number of the list is laid. -/
theorem CvS.put {g X gl n cap : Nat} {bs : List Int} {u : Value} {ss : List Stm} {ys : List Int} {w wr : World} (h : CvS g X bs u ss (.slice (some ⟨gl, 0, none⟩) n cap) ys w wr) (hn : ys.length = n) (hw : w.heap.size < g) (i : Nat) (x : Int) : CvS g X bs u ss (.slice (some ⟨gl, 0, none⟩) n cap) (ys.set i x) w (wr.setCell ⟨gl, i, none⟩ (.int .i64 x)) := by
  subst hn
  have hgl := (h.pl.lt gl rfl).1
  obtain ⟨c2, h2⟩ := own_blk h.pl (k := gl) rfl
  have gs := grown_setCell1H wr gl i (.int .i64 x)
  refine ⟨cur_grown h.cur gs (fun k e => by simp at e; omega), (gs.block _ (Array.getElem?_eq_some_iff.1 h.box).1 (fun e => by simp at e; exact blk_ne h.box h2 (by decide) e)).trans h.box, (gs.block _ (Array.getElem?_eq_some_iff.1 h.res).1 (fun e => by simp at e; omega)).trans h.res, own_grown h.pu gs (fun k hk e => ?_), ?_, h.bl.setCell (by show w.heap.size ≤ gl; omega) _⟩
  · obtain ⟨c3, h3⟩ := own_blk h.pu hk
    simp at e
    subst e
    exact blk_ne h2 h3 (by decide) rfl
  · have := (World.ownsRow.stored h.pl i (.int .i64 x)).1
    rw [List.length_set]
    have e : (ints ys).set i (.int .i64 x) = ints (ys.set i x) := by simp [ints, List.map_set]
    rw [← e]
    exact this

theorem CvS.fin {g X : Nat} {bs : List Int} {u : Value} {ss : List Stm} {lv : Value} {ys : List Int} {w wr : World} (h : CvS g X bs u ss lv ys w wr) (hw : w.heap.size < g) (x : Value) : (wr.setCell ⟨w.heap.size, 0, none⟩ x).ownsRow w.heap.size 72 3 u ss.length (cells3 ss) ∧ (wr.setCell ⟨w.heap.size, 0, none⟩ x).ownsRow w.heap.size 2 1 lv ys.length (ints ys) ∧ Below w.heap.size w (wr.setCell ⟨w.heap.size, 0, none⟩ x) ∧ (wr.setCell ⟨w.heap.size, 0, none⟩ x).cell? ⟨w.heap.size, 0, none⟩ = some x :=
  ⟨own_mono (ownsRow_setCell_other h.pu (a := ⟨w.heap.size, 0, none⟩) (fun e => by have : g + 1 ≤ w.heap.size := (h.pu.lt _ e).1; omega) _) (by omega), own_mono (ownsRow_setCell_other h.pl (a := ⟨w.heap.size, 0, none⟩) (fun e => by have : g + 1 ≤ w.heap.size := (h.pl.lt _ e).1; omega) _) (by omega), h.bl.setCell (by simp) _, (oneCell (one_set' h.res x)).1⟩

theorem drawCovers (bs : List Int) (v : Value) (w : World) (hl : bs.length ≤ 1048576) (hv : Reads w v (bs.map (Value.int .u8))) :
    Calls Try.prog 20 #[v] w fun e w' => ∃ (u : Value) (ss : List Stm) (n s : Int) (lv : Value) (ys : List Int), e = .returned (.tuple #[.agg #[u], .int .i64 n, .int .i64 s, lv]) ∧ 1 ≤ ss.length ∧ ss.length ≤ 7 ∧ w'.ownsRow w.heap.size 72 3 u ss.length (cells3 ss) ∧ w'.ownsRow w.heap.size 2 1 lv ys.length (ints ys) ∧ ys.length ≤ 12 ∧ Below w.heap.size w w' := by
  have hb0 : Below w.heap.size w (w.alloc (.cells #[.slice none 0 0] 26)) := by go_grown
  go_enter Try.func20, Try.ntmps20
  go_wp2_with fail
  go_at_call 23
  refine (l1New bs v _ hl (reads_below hv hb0)).mono ?_
  rintro e w1 ⟨g, rfl, hg, hc1, b1⟩
  have lt1 : w.heap.size < g := by have := hg; simp at this; omega
  have R1 : w1.heap[w.heap.size]? = some (.cells #[.slice none 0 0] 26 (0, 0)) := (b1.block _ (by simp)).trans (heap_alloc_new w _)
  have L1 : Below w.heap.size w w1 := hb0.trans (b1.mono hb0.size)
  have g1 := curLt hc1
  go_wp2_with fail
  go_at_call 7
  refine (drawSolved bs v w1 hl (reads_below hv L1)).mono ?_
  rintro e w2 ⟨u, ss, n, s, rfl, h1, h7, own2, b2⟩
  have s2 := b2.size
  obtain ⟨ua, un, uc, rfl⟩ := ownSlice own2
  obtain ⟨A, hAA⟩ := solvedAns_some n ss s
  have hAl := solvedAns_length hAA
  have hsl : ss.length ≤ maxLen := by unfold maxLen; omega
  have bA : Below w2.heap.size w2 (w2.alloc (.cells #[.slice ua un uc] 26)) := by go_grown
  have hsp := specSolved ss n s A hAA (.slice ua un uc) (w2.alloc (.cells #[.slice ua un uc] 26)) hsl (reads3_own (own2.alloc _))
  have X2 := heap_alloc_new w2 (.cells #[.slice ua un uc] 26)
  clear hAA
  go_wp2_with fail
  go_at_call 11
  refine hsp.mono ?_
  rintro e w3 ⟨lv, rfl, own3, b3⟩
  have M3 : Below w1.heap.size w1 w3 := (b2.trans (bA.mono b2.size)).trans (b3.mono (by simp; omega))
  obtain ⟨la, ln, lc, rfl⟩ := own_slice own3
  have hln : ln = A.length := by
    obtain ⟨_, _, e, _⟩ := reads_own own3
    rw [ints_length] at e
    simp at e
    exact e.2.1
  subst hln
  have C3 : Hid (CvS g w2.heap.size bs (.slice ua un uc) ss (.slice la A.length lc) A w w3) :=
    ⟨cur_below hc1 M3, (b3.block _ (by simp)).trans X2, (M3.block _ (by omega)).trans R1, own_mono (own_kept (own2.alloc _) b3) (by omega), own_mono own3 (by simp; omega), L1.trans (M3.mono L1.size)⟩
  have hXg : g < w2.heap.size := by omega
  clear hsp own2 own3 b3 X2 bA M3 R1 L1
  go_wp2_with fail
  go_loopw [11] (fun iv wr => ∃ (i : Nat) (ys : List Int), i ≤ A.length ∧ iv = .int .i64 i ∧ ys.length = A.length ∧ CvS g w2.heap.size bs (.slice ua un uc) ss (.slice la A.length lc) ys w wr) (fun iv _ => A.length - (intOf iv).toNat)
  case atStart => exact ⟨0, A, Nat.zero_le _, rfl, rfl, C3.out⟩
  case round =>
    obtain ⟨i, ys, hi, rfl, hyl, hC⟩ := hrel
    have HC : Hid _ := hC
    have HYL : Hid _ := hyl
    clear hC hyl C3
    by_cases hlt : i < A.length
    · have hlt' : (i : Int) < (A.length : Int) := by omega
      obtain ⟨gl, hgl⟩ : ∃ gl, la = some ⟨gl, 0, none⟩ := by
        rcases own_shape HC.out.pl with ⟨e, e2, _⟩ | ⟨gl, cp, e, _⟩
        · rw [HYL.out] at e2; omega
        · simp only [Value.slice.injEq] at e
          exact ⟨gl, e.1⟩
      subst hgl
      go_wp2_with fail
      go_at_call 26
      refine (l1Once g bs 4 (by omega) wr hl HC.out.cur).mono ?_
      rintro e w4 ⟨b, rfl, hc4, hg4⟩
      have C4 := HC.out.step hXg lt1 hg4 hc4
      have HC4 : Hid _ := C4
      cases b
      · clear C4
        go_wp2
        go_roundw
        case rel => exact ⟨i + 1, ys, by omega, by go_num, HYL.out, HC4.out⟩
        case measure => simp [intOf]; omega
      · have hbl := fun W hW => l1Below g bs 128 (by omega) W hl hW
        have pl4 := C4.pl
        rw [HYL.out] at pl4
        have q4 : ∀ W, CvS g w2.heap.size bs (.slice ua un uc) ss (.slice (some ⟨gl, 0, none⟩) A.length lc) ys w W → W.cell? ⟨gl, i, none⟩ = some (.int .i64 (ys.getD i 0)) ∧ W.frozen? ⟨gl, i, none⟩ = false := fun W hW => by
          have pl := hW.pl
          rw [HYL.out] at pl
          refine ⟨?_, pl.frozenAt i⟩
          rw [pl.cellAt i (by omega)]
          simp [ints, List.getD, HYL.out, hlt]
        obtain ⟨qa, fa⟩ := q4 _ C4
        clear C4 pl4
        generalize ys.getD i 0 = y at *
        go_wp2_with fail
        go_region_with (go_at_call 48; refine (hbl _ (cur_below hc4 (by go_grown))).mono ?_; rintro e w5 ⟨x, rfl, _, _, _, hc5, hg5'⟩; have hg5 : w4.grownBy w5 (some g) := grown_trans (grown_of_below (by go_grown) (some g)) hg5'; have C5 := HC4.out.step hXg lt1 hg5 hc5; obtain ⟨qb, fb⟩ := q4 _ C5)
        all_goals
          have C6 : Hid _ := C5.put HYL.out lt1 i (bits .or .i64 y x)
          clear C5 qb fb qa fa q4
          go_wp2
          go_roundw
          case rel => exact ⟨i + 1, _, by omega, by go_num, by rw [List.length_set]; exact HYL.out, C6.out.below (by go_grown)⟩
          case measure => simp [intOf]; omega
    · obtain rfl : i = A.length := by omega
      by_cases hA0 : (0 : Int) < (A.length : Int)
      · go_wp2_with fail
        go_at_call 26
        refine (l1Once g bs 4 (by omega) wr hl HC.out.cur).mono ?_
        rintro e w4 ⟨b, rfl, hc4, hg4⟩
        have HC4 : Hid _ := HC.out.step hXg lt1 hg4 hc4
        cases b
        · clear HC
          obtain ⟨cb, fb⟩ := oneCell (HC4).out.box
          obtain ⟨cr, fr⟩ := oneCell (HC4).out.res
          obtain ⟨q1, q2, q3, q4⟩ := (HC4).out.fin lt1 (.slice ua un uc)
          have HQ : Hid _ := And.intro q1 (And.intro q2 q3)
          clear q1 q2 q3
          go_wp2
          refine bodyPost_ret (v := .tuple #[.agg #[.slice ua un uc], .int .i64 n, .int .i64 s, .slice la A.length lc]) (by simp [results, Try.results20, go_sem, q4]) rfl ?_
          exact ⟨_, ss, n, s, _, _, rfl, h1, h7, HQ.out.1, HQ.out.2.1, by rw [HYL.out]; exact hAl, HQ.out.2.2⟩
        · obtain ⟨gl, hgl⟩ : ∃ gl, la = some ⟨gl, 0, none⟩ := by
            rcases own_shape HC.out.pl with ⟨e, e2, _⟩ | ⟨gl, cp, e, _⟩
            · rw [HYL.out] at e2; omega
            · simp only [Value.slice.injEq] at e
              exact ⟨gl, e.1⟩
          subst hgl
          have hbl := fun W hW => l1Below g bs (A.length : Int) (by omega) W hl hW
          have hds := fun W hW => l6DrawSet g bs W hl hW
          have q4 : ∀ W, CvS g w2.heap.size bs (.slice ua un uc) ss (.slice (some ⟨gl, 0, none⟩) A.length lc) ys w W → ∀ j, j < A.length → W.cell? ⟨gl, j, none⟩ = some (.int .i64 (ys.getD j 0)) ∧ W.frozen? ⟨gl, j, none⟩ = false := fun W hW j hj => by
            have pl := hW.pl
            rw [HYL.out] at pl
            refine ⟨?_, pl.frozenAt j⟩
            rw [pl.cellAt j (by omega)]
            simp [ints, List.getD, HYL.out, hj]
          clear HC
          go_wp2_with fail
          go_at_call 48
          refine (hbl _ hc4).mono ?_
          rintro e w5 ⟨x, rfl, hx0, hx1, _, hc5, hg5⟩
          have hx2 := hx1 hA0
          obtain ⟨k, rfl⟩ : ∃ k : Nat, x = (k : Int) := ⟨x.toNat, by omega⟩
          have hkA : k < A.length := by omega
          have hk0 : (0 : Int) ≤ (k : Int) := by omega
          have HC5 : Hid _ := HC4.out.step hXg lt1 hg5 hc5
          clear HC4 hx1
          go_wp2_with fail
          go_at_call 29
          refine (hds _ hc5).mono ?_
          rintro e w6 ⟨y, rfl, hc6, hg6⟩
          have HC6 : Hid _ := HC5.out.step hXg lt1 hg6 hc6
          obtain ⟨qb, fb'⟩ := q4 _ HC6.out k hkA
          have HC7 : Hid _ := HC6.out.put HYL.out lt1 k y
          clear HC5 HC6 q4 hbl hds
          obtain ⟨cb, fb⟩ := oneCell HC7.out.box
          obtain ⟨cr, fr⟩ := oneCell HC7.out.res
          obtain ⟨q1, q2, q3, q5⟩ := HC7.out.fin lt1 (.slice ua un uc)
          have HQ : Hid _ := And.intro q1 (And.intro q2 q3)
          clear q1 q2 q3
          go_wp2
          refine bodyPost_ret (v := .tuple #[.agg #[.slice ua un uc], .int .i64 n, .int .i64 s, .slice (some ⟨gl, 0, none⟩) A.length lc]) (by simp [results, Try.results20, go_sem, q5]) rfl ?_
          exact ⟨_, ss, n, s, _, _, rfl, h1, h7, HQ.out.1, HQ.out.2.1, by rw [List.length_set, HYL.out]; exact hAl, HQ.out.2.2⟩
      · have hA00 : True := trivial
        obtain ⟨cb, fb⟩ := oneCell (HC).out.box
        obtain ⟨cr, fr⟩ := oneCell (HC).out.res
        obtain ⟨q1, q2, q3, q4⟩ := (HC).out.fin lt1 (.slice ua un uc)
        have HQ : Hid _ := And.intro q1 (And.intro q2 q3)
        clear q1 q2 q3
        go_wp2
        refine bodyPost_ret (v := .tuple #[.agg #[.slice ua un uc], .int .i64 n, .int .i64 s, .slice la A.length lc]) (by simp [results, Try.results20, go_sem, q4]) rfl ?_
        first
          | exact ⟨_, ss, n, s, _, rfl, h1, h7, HQ.out.1, ys, HQ.out.2.1, by rw [HYL.out]; exact hAl, HQ.out.2.2⟩
          | exact ⟨_, ss, n, s, _, ys, rfl, h1, h7, HQ.out.1, HQ.out.2.1, by rw [HYL.out]; exact hAl, HQ.out.2.2⟩

end Go.Proofs.Ytcecfmdlefkjfaa
