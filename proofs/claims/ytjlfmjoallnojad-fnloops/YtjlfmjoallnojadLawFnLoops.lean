/-
  The law FnLoops: a loop's body has its gate and its end, and all of it is behind the gate.
-/
import Derived.Test.YtjlfmjoallnojadDrawBody
import Derived.Test.YtjlfmjoallnojadBodyBoth
import Derived.Test.YtjlfmjoallnojadLoopsBoth
import Derived.Test.YtjlfmjoallnojadGatesBoth
import Derived.Test.YtjlfmjoallnojadNextBoth
import Derived.Test.YtjlfmjoallnojadReachedBoth
import Derived.Test.YtjlfmjoallnojadIntLaws
import Derived.Test.YtjlfmjoallnojadLikeLists
import Derived.Test.YtjlfmjoallnojadOpenCode
import Derived.Deep.RegionHeld3
namespace Go.Proofs.Ytjlfmjoallnojad
open Go.ChangeShapes Go.WideShapes Go.ChangeAt Go.RowKit
set_option linter.unusedVariables false
set_option linter.unusedSimpArgs false

/-- What the law holds between its steps. -/
structure LpS (X : Nat) (u : Value) (ss : List Stm) (bv lv : Value) (A : List Int) (LL : List (List Int)) (w wr : World) : Prop where
  box : wr.heap[X]? = some (.cells #[u] 26 (0, 0))
  rd : Reads3 wr u ss
  b : Reads wr bv (ints A)
  l : ReadsSS wr lv LL
  bl : Below w.heap.size w wr

theorem LpS.step {X : Nat} {u : Value} {ss : List Stm} {bv lv : Value} {A : List Int} {LL : List (List Int)} {w wr wr' : World} (h : LpS X u ss bv lv A LL w wr) (hb : Below wr.heap.size wr wr') : LpS X u ss bv lv A LL w wr' :=
  ⟨(hb.block X (Array.getElem?_eq_some_iff.1 h.box).1).trans h.box, reads3_below h.rd hb, reads_below h.b hb, readsSS_below h.l hb, h.bl.trans (hb.mono h.bl.size)⟩

theorem any_memL (xs : List Int) (n : Int) : xs.any (fun x => decide (x = n)) = decide (n ∈ xs) := by
  rw [Bool.eq_iff_iff]
  simp

theorem reads_lenL {w : World} {v : Value} {xs : List Int} (h : Reads w v (ints xs)) : ∃ a c, v = .slice a xs.length c := by
  obtain ⟨ao, cap, rfl, _⟩ := h
  exact ⟨ao, cap, by rw [ints_length]⟩

theorem rises_ofL : ∀ {xs : List Int}, xs.Pairwise (· < ·) → Rises xs
  | [], _, j, x, y, h, _ => by simp at h
  | a :: xs, hp, 0, x, y, h, h' => by
    simp at h h'
    subst h
    have := (List.pairwise_cons.1 hp).1
    exact this y (List.mem_of_getElem? h')
  | a :: xs, hp, j + 1, x, y, h, h' => by
    simp at h h'
    exact rises_ofL (List.pairwise_cons.1 hp).2 j x y h h'

theorem nextAns_nxL {ss : List Stm} {j : Nat} (hp : procOk ss = true) (hj : j < ss.length) : nextAns ss (j : Int) = nx ss j := by
  have h : hasS ss (j : Int) = true := by unfold hasS wiB; simp [hp, hj]
  unfold nextAns nx
  rw [if_pos h, Int.toNat_natCast]

theorem hasS_of {ss : List Stm} {j : Nat} (hp : procOk ss = true) (hj : j < ss.length) : hasS ss (j : Int) = true := by unfold hasS wiB; simp [hp, hj]

/-- The pair at place k of the loops. -/
theorem pair_at {w : World} {la : Option Addr} {n lc : Nat} {LL : List (List Int)} (h : ReadsSS w (.slice la n lc) LL) {k : Nat} (hk : k < LL.length) {j y : Int} (e : LL[k] = [j, y]) :
    ∃ g off g' off' c', la = some ⟨g, off, none⟩ ∧ w.cell? ⟨g, off + k, none⟩ = some (.slice (some ⟨g', off', none⟩) 2 c') ∧ w.cell? ⟨g', off', none⟩ = some (.int .i64 j) ∧ w.cell? ⟨g', off' + 1, none⟩ = some (.int .i64 y) := by
  obtain ⟨ao, cap, e1, hc⟩ := h
  simp only [Value.slice.injEq] at e1
  obtain ⟨rfl, rfl, rfl⟩ := e1
  obtain ⟨g, off, u, ha, hcell, hr⟩ := hc k LL[k] (by simp [hk])
  rw [e] at hr
  obtain ⟨ao', cap', rfl, hc'⟩ := hr
  obtain ⟨g', off', rfl, h0⟩ := hc' 0 (.int .i64 j) rfl
  obtain ⟨g'', off'', e2, h1⟩ := hc' 1 (.int .i64 y) rfl
  simp at e2
  obtain ⟨rfl, rfl⟩ := e2
  exact ⟨g, off, g', off', cap', ha, hcell, by simpa using h0, h1⟩

set_option maxRecDepth 20000 in
set_option maxHeartbeats 16000000 in
theorem walkFnLoops (bs : List Int) (v : Value) (w : World) (hl : bs.length ≤ maxLen) (hv : Reads w v (bs.map (Value.int .u8))) :
    Calls Try.prog 3 #[v] w fun e w' => e = .returned (.bool true) ∧ Below w.heap.size w w' := by
  have hbig := lawBig bs v w hl hv
  by_cases hb : (4096 : Int) < (bs.length : Int)
  · rw [decide_eq_true hb] at hbig
    go_enter Try.func3, Try.ntmps3
    go_wp2_with (go_at_call 4; refine hbig.mono ?_; rintro e w1 ⟨rfl, rfl⟩)
    go_ret
    exact ⟨rfl, Below.refl _ _⟩
  rw [decide_eq_false hb] at hbig
  go_enter Try.func3, Try.ntmps3
  go_wp2_with fail
  go_at_call 4
  refine hbig.mono ?_
  rintro e w1 ⟨rfl, rfl⟩
  clear hbig
  go_wp2_with fail
  go_at_call 5
  refine (drawBody bs v w (by omega) hv).mono ?_
  rintro e w1 ⟨u, ss, f, gt, rfl, h1, h7, ou, b1⟩
  clear hv
  have hsl : ss.length ≤ maxLen := by unfold maxLen; omega
  have L1 : Below w.heap.size w (w1.alloc (.cells #[u] 26)) := b1.alloc b1.size _
  have X1 := heap_alloc_new w1 (.cells #[u] 26)
  have r1 := reads3_own (ou.alloc (.cells #[u] 26))
  have z1 : (w1.alloc (.cells #[u] 26)).heap.size = w1.heap.size + 1 := by simp
  obtain ⟨ua, un, uc, rfl⟩ := ownSlice ou
  obtain ⟨c1, f1⟩ := oneCell X1
  obtain ⟨A, hA1, hA0, hA12⟩ := body_some ss f gt
  have hA' : A.length ≤ maxLen := by unfold maxLen; omega
  have hAs : Rises A := by
    refine rises_ofL ?_
    by_cases h : [f, gt] ∈ loopsAns ss
    · exact (hA1 h).1
    · rw [hA0 h]; exact List.Pairwise.nil
  have hib := implBody ss f gt A hA1 hA0
  have hsb := specBody ss f gt A hA1 hA0
  have hil := implLoops ss
  have hslp := specLoops ss
  have hL24 := loopsAns_length ss
  have hLe := fun xs (h : xs ∈ loopsAns ss) => loopsAns_each h
  have hLi := fun xs (h : xs ∈ loopsAns ss) => loops_in h
  have HA : Hid ([f, gt] ∈ loopsAns ss → IsBody ss f gt A) := hA1
  have HA0 : Hid ([f, gt] ∉ loopsAns ss → A = []) := hA0
  clear hA1 hA0
  go_wp2_with fail
  go_at_call 6
  refine (hib _ _ hsl r1).mono ?_
  rintro e w2 ⟨bv, rfl, ob, b2⟩
  have s2 := b2.size
  have L2 := L1.trans (b2.mono L1.size)
  have X2 := (b2.block w1.heap.size (by omega)).trans X1
  have r2 := reads3_below r1 b2
  have ob2 := reads_own ob
  clear c1 f1 X1 r1 hib
  obtain ⟨c1, f1⟩ := oneCell X2
  go_wp2_with fail
  go_at_call 7
  refine (hil _ _ hsl r2).mono ?_
  rintro e w3 ⟨lv, lus, rfl, ol, _, b3⟩
  have D3 : LpS w1.heap.size (.slice ua un uc) ss bv lv A (loopsAns ss) w w3 := ⟨(b3.block w1.heap.size (by omega)).trans X2, reads3_below r2 b3, reads_below ob2 b3, ol.reads, L2.trans (b3.mono L2.size)⟩
  clear c1 f1 X2 r2 hil ob ob2 ol L1 L2 b1 b2 b3 ou
  obtain ⟨ba, bc, rfl⟩ := reads_lenL D3.b
  obtain ⟨la, lc, rfl, _⟩ := id D3.l
  have HLi : Hid _ := hLi
  have HLe : Hid _ := hLe
  clear hLi hLe
  generalize hLL : loopsAns ss = LL at *
  obtain ⟨c1, f1⟩ := oneCell D3.box
  go_wp2_with fail
  go_at_call 9
  refine (hsb _ _ hsl D3.rd).mono ?_
  rintro e w4 ⟨x4, rfl, o4, b4⟩
  have D4 := D3.step b4
  go_wp2_with fail
  go_at_call 8
  refine (likeInts A _ _ w4 hA' D4.b (reads_own o4)).mono ?_
  rintro e w5 ⟨rfl, b5⟩
  have D5 := D4.step b5
  clear D3 D4 b4 b5 o4 hsb c1 f1
  obtain ⟨c1, f1⟩ := oneCell D5.box
  go_wp2_with fail
  go_at_call 11
  refine (hslp _ _ hsl D5.rd).mono ?_
  rintro e w6 ⟨x6, us6, rfl, o6, b6⟩
  have D6 := D5.step b6
  go_wp2_with fail
  go_at_call 10
  refine (likeLists LL _ _ w6 (by unfold maxLen; omega) (fun xs h => by have := HLe.out xs h; unfold maxLen; omega) D6.l o6.reads).mono ?_
  rintro e w7 ⟨rfl, b7⟩
  have D7 := D6.step b7
  clear D5 D6 b6 b7 o6 hslp c1 f1
  go_wp2_with fail
  go_at_call 12
  refine (lawRises A _ w7 hA' hAs D7.b).mono ?_
  rintro e w8 ⟨rfl, b8⟩
  have D8 := D7.step b8
  clear D7 b8
  go_wp2_with fail
  go_loopw [8] (fun i wr => ∃ k : Nat, k ≤ LL.length ∧ i = .int .i64 k ∧ LpS w1.heap.size (.slice ua un uc) ss (.slice ba A.length bc) (.slice la LL.length lc) A LL w wr) (fun i _ => LL.length - (intOf i).toNat)
  case atStart => exact ⟨0, by omega, rfl, D8⟩
  case round =>
    obtain ⟨k, hk, rfl, D⟩ := hrel
    clear D8
    obtain ⟨wa, hwa⟩ : ∃ x, x = wr := ⟨_, rfl⟩
    subst wr
    by_cases hlt : k < LL.length
    · have hlt' : (k : Int) < (LL.length : Int) := by omega
      obtain ⟨j, y, exs, hp, hj, hy, hm, hd⟩ := HLi.out LL[k] (by simp)
      obtain ⟨g, off, g', off', c', rfl, q0, q1, q2⟩ := pair_at D.l hlt exs
      obtain ⟨c1, f1⟩ := oneCell D.box
      have hXl := (Array.getElem?_eq_some_iff.1 D.box).1
      have gB := World.block_lt_of_cell? wa _ q0
      have gB' := World.block_lt_of_cell? wa _ q1
      have gB2 := World.block_lt_of_cell? wa _ q2
      have hne := implNext ss j
      have hga := implGates ss j (gatesL ss j) (fun _ => gatesL_is ss j) (fun h => absurd (hasS_of hp hj) (by rw [h]; simp))
      have hga' := fun W (hW : Below wa.heap.size wa W) => hga (.slice ua un uc) W hsl (reads3_below D.rd hW)
      have hne' := fun W (hW : Below wa.heap.size wa W) => hne (.slice ua un uc) W hsl (reads3_below D.rd hW)
      rw [nextAns_nxL hp hj] at hne'
      have hm1 : (nx ss j).any (fun x => decide (x = (y : Int))) = true := by rw [any_memL]; exact decide_eq_true hm
      have hm2 : (gatesL ss j).any (fun x => decide (x = (y : Int))) = true := by rw [any_memL]; exact decide_eq_true (mem_gatesL.2 hd)
      have hh1 := fun v W hr => lawHas (nx ss j) y v W (by have := nx_length ss j; unfold maxLen; omega) hr
      have hh2 := fun v W hr => lawHas (gatesL ss j) y v W (by have := gatesL_length ss j; unfold maxLen; omega) hr
      rw [hm1] at hh1
      rw [hm2] at hh2
      have HD : Hid _ := D
      clear hm1 hm2 hne hga D hm hd hy exs
      generalize nx ss j = Nj at *
      generalize gatesL ss j = Gj at *
      clear hj
      generalize (j : Int) = jj at *
      generalize (y : Int) = yy at *
      go_wp2_with fail
      go_region_held3 (fun w' => w'.cell? ⟨w1.heap.size, 0, none⟩ = some (.slice ua un uc) ∧ w'.cell? ⟨g, off + k, none⟩ = some (.slice (some ⟨g', off', none⟩) 2 c') ∧ w'.cell? ⟨g', off', none⟩ = some (.int .i64 jj) ∧ w'.cell? ⟨g', off' + 1, none⟩ = some (.int .i64 yy))
        (first | exact ⟨c1, q0, q1, q2⟩ | exact ⟨(hc4 _ _ hXl).trans c1, (hc4 _ _ gB).trans q0, (hc4 _ _ gB').trans q1, (hc4 _ _ gB').trans q2⟩ | exact ⟨(hc5 _ _ hXl).trans c1, (hc5 _ _ gB).trans q0, (hc5 _ _ gB').trans q1, (hc5 _ _ gB').trans q2⟩ | exact ⟨(hc6 _ _ hXl).trans c1, (hc6 _ _ gB).trans q0, (hc6 _ _ gB').trans q1, (hc6 _ _ gB').trans q2⟩ | exact ⟨(hc7 _ _ hXl).trans c1, (hc7 _ _ gB).trans q0, (hc7 _ _ gB').trans q1, (hc7 _ _ gB').trans q2⟩) (first
        | (go_at_call 14; refine (hne' _ (by go_grown)).mono ?_; rintro e w4 ⟨v4, rfl, own4, b4⟩; have M4 : Below wa.heap.size wa w4 := Below.trans (by go_grown) b4; obtain ⟨hc4, hf4⟩ := bcell M4)
        | (go_at_call_of 13 v4; refine (hh1 _ _ (reads_own own4)).mono ?_; rintro e w5 ⟨rfl, b5⟩; have M5 : Below wa.heap.size wa w5 := M4.trans (b5.mono M4.size); obtain ⟨hc5, hf5⟩ := bcell M5)
        | (go_at_call 15; refine (hga' _ M5).mono ?_; rintro e w6 ⟨v6, rfl, own6, b6⟩; have M6 : Below wa.heap.size wa w6 := M5.trans (b6.mono M5.size); obtain ⟨hc6, hf6⟩ := bcell M6)
        | (go_at_call_of 13 v6; refine (hh2 _ _ (reads_own own6)).mono ?_; rintro e w7 ⟨rfl, b7⟩; have M7 : Below wa.heap.size wa w7 := M6.trans (b7.mono M6.size); obtain ⟨hc7, hf7⟩ := bcell M7))
      all_goals
        have DN := HD.out.step M7
        go_wp2
        go_roundw
        case rel => exact ⟨k + 1, by omega, by go_num, DN⟩
        case measure => simp [intOf]; omega
    · have hkk : k = LL.length := by omega
      subst hkk
      by_cases hA : A.length = 0
      · rw [hA]
        go_wp2
        go_ret
        exact ⟨rfl, D.bl⟩
      · have hAi : ¬ (A.length : Int) = 0 := by omega
        have hin : [f, gt] ∈ loopsAns ss := by
          rw [hLL]
          refine Classical.byContradiction (fun h => ?_)
          exact hA (by rw [HA0.out h]; rfl)
        have hB : IsBody ss f gt A := HA.out (by rw [← hLL]; exact hin)
        obtain ⟨j0, y0, _, hp, _, _, _, _⟩ := loops_in hin
        obtain ⟨hf, hg⟩ := body_in hin hB
        obtain ⟨R, hR1, hR2, hRl⟩ := reached_some ss
        have hR := hR1 hp
        have hgate : ∀ x ∈ A, x ∈ R → gt ∈ gatesL ss x := fun x hx hr => body_gate hin hB hx hR hr
        have hAin : ∀ x ∈ A, ∃ i : Nat, x = (i : Int) ∧ i < ss.length := fun x hx => by
          obtain ⟨f', g', i, e1, e2, e3, hbo⟩ := (hB.2 x).1 hx
          obtain ⟨_, f'', g'', e4, e5, h4, h5⟩ := loop_parts hin
          obtain rfl : f' = f'' := by omega
          obtain rfl : g' = g'' := by omega
          exact ⟨i, e3, hbo.lt h4 h5⟩
        have hm1 : A.any (fun x => decide (x = f)) = true := by rw [any_memL]; exact decide_eq_true hf
        have hm2 : A.any (fun x => decide (x = gt)) = true := by rw [any_memL]; exact decide_eq_true hg
        have hh1 := fun W hr => lawHas A f (.slice ba A.length bc) W hA' hr
        have hh2 := fun W hr => lawHas A gt (.slice ba A.length bc) W hA' hr
        rw [hm1] at hh1
        rw [hm2] at hh2
        have hiR := implReached ss R hR1 hR2
        have HG : Hid _ := hgate
        have HI : Hid _ := hAin
        clear hm1 hm2 hgate hAin hB hin hf hg hR HA HA0 HLi HLe hLL hL24
        go_wp2_with fail
        go_at_call 13
        refine (hh1 _ D.b).mono ?_
        rintro e w9 ⟨rfl, b9⟩
        have D9 := D.step b9
        go_wp2_with fail
        go_at_call 13
        refine (hh2 _ D9.b).mono ?_
        rintro e w10 ⟨rfl, b10⟩
        have D10 := D9.step b10
        clear D D9 b9 b10 hh1 hh2
        go_wp2_with fail
        go_loopw [9] (fun i wr => ∃ k : Nat, k ≤ A.length ∧ i = .int .i64 k ∧ LpS w1.heap.size (.slice ua un uc) ss (.slice ba A.length bc) (.slice la LL.length lc) A LL w wr) (fun i _ => A.length - (intOf i).toNat)
        case atStart => exact ⟨0, by omega, rfl, D10⟩
        case round =>
          obtain ⟨k, hk, rfl, D⟩ := hrel
          clear D10
          obtain ⟨wb, hwb⟩ : ∃ x, x = wr := ⟨_, rfl⟩
          subst wr
          by_cases hlt : k < A.length
          · have hlt' : (k : Int) < (A.length : Int) := by omega
            obtain ⟨i0, hi0, hi1⟩ := HI.out A[k] (by simp)
            have hgk := HG.out A[k] (by simp)
            obtain ⟨ao, cap, eb, hcb⟩ := id D.b
            simp only [Value.slice.injEq] at eb
            obtain ⟨rfl, hnn, rfl⟩ := eb
            clear hnn
            obtain ⟨g, off, rfl, q0⟩ := hcb k (.int .i64 A[k]) (by simp [ints, hlt])
            obtain ⟨c1, f1⟩ := oneCell D.box
            have hXl := (Array.getElem?_eq_some_iff.1 D.box).1
            have gB := World.block_lt_of_cell? wb _ q0
            have hre' := fun W (hW : Below wb.heap.size wb W) => hiR (.slice ua un uc) W hsl (reads3_below D.rd hW)
            have hga := implGates ss A[k] (gatesL ss A[k]) (fun _ => gatesL_is ss A[k]) (fun h => absurd (hasS_of hp hi1) (by rw [← hi0, h]; simp))
            have hga' := fun W (hW : Below wb.heap.size wb W) => hga (.slice ua un uc) W hsl (reads3_below D.rd hW)
            have hh1 := fun v W (hr : Reads W v (ints R)) => lawHas R (A[k]'hlt) v W (by unfold maxLen; omega) hr
            have hh2 := fun v W (hr : Reads W v (ints (gatesL ss (A[k]'hlt)))) => lawHas (gatesL ss (A[k]'hlt)) gt v W (by have := gatesL_length ss (A[k]'hlt); unfold maxLen; omega) hr
            rw [any_memL] at hh1 hh2
            have HD : Hid _ := D
            clear hga D hcb hi0 hi1
            generalize A[k] = xx at *
            generalize gatesL ss xx = Gx at *
            by_cases hin : xx ∈ R
            · rw [decide_eq_true hin] at hh1
              rw [decide_eq_true (hgk hin)] at hh2
              clear hgk hin
              go_wp2_with fail
              go_region_held3 (fun w' => w'.cell? ⟨w1.heap.size, 0, none⟩ = some (.slice ua un uc) ∧ w'.cell? ⟨g, off + k, none⟩ = some (.int .i64 xx))
                (first | exact ⟨c1, q0⟩ | exact ⟨(hc4 _ _ hXl).trans c1, (hc4 _ _ gB).trans q0⟩ | exact ⟨(hc5 _ _ hXl).trans c1, (hc5 _ _ gB).trans q0⟩ | exact ⟨(hc6 _ _ hXl).trans c1, (hc6 _ _ gB).trans q0⟩ | exact ⟨(hc7 _ _ hXl).trans c1, (hc7 _ _ gB).trans q0⟩) (first
                | (go_at_call 16; refine (hre' _ (by go_grown)).mono ?_; rintro e w4 ⟨v4, rfl, own4, b4⟩; have M4 : Below wb.heap.size wb w4 := Below.trans (by go_grown) b4; obtain ⟨hc4, hf4⟩ := bcell M4)
                | (go_at_call_of 13 v4; refine (hh1 _ _ (reads_own own4)).mono ?_; rintro e w5 ⟨rfl, b5⟩; have M5 : Below wb.heap.size wb w5 := M4.trans (b5.mono M4.size); obtain ⟨hc5, hf5⟩ := bcell M5)
                | (go_at_call 15; refine (hga' _ M5).mono ?_; rintro e w6 ⟨v6, rfl, own6, b6⟩; have M6 : Below wb.heap.size wb w6 := M5.trans (b6.mono M5.size); obtain ⟨hc6, hf6⟩ := bcell M6)
                | (go_at_call_of 13 v6; refine (hh2 _ _ (reads_own own6)).mono ?_; rintro e w7 ⟨rfl, b7⟩; have M7 : Below wb.heap.size wb w7 := M6.trans (b7.mono M6.size); obtain ⟨hc7, hf7⟩ := bcell M7))
              all_goals
                have DN := HD.out.step M7
                go_wp2
                go_roundw
                case rel => exact ⟨k + 1, by omega, by go_num, DN⟩
                case measure => simp [intOf]; omega
            · rw [decide_eq_false hin] at hh1
              clear hgk hin hh2 hga'
              go_wp2_with fail
              refine wp_region_held_drew (S := fun w' => w'.cell? ⟨w1.heap.size, 0, none⟩ = some (.slice ua un uc) ∧ w'.cell? ⟨g, off + k, none⟩ = some (.int .i64 xx)) (by kernel_rfl) ⟨c1, q0⟩ (fun hHeld => ?_)
              refine wpAnyH_take (i := 0) (oi := ?oi0) (v := .agg #[.slice ua un uc]) ?hi0 (by kernel_rfl) (by kernel_rfl) (by kernel_rfl) ?hq0 ?hy0 hHeld ?hr0
              case hi0 =>
                simp only [List.getElem?_toArray, List.getElem?_cons_succ, List.getElem?_cons_zero]
                rfl
              case hq0 => exact fun _ _ _ h => h
              case hy0 => exact Or.inl ⟨by kernel_rfl, fun w hSw => by (obtain ⟨s1, s2⟩ := hSw; go_simp)⟩
              try simp only [Act.put, List.setIfInBounds_toArray, List.set_cons_zero, List.set_cons_succ]
              refine wpAnyH_take (i := 2) (oi := ?oi2) (v := .slice (some ⟨g, off, none⟩) A.length bc) ?hi2 (by kernel_rfl) (by kernel_rfl) (by kernel_rfl) ?hq2 ?hy2 hHeld ?hr2
              case hi2 =>
                simp only [List.getElem?_toArray, List.getElem?_cons_succ, List.getElem?_cons_zero]
                rfl
              case hq2 => exact fun _ _ _ h => h
              case hy2 => exact Or.inl ⟨by kernel_rfl, fun w hSw => by go_simp⟩
              try simp only [Act.put, List.setIfInBounds_toArray, List.set_cons_zero, List.set_cons_succ]
              refine wpAnyH_take (i := 3) (oi := ?oi3) (v := .int .i64 (k : Int)) ?hi3 (by kernel_rfl) (by kernel_rfl) (by kernel_rfl) ?hq3 ?hy3 hHeld ?hr3
              case hi3 =>
                simp only [List.getElem?_toArray, List.getElem?_cons_succ, List.getElem?_cons_zero]
                rfl
              case hq3 => exact fun _ _ _ h => h
              case hy3 => exact Or.inl ⟨by kernel_rfl, fun w hSw => by go_simp⟩
              try simp only [Act.put, List.setIfInBounds_toArray, List.set_cons_zero, List.set_cons_succ]
              refine wpAnyH_take (i := 4) (oi := ?oi4) (v := .pointer (some ⟨g, off + k, none⟩)) ?hi4 (by kernel_rfl) (by kernel_rfl) (by kernel_rfl) ?hq4 ?hy4 hHeld ?hr4
              case hi4 =>
                simp only [List.getElem?_toArray, List.getElem?_cons_succ, List.getElem?_cons_zero]
                rfl
              case hq4 => exact fun _ _ _ h => h
              case hy4 => exact Or.inl ⟨by kernel_rfl, fun w hSw => by go_simp⟩
              try simp only [Act.put, List.setIfInBounds_toArray, List.set_cons_zero, List.set_cons_succ]
              refine wpAnyH_take (i := 5) (oi := ?oi5) (v := .int .i64 xx) ?hi5 (by kernel_rfl) (by kernel_rfl) (by kernel_rfl) ?hq5 ?hy5 hHeld ?hr5
              case hi5 =>
                simp only [List.getElem?_toArray, List.getElem?_cons_succ, List.getElem?_cons_zero]
                rfl
              case hq5 => exact fun _ _ _ h => h
              case hy5 => exact Or.inl ⟨by kernel_rfl, fun w hSw => by (obtain ⟨s1, s2⟩ := hSw; go_simp)⟩
              try simp only [Act.put, List.setIfInBounds_toArray, List.set_cons_zero, List.set_cons_succ]
              refine wpAnyH_ready (rs := [1]) (by kernel_rfl) (by simp) ?_
              refine AllReadyH.cons (o := ?oo1) ?ho1 (fun K hK => ?_) AllReadyH.nil
              case ho1 =>
                simp only [List.getElem?_toArray, List.getElem?_cons_succ, List.getElem?_cons_zero]
                rfl
              go_simp
              go_at_call 16
              refine (hre' _ (by go_grown)).mono ?_
              rintro e w4 ⟨v4, rfl, own4, b4⟩
              have M4 : Below wb.heap.size wb w4 := Below.trans (by go_grown) b4
              obtain ⟨hc4, hf4⟩ := bcell M4
              go_wp2_with fail
              refine hK.out _ _ ⟨(hc4 _ _ hXl).trans c1, (hc4 _ _ gB).trans q0⟩ (fun hHeld => ?_)
              clear hK K
              try simp only [Act.put, List.setIfInBounds_toArray, List.set_cons_zero, List.set_cons_succ]
              refine wpAnyH_ready (rs := [6]) (by kernel_rfl) (by simp) ?_
              refine AllReadyH.cons (o := ?oo6) ?ho6 (fun K hK => ?_) AllReadyH.nil
              case ho6 =>
                simp only [List.getElem?_toArray, List.getElem?_cons_succ, List.getElem?_cons_zero]
                rfl
              go_simp
              go_at_call 13
              refine (hh1 _ _ (reads_own own4)).mono ?_
              rintro e w5 ⟨rfl, b5⟩
              have M5 : Below wb.heap.size wb w5 := M4.trans (b5.mono M4.size)
              obtain ⟨hc5, hf5⟩ := bcell M5
              go_wp2_with fail
              refine hK.out _ _ ⟨(hc5 _ _ hXl).trans c1, (hc5 _ _ gB).trans q0⟩ (fun hHeld => ?_)
              clear hK K
              try simp only [Act.put, List.setIfInBounds_toArray, List.set_cons_zero, List.set_cons_succ]
              refine wpAnyH_take (i := 7) (oi := ?oi7) (v := .bool false) ?hi7 (by kernel_rfl) (by kernel_rfl) (by kernel_rfl) ?hq7 ?hy7 hHeld ?hr7
              case hi7 =>
                simp only [List.getElem?_toArray, List.getElem?_cons_succ, List.getElem?_cons_zero]
                rfl
              case hq7 => exact fun _ _ _ h => h
              case hy7 => exact Or.inl ⟨by kernel_rfl, fun w hSw => by go_simp⟩
              try simp only [Act.put, List.setIfInBounds_toArray, List.set_cons_zero, List.set_cons_succ]
              refine wpAnyH_take (i := 8) (oi := ?oi8) (v := undef) ?hi8 (by kernel_rfl) (by kernel_rfl) (by kernel_rfl) ?hq8 ?hy8 hHeld ?hr8
              case hi8 =>
                simp only [List.getElem?_toArray, List.getElem?_cons_succ, List.getElem?_cons_zero]
                rfl
              case hq8 => exact fun _ _ _ h => h
              case hy8 => exact Or.inr ⟨by kernel_rfl, rfl⟩
              try simp only [Act.put, List.setIfInBounds_toArray, List.set_cons_zero, List.set_cons_succ]
              refine wpAnyH_take (i := 9) (oi := ?oi9) (v := undef) ?hi9 (by kernel_rfl) (by kernel_rfl) (by kernel_rfl) ?hq9 ?hy9 hHeld ?hr9
              case hi9 =>
                simp only [List.getElem?_toArray, List.getElem?_cons_succ, List.getElem?_cons_zero]
                rfl
              case hq9 => exact fun _ _ _ h => h
              case hy9 => exact Or.inr ⟨by kernel_rfl, rfl⟩
              try simp only [Act.put, List.setIfInBounds_toArray, List.set_cons_zero, List.set_cons_succ]
              refine wpAnyH_take (i := 10) (oi := ?oi10) (v := undef) ?hi10 (by kernel_rfl) (by kernel_rfl) (by kernel_rfl) ?hq10 ?hy10 hHeld ?hr10
              case hi10 =>
                simp only [List.getElem?_toArray, List.getElem?_cons_succ, List.getElem?_cons_zero]
                rfl
              case hq10 => exact fun _ _ _ h => h
              case hy10 => exact Or.inr ⟨by kernel_rfl, rfl⟩
              try simp only [Act.put, List.setIfInBounds_toArray, List.set_cons_zero, List.set_cons_succ]
              refine wpAnyH_take (i := 11) (oi := ?oi11) (v := undef) ?hi11 (by kernel_rfl) (by kernel_rfl) (by kernel_rfl) ?hq11 ?hy11 hHeld ?hr11
              case hi11 =>
                simp only [List.getElem?_toArray, List.getElem?_cons_succ, List.getElem?_cons_zero]
                rfl
              case hq11 => exact fun _ _ _ h => h
              case hy11 => exact Or.inr ⟨by kernel_rfl, rfl⟩
              try simp only [Act.put, List.setIfInBounds_toArray, List.set_cons_zero, List.set_cons_succ]
              refine wpAnyH_take (i := 12) (oi := ?oi12) (v := undef) ?hi12 (by kernel_rfl) (by kernel_rfl) (by kernel_rfl) ?hq12 ?hy12 hHeld ?hr12
              case hi12 =>
                simp only [List.getElem?_toArray, List.getElem?_cons_succ, List.getElem?_cons_zero]
                rfl
              case hq12 => exact fun _ _ _ h => h
              case hy12 => exact Or.inr ⟨by kernel_rfl, rfl⟩
              try simp only [Act.put, List.setIfInBounds_toArray, List.set_cons_zero, List.set_cons_succ]
              refine wpAnyH_take (i := 13) (oi := ?oi13) (v := undef) ?hi13 (by kernel_rfl) (by kernel_rfl) (by kernel_rfl) ?hq13 ?hy13 hHeld ?hr13
              case hi13 =>
                simp only [List.getElem?_toArray, List.getElem?_cons_succ, List.getElem?_cons_zero]
                rfl
              case hq13 => exact fun _ _ _ h => h
              case hy13 => exact Or.inr ⟨by kernel_rfl, rfl⟩
              try simp only [Act.put, List.setIfInBounds_toArray, List.set_cons_zero, List.set_cons_succ]
              refine wpAnyH_take (i := 14) (oi := ?oi14) (v := undef) ?hi14 (by kernel_rfl) (by kernel_rfl) (by kernel_rfl) ?hq14 ?hy14 hHeld ?hr14
              case hi14 =>
                simp only [List.getElem?_toArray, List.getElem?_cons_succ, List.getElem?_cons_zero]
                rfl
              case hq14 => exact fun _ _ _ h => h
              case hy14 => exact Or.inr ⟨by kernel_rfl, rfl⟩
              try simp only [Act.put, List.setIfInBounds_toArray, List.set_cons_zero, List.set_cons_succ]
              refine wpAnyH_take (i := 15) (oi := ?oi15) (v := undef) ?hi15 (by kernel_rfl) (by kernel_rfl) (by kernel_rfl) ?hq15 ?hy15 hHeld ?hr15
              case hi15 =>
                simp only [List.getElem?_toArray, List.getElem?_cons_succ, List.getElem?_cons_zero]
                rfl
              case hq15 => exact fun _ _ _ h => h
              case hy15 => exact Or.inr ⟨by kernel_rfl, rfl⟩
              try simp only [Act.put, List.setIfInBounds_toArray, List.set_cons_zero, List.set_cons_succ]
              refine wpAnyH_take (i := 16) (oi := ?oi16) (v := undef) ?hi16 (by kernel_rfl) (by kernel_rfl) (by kernel_rfl) ?hq16 ?hy16 hHeld ?hr16
              case hi16 =>
                simp only [List.getElem?_toArray, List.getElem?_cons_succ, List.getElem?_cons_zero]
                rfl
              case hq16 => exact fun _ _ _ h => h
              case hy16 => exact Or.inr ⟨by kernel_rfl, rfl⟩
              try simp only [Act.put, List.setIfInBounds_toArray, List.set_cons_zero, List.set_cons_succ]
              refine wpAnyH_take (i := 17) (oi := ?oi17) (v := .bool false) ?hi17 (by kernel_rfl) (by kernel_rfl) (by kernel_rfl) ?hq17 ?hy17 hHeld ?hr17
              case hi17 =>
                simp only [List.getElem?_toArray, List.getElem?_cons_succ, List.getElem?_cons_zero]
                rfl
              case hq17 => exact fun _ _ _ h => h
              case hy17 => exact Or.inl ⟨by kernel_rfl, fun w hSw => by go_simp⟩
              try simp only [Act.put, List.setIfInBounds_toArray, List.set_cons_zero, List.set_cons_succ]
              refine wpAnyH_done (by kernel_rfl) ?_ _
              have DN := HD.out.step M5
              clear hHeld hc4 hc5 hf4 hf5 own4 b4 b5 M4 M5
              go_wp2
              go_roundw
              case rel => exact ⟨k + 1, by omega, by go_num, DN⟩
              case measure => simp [intOf]; omega
          · have hkk : k = A.length := by omega
            subst hkk
            go_wp2
            go_ret
            exact ⟨rfl, D.bl⟩

set_option maxRecDepth 100000 in
theorem liftedFnLoops (os : Os) (started : os.Started) (H : Type) (enc : TypeId × Value → H) :
    ReturnsInHanded {} Try.checked os 3 .any (Rows.fnLoopsSpec.pre6 enc Try.prog Try.f3 Rows.fnLoopsRow.domain false) (Rows.fnLoopsSpec.post enc Try.prog Try.f3 false true false false) := by
  refine returnsInHanded_of_change (C := Try.checked) own started (by kernel_rfl) Try.func3
    (ChangeSpec.witness6 (enc := enc) (C := Try.checked) false ⟨#[], #[.slice none 0 0], []⟩ 8 (by kernel_rfl) (by kernel_rfl) (by kernel_rfl) (by kernel_rfl)) ?_
  intro W base args ds gs before hval0 hW hcnd _
  have hval : ∀ (j : Nat) t v, Try.f3.params[j]? = some t → args[j]? = some v → Value.okWide Try.prog W .any base t v := hval0
  have hW' := hW
  obtain ⟨p, q, hA0, hV, rfl, hfz, hnd⟩ := hW
  have hA : DataW.TrodAll enc Try.prog W 0 (fun _ => true) true Try.f3.params.toList args.toList ds p := hA0
  rw [Try.params3] at hA hval
  obtain ⟨v0, vs0, d0, ds0, p0, q0, hargs, rfl, rfl, h0, r0⟩ := trodAll_cons hA
  obtain ⟨rfl, rfl, rfl⟩ := trodAll_nil r0
  obtain rfl : args = #[v0] := by cases args; simp_all
  obtain ⟨rfl, rfl⟩ := trodVars_none hV
  obtain ⟨bs, hr, hl, hs⟩ := open_code Try.underlying22 Try.underlying5 cellsByte (hval 0 22 v0 rfl rfl) h0
  refine (walkFnLoops bs v0 W hl hr).mono fun e W' ⟨he, hb⟩ => ?_
  subst he
  refine ⟨_, rfl, law_post (tb := 4) laidOut ?_ hW' rfl Try.underlying4 rfl rfl hb⟩
  exact all_readable (P := Try.prog) (by kernel_rfl)

theorem overFnLoops : Rows.fnLoopsRow.holds Try.pinned (OpenSpec.ofChange Rows.fnLoopsSpec) :=
  OpenClaim.holds_of_wide 3 Try.f3 rfl rfl rfl rfl rfl rfl rfl ⟨rfl, rfl, rfl, rfl, rfl⟩ rfl rfl rfl rfl rfl (by kernel_rfl) Try.func3 (by kernel_rfl)
    (of_decide_eq_true (by kernel_rfl)) (by unfold Func.isWrapper; first | (rw [if_pos (by decide +kernel)]; kernel_rfl) | (rw [if_neg (by decide +kernel)]; exact ⟨rfl, rfl⟩))
    (fun os started H enc _ => liftedFnLoops os started H enc)

/-- ████ THE STATEMENT ████ -/
theorem loopsHold : Rows.FnLoopsSaid :=
  overFnLoops
#print axioms loopsHold

end Go.Proofs.Ytjlfmjoallnojad
