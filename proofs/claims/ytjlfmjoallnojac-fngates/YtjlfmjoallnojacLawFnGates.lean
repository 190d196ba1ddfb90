/-
  The law FnGates: a gate is on every way, one that is none has a way beside it, and the gate of one has all its others.
-/
import Derived.Test.YtjlfmjoallnojacGatesMath
import Derived.Test.YtjlfmjoallnojacDrawNext
import Derived.Test.YtjlfmjoallnojacGateBoth
import Derived.Test.YtjlfmjoallnojacGatesBoth
import Derived.Test.YtjlfmjoallnojacReachedBoth
import Derived.Test.YtjlfmjoallnojacIntLaws
import Derived.Test.YtjlfmjoallnojacOpenCode
import Derived.Deep.RegionHeld3
namespace Go.Proofs.Ytjlfmjoallnojac
open Go.ChangeShapes Go.WideShapes Go.ChangeAt Go.RowKit
set_option linter.unusedVariables false
set_option linter.unusedSimpArgs false

/-- What the law holds between its steps. -/
structure GaS (X base : Nat) (u : Value) (ss : List Stm) (gv : Value) (A : List Int) (lv : Value) (us : List Value) (LL : List (List Int)) (w wr : World) : Prop where
  box : wr.heap[X]? = some (.cells #[u] 26 (0, 0))
  rd : Reads3 wr u ss
  g : Reads wr gv (ints A)
  l : OwnSS wr base lv us LL
  bl : Below w.heap.size w wr

theorem GaS.step {X base : Nat} {u : Value} {ss : List Stm} {gv : Value} {A : List Int} {lv : Value} {us : List Value} {LL : List (List Int)} {w wr wr' : World} (h : GaS X base u ss gv A lv us LL w wr) (hb : Below wr.heap.size wr wr') : GaS X base u ss gv A lv us LL w wr' :=
  ⟨(hb.block X (Array.getElem?_eq_some_iff.1 h.box).1).trans h.box, reads3_below h.rd hb, reads_below h.g hb, h.l.below hb, h.bl.trans (hb.mono h.bl.size)⟩

/-- .. ahead of the ways. -/
structure GbS (X : Nat) (u : Value) (ss : List Stm) (gv : Value) (A : List Int) (w wr : World) : Prop where
  box : wr.heap[X]? = some (.cells #[u] 26 (0, 0))
  rd : Reads3 wr u ss
  g : Reads wr gv (ints A)
  bl : Below w.heap.size w wr

theorem GbS.step {X : Nat} {u : Value} {ss : List Stm} {gv : Value} {A : List Int} {w wr wr' : World} (h : GbS X u ss gv A w wr) (hb : Below wr.heap.size wr wr') : GbS X u ss gv A w wr' :=
  ⟨(hb.block X (Array.getElem?_eq_some_iff.1 h.box).1).trans h.box, reads3_below h.rd hb, reads_below h.g hb, h.bl.trans (hb.mono h.bl.size)⟩

theorem readsSS_of {w : World} {base : Nat} {v : Value} {us : List Value} {xss : List (List Int)} (h : OwnSS w base v us xss) : ∃ ao cap, v = .slice ao xss.length cap ∧ True := by
  rcases h.row.2 with ⟨h1, e⟩ | ⟨b, c, d, h1, _⟩
  · exact ⟨none, 0, by rw [h1, e], trivial⟩
  · exact ⟨_, _, h1, trivial⟩

theorem la_some {w : World} {base : Nat} {la : Option Addr} {lc : Nat} {us : List Value} {LL : List (List Int)} (h : OwnSS w base (.slice la LL.length lc) us LL) (hl : 0 < LL.length) : ∃ gl, la = some ⟨gl, 0, none⟩ := by
  rcases h.row.2 with ⟨h1, e⟩ | ⟨b, c, d, h1, _⟩
  · omega
  · simp at h1
    exact ⟨b, h1.1⟩

theorem reads_atG {w : World} {a : Option Addr} {n c : Nat} {xs : List Int} (h : Reads w (.slice a n c) (ints xs)) {j : Nat} (hj : j < xs.length) : ∃ g off, a = some ⟨g, off, none⟩ ∧ w.cell? ⟨g, off + j, none⟩ = some (.int .i64 xs[j]) := by
  obtain ⟨ao, cap, e, hc⟩ := h
  simp only [Value.slice.injEq] at e
  obtain ⟨rfl, hn, rfl⟩ := e
  exact hc j (.int .i64 xs[j]) (by simp [ints, hj])

theorem any_memG (xs : List Int) (n : Int) : xs.any (fun x => decide (x = n)) = decide (n ∈ xs) := by
  rw [Bool.eq_iff_iff]
  simp

theorem rises_ofG : ∀ {xs : List Int}, xs.Pairwise (· < ·) → Rises xs
  | [], _, j, x, y, h, _ => by simp at h
  | a :: xs, hp, 0, x, y, h, h' => by
    simp at h h'
    subst h
    have := (List.pairwise_cons.1 hp).1
    exact this y (List.mem_of_getElem? h')
  | a :: xs, hp, j + 1, x, y, h, h' => by
    simp at h h'
    exact rises_ofG (List.pairwise_cons.1 hp).2 j x y h h'

theorem waysAns_eachG {ss : List Stm} {i : Int} {xs : List Int} (h : xs ∈ waysAns ss i 7) : xs.length ≤ 10 := by
  obtain ⟨hp, _, hm⟩ := waysAns_partsG h
  obtain ⟨k, hk, hl, _⟩ := waysTo_inG hm
  have := (levs_mem hp k xs hl).1
  have h7 : k < 7 := hk
  omega

theorem waysAns_lenG (ss : List Stm) (i : Int) : (waysAns ss i 7).length ≤ 5000 := by
  unfold waysAns
  split
  · have := waysTo_small ss i 7 (by omega)
    have e : (7 : Int).toNat = 7 := rfl
    rw [e]
    omega
  · simp

set_option maxRecDepth 20000 in
set_option maxHeartbeats 16000000 in
theorem walkFnGates (bs : List Int) (v : Value) (w : World) (hl : bs.length ≤ maxLen) (hv : Reads w v (bs.map (Value.int .u8))) :
    Calls Try.prog 3 #[v] w fun e w' => e = .returned (.bool true) ∧ Below w.heap.size w w' := by
  have hbig := lawBig bs v w hl hv
  by_cases hb : (4096 : Int) < (bs.length : Int)
  · rw [decide_eq_true hb] at hbig
    go_enter Try.func3, Try.ntmps3
    go_wp2_with (go_at_call 4; refine hbig.mono ?_; rintro e w1 ⟨rfl, rfl⟩)
    go_ret
    exact ⟨rfl, Below.refl _ _⟩
  rw [decide_eq_false hb] at hbig
  go_enter Try.func3, Try.ntmps3
  go_wp2_with fail
  go_at_call 4
  refine hbig.mono ?_
  rintro e w1 ⟨rfl, rfl⟩
  clear hbig
  go_wp2_with fail
  go_at_call 5
  refine (drawGates bs v w (by omega) hv).mono ?_
  rintro e w1 ⟨u, ss, n, rfl, h1, h7, ou, b1⟩
  clear hv
  have hsl : ss.length ≤ maxLen := by unfold maxLen; omega
  have L1 : Below w.heap.size w (w1.alloc (.cells #[u] 26)) := b1.alloc b1.size _
  have X1 := heap_alloc_new w1 (.cells #[u] 26)
  have r1 := reads3_own (ou.alloc (.cells #[u] 26))
  have z1 : (w1.alloc (.cells #[u] 26)).heap.size = w1.heap.size + 1 := by simp
  obtain ⟨ua, un, uc, hu⟩ := ownSlice ou
  have hun : un = ss.length := by
    have := reads3_own ou
    rw [hu] at this
    obtain ⟨_, _, e, _⟩ := this
    simp at e
    exact e.2.1
  subst hu
  subst hun
  obtain ⟨c1, f1⟩ := oneCell X1
  obtain ⟨A, hA⟩ : ∃ A, A = if hasS ss n = true then gatesL ss n else [] := ⟨_, rfl⟩
  have hA1 : hasS ss n = true → IsGates ss n A := fun h => by rw [hA, if_pos h]; exact gatesL_is ss n
  have hA0 : hasS ss n = false → A = [] := fun h => by rw [hA, h]; rfl
  have hAl : A.length ≤ 12 := by
    rw [hA]
    split
    · have := gatesL_length ss n; omega
    · simp
  have hA' : A.length ≤ maxLen := by unfold maxLen; omega
  have hAs : Rises A := by
    refine rises_ofG ?_
    rw [hA]
    split
    · exact (gatesL_is ss n).1
    · exact List.Pairwise.nil
  have hig := implGates ss n A hA1 hA0
  have hsg := specGates ss n A hA1 hA0
  have hid := implGate ss n
  have hsd := specGate ss n
  obtain ⟨R, hR1, hR2, hRl⟩ := reached_some ss
  have hiR := implReached ss R hR1 hR2
  have HE : Hid (A = [] → gateAns ss n = -1 ∧ n ∉ R) := fun hnil => by
    have hgn : hasS ss n = true → gatesL ss n = [] := fun h => by rw [hA, if_pos h] at hnil; exact hnil
    refine ⟨gate_none hgn, fun hin => ?_⟩
    cases hp : procOk ss
    · rw [hR2 hp] at hin; simp at hin
    · obtain ⟨i, rfl, hr⟩ := ((hR1 hp).2 n).1 hin
      have hh : hasS ss (i : Int) = true := by unfold hasS wiB; simp [hp, hr.lt hp]
      exact none_reached hp (hgn hh) ⟨i, rfl, hr⟩
  have HN : Hid (A ≠ [] → procOk ss = true ∧ hasS ss n = true ∧ A = gatesL ss n) := fun hne => by
    cases hh : hasS ss n
    · exact absurd (hA0 hh) hne
    · exact ⟨(hasS_true hh).1, rfl, by rw [hA, if_pos hh]⟩
  clear hA hA1 hA0 hR1 hR2
  obtain ⟨d, hd⟩ : ∃ d, gateAns ss n = d := ⟨_, rfl⟩
  rw [hd] at hid hsd
  go_wp2_with fail
  go_at_call 6
  refine (hig _ _ hsl r1).mono ?_
  rintro e w2 ⟨gv, rfl, og, b2⟩
  have D2 : GbS w1.heap.size (.slice ua ss.length uc) ss gv A w w2 := ⟨(b2.block w1.heap.size (by omega)).trans X1, reads3_below r1 b2, reads_own og, L1.trans (b2.mono L1.size)⟩
  clear c1 f1 X1 r1 hig og L1 b1 ou b2
  obtain ⟨c1, f1⟩ := oneCell D2.box
  go_wp2_with fail
  go_at_call 7
  refine (hid _ _ hsl D2.rd).mono ?_
  rintro e w3 ⟨rfl, b3⟩
  have D3 := D2.step b3
  clear D2 b3 c1 f1 hid
  obtain ⟨c1, f1⟩ := oneCell D3.box
  obtain ⟨ga, gc, rfl⟩ : ∃ ga gc, gv = .slice ga A.length gc := by
    obtain ⟨ao, cap, e, _⟩ := D3.g
    rw [ints_length] at e
    exact ⟨ao, cap, e⟩
  go_wp2_with fail
  go_at_call 9
  refine (hsg _ _ hsl D3.rd).mono ?_
  rintro e w4 ⟨sg, rfl, osg, b4⟩
  have D4 := D3.step b4
  go_wp2_with fail
  go_at_call 8
  refine (likeInts A _ _ w4 hA' D4.g (reads_own osg)).mono ?_
  rintro e w5 ⟨rfl, b5⟩
  have D5 := D4.step b5
  clear D3 D4 b4 b5 osg hsg c1 f1
  obtain ⟨c1, f1⟩ := oneCell D5.box
  go_wp2_with fail
  go_at_call 10
  refine (hsd _ _ hsl D5.rd).mono ?_
  rintro e w6 ⟨rfl, b6⟩
  have D6 := D5.step b6
  clear D5 b6 hsd c1 f1
  go_wp2_with fail
  go_at_call 11
  refine (lawRises A _ w6 hA' hAs D6.g).mono ?_
  rintro e w7 ⟨rfl, b7⟩
  have D7 := D6.step b7
  clear D6 b7
  obtain ⟨c1, f1⟩ := oneCell D7.box
  have hRm : R.length ≤ maxLen := by unfold maxLen; omega
  by_cases hA0 : A.length = 0
  · have hAi : (A.length : Int) = 0 := by omega
    obtain ⟨hd1, hnR⟩ := HE.out (List.length_eq_zero_iff.1 hA0)
    rw [hd] at hd1
    subst hd1
    have hHr := fun v W (hr : Reads W v (ints R)) => lawHas R n v W hRm hr
    rw [any_memG, decide_eq_false hnR] at hHr
    rw [hA0]
    go_wp2_with fail
    go_at_call 13
    refine (hiR _ _ hsl D7.rd).mono ?_
    rintro e w8 ⟨rv, rfl, orr, b8⟩
    have D8 := D7.step b8
    go_wp2_with fail
    go_at_call 12
    refine (hHr _ _ (reads_own orr)).mono ?_
    rintro e w9 ⟨rfl, b9⟩
    have D9 := D8.step b9
    clear D7 D8 b8 b9 orr
    go_wp2
    go_ret
    exact ⟨rfl, D9.bl⟩
  · have hAi : ¬ (A.length : Int) = 0 := by omega
    obtain ⟨hp, hh, hAg⟩ := HN.out (fun e => hA0 (by rw [e]; rfl))
    have hgne : gatesL ss n ≠ [] := fun e => hA0 (by rw [hAg, e]; rfl)
    have hsw := specWays ss n 7
    have hWl := waysAns_lenG ss n
    have hWe := fun xs (h : xs ∈ waysAns ss n 7) => waysAns_eachG h
    have hon := fun xs (h : xs ∈ waysAns ss n 7) x (hx : x ∈ A) => gate_on_way h (by rw [← hAg]; exact hx)
    have hbe := fun (k : Nat) (hk : k < ss.length) (hn : (k : Int) ∉ A) => way_beside hp h7 hgne hk (by rw [← hAg]; exact hn)
    obtain ⟨hg0, hgn⟩ := gates_ends hp hgne
    rw [← hAg] at hg0 hgn
    have hgf := gate_facts hh hgne
    rw [hd, ← hAg] at hgf
    have H1 : Hid _ := hWe
    have H2 : Hid _ := hon
    have H3 : Hid _ := hbe
    have H4 : Hid _ := hgf
    have H5 : Hid (A = gatesL ss n) := hAg
    clear hWe hon hbe hgf HE HN hAg hgne hh
    go_wp2_with fail
    go_at_call 14
    refine (hsw _ _ hsl D7.rd).mono ?_
    rintro e w8 ⟨lv, us, rfl, ol, b8⟩
    have D8 : GaS w1.heap.size w7.heap.size (.slice ua ss.length uc) ss (.slice ga A.length gc) A lv us (waysAns ss n 7) w w8 := by
      have E := D7.step b8
      exact ⟨E.box, E.rd, E.g, ol, E.bl⟩
    clear D7 ol b8 hsw c1 f1
    generalize waysAns ss n 7 = LL at *
    obtain ⟨la, lc, rfl⟩ : ∃ la lc, lv = .slice la LL.length lc := by
      obtain ⟨ao, cap, e, _⟩ := readsSS_of D8.l
      exact ⟨ao, cap, e⟩
    go_wp2_with fail
    go_loopw [8] (fun i wr => ∃ k : Nat, k ≤ LL.length ∧ i = .int .i64 k ∧ GaS w1.heap.size w7.heap.size (.slice ua ss.length uc) ss (.slice ga A.length gc) A (.slice la LL.length lc) us LL w wr) (fun i _ => LL.length - (intOf i).toNat)
    case atStart => exact ⟨0, by omega, rfl, D8⟩
    case round =>
      obtain ⟨k, hk, rfl, D⟩ := hrel
      clear D8
      obtain ⟨wa, hwa⟩ : ∃ x, x = wr := ⟨_, rfl⟩
      subst wr
      by_cases hlt : k < LL.length
      · have hlt' : (k : Int) < (LL.length : Int) := by omega
        go_wp2_with fail
        go_loopw [9] (fun i wr => ∃ q : Nat, q ≤ A.length ∧ i = .int .i64 q ∧ GaS w1.heap.size w7.heap.size (.slice ua ss.length uc) ss (.slice ga A.length gc) A (.slice la LL.length lc) us LL w wr) (fun i _ => A.length - (intOf i).toNat)
        case atStart => exact ⟨0, by omega, rfl, D⟩
        case round =>
          obtain ⟨q, hq, rfl, E⟩ := hrel
          clear D
          obtain ⟨wb, hwb⟩ : ∃ x, x = wr := ⟨_, rfl⟩
          subst wr
          by_cases hqt : q < A.length
          · have hqt' : (q : Int) < (A.length : Int) := by omega
            obtain ⟨gl, rfl⟩ : ∃ gl, la = some ⟨gl, 0, none⟩ := la_some E.l (by omega)
            obtain ⟨uk, _, p0, ok0⟩ := E.l.at hlt
            obtain ⟨g, off, rfl, q0⟩ := reads_atG E.g hqt
            have hlm : LL[k].length ≤ maxLen := by have := H1.out LL[k] (by simp); unfold maxLen; omega
            have hhk := fun W (hW : Below wb.heap.size wb W) => lawHas LL[k] A[q] uk W hlm (reads_below (reads_own ok0) hW)
            rw [any_memG, decide_eq_true (H2.out LL[k] (by simp) A[q] (by simp))] at hhk
            have gB := World.block_lt_of_cell? wb _ p0
            have gB' := World.block_lt_of_cell? wb _ q0
            have HD : Hid _ := E
            clear E ok0
            generalize A[q] = xx at *
            go_wp2_with fail
            go_region_held3 (fun w' => w'.cell? ⟨gl, k, none⟩ = some uk ∧ w'.cell? ⟨g, off + q, none⟩ = some (.int .i64 xx)) (first | exact ⟨p0, q0⟩ | exact ⟨(hc4 _ _ gB).trans p0, (hc4 _ _ gB').trans q0⟩) (first
              | (go_at_call 12; refine (hhk _ (by go_grown)).mono ?_; rintro e w4 ⟨rfl, b4⟩; have M4 : Below wb.heap.size wb w4 := Below.trans (by go_grown) b4; obtain ⟨hc4, hf4⟩ := bcell M4))
            all_goals
              have DN := HD.out.step M4
              go_wp2
              go_roundw
              case rel => exact ⟨q + 1, by omega, by go_num, DN⟩
              case measure => simp [intOf]; omega
          · have hqq : q = A.length := by omega
            subst hqq
            go_wp2
            go_roundw
            case rel => exact ⟨k + 1, by omega, by go_num, E⟩
            case measure => simp [intOf]; omega
      · have hkk : k = LL.length := by omega
        subst hkk
        have hh0 := fun W (hr : Reads W (.slice ga A.length gc) (ints A)) => lawHas A 0 (.slice ga A.length gc) W hA' hr
        have hhn := fun W (hr : Reads W (.slice ga A.length gc) (ints A)) => lawHas A n (.slice ga A.length gc) W hA' hr
        rw [any_memG, decide_eq_true hg0] at hh0
        rw [any_memG, decide_eq_true hgn] at hhn
        have hs7 : (ss.length : Int) ≤ 7 := by omega
        have hfin : ∀ W, GaS w1.heap.size w7.heap.size (.slice ua ss.length uc) ss (.slice ga A.length gc) A (.slice la LL.length lc) us LL w W → True := fun _ _ => trivial
        clear hfin
        by_cases hn0 : n = 0
        · have hdm := H4.out.1 hn0
          subst hn0 hdm
          go_wp2_with fail
          go_at_call 12
          refine (hh0 _ D.g).mono ?_
          rintro e w9 ⟨rfl, b9⟩
          have D9 := D.step b9
          go_wp2_with fail
          go_at_call 12
          refine (hhn _ D9.g).mono ?_
          rintro e w10 ⟨rfl, b10⟩
          have D10 := D9.step b10
          clear D D9 b9 b10 hh0 hhn
          obtain ⟨c1, f1⟩ := oneCell D10.box
          go_wp2_with fail
          go_loopw [10] (fun i wr => ∃ k : Nat, k ≤ ss.length ∧ i = .int .i64 k ∧ GaS w1.heap.size w7.heap.size (.slice ua ss.length uc) ss (.slice ga A.length gc) A (.slice la LL.length lc) us LL w wr) (fun i _ => ss.length - (intOf i).toNat)
          case atStart => exact ⟨0, by omega, rfl, D10⟩
          case round =>
            obtain ⟨k, hk, rfl, E⟩ := hrel
            clear D10 c1 f1
            obtain ⟨wa2, hwa2⟩ : ∃ x, x = wr := ⟨_, rfl⟩
            subst wr
            obtain ⟨c1, f1⟩ := oneCell E.box
            by_cases hlt : k < ss.length
            · have hlt' : (k : Int) < (ss.length : Int) := by omega
              go_wp2_with fail
              go_loopw [11, 12] (fun b i wr => ∃ (q : Nat) (bb : Bool), q ≤ LL.length ∧ i = .int .i64 q ∧ b = .bool bb ∧ (bb = true ↔ ∃ xs ∈ LL.take q, (k : Int) ∉ xs) ∧ GaS w1.heap.size w7.heap.size (.slice ua ss.length uc) ss (.slice ga A.length gc) A (.slice la LL.length lc) us LL w wr) (fun _ i _ => LL.length - (intOf i).toNat)
              case atStart => exact ⟨0, false, by omega, rfl, rfl, by simp, E⟩
              case round =>
                obtain ⟨q, bb, hq, rfl, rfl, hbb, F⟩ := hrel
                clear E c1 f1
                obtain ⟨wb, hwb⟩ : ∃ x, x = wr := ⟨_, rfl⟩
                subst wr
                by_cases hqt : q < LL.length
                · have hqt' : (q : Int) < (LL.length : Int) := by omega
                  have HTK : Hid (∀ xs, xs ∈ LL.take (q + 1) ↔ xs ∈ LL.take q ∨ xs = LL[q]) := fun xs => by
                    rw [List.take_add_one, List.getElem?_eq_getElem hqt, List.mem_append]
                    simp only [Option.toList, List.mem_singleton]
                  have HBB : Hid _ := hbb
                  clear hbb
                  cases bb
                  · obtain ⟨gl, rfl⟩ : ∃ gl, la = some ⟨gl, 0, none⟩ := la_some F.l (by omega)
                    obtain ⟨uq, _, p0, oq0⟩ := F.l.at hqt
                    have hlm : LL[q].length ≤ maxLen := by have := H1.out LL[q] (by simp); unfold maxLen; omega
                    have hhq := fun W (hW : Below wb.heap.size wb W) => lawHas LL[q] (k : Int) uq W hlm (reads_below (reads_own oq0) hW)
                    rw [any_memG] at hhq
                    have gB := World.block_lt_of_cell? wb _ p0
                    have HD : Hid _ := F
                    clear F oq0
                    by_cases hm : (k : Int) ∈ LL[q]
                    · rw [decide_eq_true hm] at hhq
                      go_wp2_with fail
                      go_at_call 12
                      refine (hhq _ (Below.refl _ _)).mono ?_
                      rintro e w4 ⟨rfl, b4⟩
                      have M4 : Below wb.heap.size wb w4 := b4
                      have DN := HD.out.step M4
                      clear M4 b4
                      go_wp2
                      go_roundw
                      case rel =>
                        refine ⟨q + 1, false, by omega, by go_num, rfl, ⟨fun h => absurd h (by simp), ?_⟩, DN⟩
                        rintro ⟨xs, hx, hn⟩
                        rcases (HTK.out xs).1 hx with h | rfl
                        · exact HBB.out.2 ⟨xs, h, hn⟩
                        · exact absurd hm hn
                      case measure => simp [intOf]; omega
                    · rw [decide_eq_false hm] at hhq
                      go_wp2_with fail
                      go_at_call 12
                      refine (hhq _ (Below.refl _ _)).mono ?_
                      rintro e w4 ⟨rfl, b4⟩
                      have M4 : Below wb.heap.size wb w4 := b4
                      have DN := HD.out.step M4
                      clear M4 b4
                      go_wp2
                      go_roundw
                      case rel => exact ⟨q + 1, true, by omega, by go_num, rfl, ⟨fun _ => ⟨LL[q], (HTK.out _).2 (.inr rfl), hm⟩, fun _ => rfl⟩, DN⟩
                      case measure => simp [intOf]; omega
                  · have DN := F
                    go_wp2
                    go_roundw
                    case rel =>
                      obtain ⟨xs, hx, hn⟩ := HBB.out.1 rfl
                      exact ⟨q + 1, true, by omega, by go_num, rfl, ⟨fun _ => ⟨xs, (HTK.out _).2 (.inl hx), hn⟩, fun _ => rfl⟩, DN⟩
                    case measure => simp [intOf]; omega
                · have hqq : q = LL.length := by omega
                  subst hqq
                  have hhA := fun W (hr : Reads W (.slice ga A.length gc) (ints A)) => lawHas A (k : Int) (.slice ga A.length gc) W hA' hr
                  rw [any_memG] at hhA
                  by_cases hm : (k : Int) ∈ A
                  · rw [decide_eq_true hm] at hhA
                    clear hbb
                    go_wp2_with fail
                    go_at_call 12
                    refine (hhA _ F.g).mono ?_
                    rintro e w11 ⟨rfl, b11⟩
                    have F11 := F.step b11
                    clear F b11
                    go_wp2
                    go_roundw
                    case rel => exact ⟨k + 1, by omega, by go_num, F11⟩
                    case measure => simp [intOf]; omega
                  · obtain ⟨way, hw, hn⟩ := H3.out k hlt hm
                    obtain rfl : bb = true := hbb.2 ⟨way, by rw [List.take_length]; exact hw, hn⟩
                    rw [decide_eq_false hm] at hhA
                    clear hbb
                    go_wp2_with fail
                    go_at_call 12
                    refine (hhA _ F.g).mono ?_
                    rintro e w11 ⟨rfl, b11⟩
                    have F11 := F.step b11
                    clear F b11
                    go_wp2
                    go_roundw
                    case rel => exact ⟨k + 1, by omega, by go_num, F11⟩
                    case measure => simp [intOf]; omega
            · have hkk : k = ss.length := by omega
              subst hkk
              go_wp2
              go_ret
              exact ⟨rfl, E.bl⟩
        · obtain ⟨dn, hdn, hdne, hdA, hlen⟩ := H4.out.2 hn0
          subst hdn
          have hdm : ¬ (dn : Int) = -1 := by omega
          have hdm2 : ((dn : Int) == -1) = false := beq_eq_false_iff_ne.2 hdm
          have hn02 : (n == 0) = false := by simpa using hn0
          go_wp2_with fail
          go_at_call 12
          refine (hh0 _ D.g).mono ?_
          rintro e w9 ⟨rfl, b9⟩
          have D9 := D.step b9
          go_wp2_with fail
          go_at_call 12
          refine (hhn _ D9.g).mono ?_
          rintro e w10 ⟨rfl, b10⟩
          have D10 := D9.step b10
          clear D D9 b9 b10 hh0 hhn
          obtain ⟨c1, f1⟩ := oneCell D10.box
          go_wp2_with fail
          go_loopw [10] (fun i wr => ∃ k : Nat, k ≤ ss.length ∧ i = .int .i64 k ∧ GaS w1.heap.size w7.heap.size (.slice ua ss.length uc) ss (.slice ga A.length gc) A (.slice la LL.length lc) us LL w wr) (fun i _ => ss.length - (intOf i).toNat)
          case atStart => exact ⟨0, by omega, rfl, D10⟩
          case round =>
            obtain ⟨k, hk, rfl, E⟩ := hrel
            clear D10 c1 f1
            obtain ⟨wa2, hwa2⟩ : ∃ x, x = wr := ⟨_, rfl⟩
            subst wr
            obtain ⟨c1, f1⟩ := oneCell E.box
            by_cases hlt : k < ss.length
            · have hlt' : (k : Int) < (ss.length : Int) := by omega
              go_wp2_with fail
              go_loopw [11, 12] (fun b i wr => ∃ (q : Nat) (bb : Bool), q ≤ LL.length ∧ i = .int .i64 q ∧ b = .bool bb ∧ (bb = true ↔ ∃ xs ∈ LL.take q, (k : Int) ∉ xs) ∧ GaS w1.heap.size w7.heap.size (.slice ua ss.length uc) ss (.slice ga A.length gc) A (.slice la LL.length lc) us LL w wr) (fun _ i _ => LL.length - (intOf i).toNat)
              case atStart => exact ⟨0, false, by omega, rfl, rfl, by simp, E⟩
              case round =>
                obtain ⟨q, bb, hq, rfl, rfl, hbb, F⟩ := hrel
                clear E c1 f1
                obtain ⟨wb, hwb⟩ : ∃ x, x = wr := ⟨_, rfl⟩
                subst wr
                by_cases hqt : q < LL.length
                · have hqt' : (q : Int) < (LL.length : Int) := by omega
                  have HTK : Hid (∀ xs, xs ∈ LL.take (q + 1) ↔ xs ∈ LL.take q ∨ xs = LL[q]) := fun xs => by
                    rw [List.take_add_one, List.getElem?_eq_getElem hqt, List.mem_append]
                    simp only [Option.toList, List.mem_singleton]
                  have HBB : Hid _ := hbb
                  clear hbb
                  cases bb
                  · obtain ⟨gl, rfl⟩ : ∃ gl, la = some ⟨gl, 0, none⟩ := la_some F.l (by omega)
                    obtain ⟨uq, _, p0, oq0⟩ := F.l.at hqt
                    have hlm : LL[q].length ≤ maxLen := by have := H1.out LL[q] (by simp); unfold maxLen; omega
                    have hhq := fun W (hW : Below wb.heap.size wb W) => lawHas LL[q] (k : Int) uq W hlm (reads_below (reads_own oq0) hW)
                    rw [any_memG] at hhq
                    have gB := World.block_lt_of_cell? wb _ p0
                    have HD : Hid _ := F
                    clear F oq0
                    by_cases hm : (k : Int) ∈ LL[q]
                    · rw [decide_eq_true hm] at hhq
                      go_wp2_with fail
                      go_at_call 12
                      refine (hhq _ (Below.refl _ _)).mono ?_
                      rintro e w4 ⟨rfl, b4⟩
                      have M4 : Below wb.heap.size wb w4 := b4
                      have DN := HD.out.step M4
                      clear M4 b4
                      go_wp2
                      go_roundw
                      case rel =>
                        refine ⟨q + 1, false, by omega, by go_num, rfl, ⟨fun h => absurd h (by simp), ?_⟩, DN⟩
                        rintro ⟨xs, hx, hn⟩
                        rcases (HTK.out xs).1 hx with h | rfl
                        · exact HBB.out.2 ⟨xs, h, hn⟩
                        · exact absurd hm hn
                      case measure => simp [intOf]; omega
                    · rw [decide_eq_false hm] at hhq
                      go_wp2_with fail
                      go_at_call 12
                      refine (hhq _ (Below.refl _ _)).mono ?_
                      rintro e w4 ⟨rfl, b4⟩
                      have M4 : Below wb.heap.size wb w4 := b4
                      have DN := HD.out.step M4
                      clear M4 b4
                      go_wp2
                      go_roundw
                      case rel => exact ⟨q + 1, true, by omega, by go_num, rfl, ⟨fun _ => ⟨LL[q], (HTK.out _).2 (.inr rfl), hm⟩, fun _ => rfl⟩, DN⟩
                      case measure => simp [intOf]; omega
                  · have DN := F
                    go_wp2
                    go_roundw
                    case rel =>
                      obtain ⟨xs, hx, hn⟩ := HBB.out.1 rfl
                      exact ⟨q + 1, true, by omega, by go_num, rfl, ⟨fun _ => ⟨xs, (HTK.out _).2 (.inl hx), hn⟩, fun _ => rfl⟩, DN⟩
                    case measure => simp [intOf]; omega
                · have hqq : q = LL.length := by omega
                  subst hqq
                  have hhA := fun W (hr : Reads W (.slice ga A.length gc) (ints A)) => lawHas A (k : Int) (.slice ga A.length gc) W hA' hr
                  rw [any_memG] at hhA
                  by_cases hm : (k : Int) ∈ A
                  · rw [decide_eq_true hm] at hhA
                    clear hbb
                    go_wp2_with fail
                    go_at_call 12
                    refine (hhA _ F.g).mono ?_
                    rintro e w11 ⟨rfl, b11⟩
                    have F11 := F.step b11
                    clear F b11
                    go_wp2
                    go_roundw
                    case rel => exact ⟨k + 1, by omega, by go_num, F11⟩
                    case measure => simp [intOf]; omega
                  · obtain ⟨way, hw, hn⟩ := H3.out k hlt hm
                    obtain rfl : bb = true := hbb.2 ⟨way, by rw [List.take_length]; exact hw, hn⟩
                    rw [decide_eq_false hm] at hhA
                    clear hbb
                    go_wp2_with fail
                    go_at_call 12
                    refine (hhA _ F.g).mono ?_
                    rintro e w11 ⟨rfl, b11⟩
                    have F11 := F.step b11
                    clear F b11
                    go_wp2
                    go_roundw
                    case rel => exact ⟨k + 1, by omega, by go_num, F11⟩
                    case measure => simp [intOf]; omega
            · have hkk : k = ss.length := by omega
              subst hkk
              obtain ⟨d', i', e1, e2, hDom⟩ := gatesL_in (show (dn : Int) ∈ gatesL ss n by rw [← H5.out]; exact hdA)
              obtain rfl : dn = d' := by omega
              have hds : hasS ss (dn : Int) = true := by unfold hasS wiB; simp [hp, hDom.2.1]
              have hig2 := implGates ss dn (gatesL ss dn) (fun _ => gatesL_is ss dn) (fun h => absurd hds (by rw [h]; simp))
              have hhd := fun W (hr : Reads W (.slice ga A.length gc) (ints A)) => lawHas A (dn : Int) (.slice ga A.length gc) W hA' hr
              rw [any_memG, decide_eq_true hdA] at hhd
              generalize gatesL ss (dn : Int) = Gd at *
              have hl1 : IntKind.i64.wrap ((A.length : Int) - 1) = (A.length : Int) - 1 := IntWalk.i64_in _ (by unfold maxLen at hA'; omega)
              have hl2 : (Gd.length : Int) = (A.length : Int) - 1 := by omega
              have hdpos : ¬ (dn : Int) < 0 := by omega
              have hdne2 : ((dn : Int) != n) = true := by simpa using hdne
              clear hDom e2
              go_wp2_with fail
              go_at_call 6
              refine (hig2 _ _ hsl E.rd).mono ?_
              rintro e w12 ⟨ov, rfl, oo, b12⟩
              have E12 := E.step b12
              obtain ⟨oa, oc, rfl⟩ : ∃ oa oc, ov = .slice oa Gd.length oc := by
                obtain ⟨ao, cap, e, _⟩ := reads_own oo
                rw [ints_length] at e
                exact ⟨ao, cap, e⟩
              clear E b12 oo
              go_wp2_with fail
              go_at_call 12
              refine (hhd _ E12.g).mono ?_
              rintro e w13 ⟨rfl, b13⟩
              have E13 := E12.step b13
              clear E12 b13
              go_wp2
              go_ret
              first | exact ⟨rfl, E13.bl⟩ | exact ⟨by rw [← hdne2]; rfl, E13.bl⟩ | exact ⟨by simp [hdne2], E13.bl⟩

set_option maxRecDepth 100000 in
theorem liftedFnGates (os : Os) (started : os.Started) (H : Type) (enc : TypeId × Value → H) :
    ReturnsInHanded {} Try.checked os 3 .any (Rows.fnGatesSpec.pre6 enc Try.prog Try.f3 Rows.fnGatesRow.domain false) (Rows.fnGatesSpec.post enc Try.prog Try.f3 false true false false) := by
  refine returnsInHanded_of_change (C := Try.checked) own started (by kernel_rfl) Try.func3
    (ChangeSpec.witness6 (enc := enc) (C := Try.checked) false ⟨#[], #[.slice none 0 0], []⟩ 8 (by kernel_rfl) (by kernel_rfl) (by kernel_rfl) (by kernel_rfl)) ?_
  intro W base args ds gs before hval0 hW hcnd _
  have hval : ∀ (j : Nat) t v, Try.f3.params[j]? = some t → args[j]? = some v → Value.okWide Try.prog W .any base t v := hval0
  have hW' := hW
  obtain ⟨p, q, hA0, hV, rfl, hfz, hnd⟩ := hW
  have hA : DataW.TrodAll enc Try.prog W 0 (fun _ => true) true Try.f3.params.toList args.toList ds p := hA0
  rw [Try.params3] at hA hval
  obtain ⟨v0, vs0, d0, ds0, p0, q0, hargs, rfl, rfl, h0, r0⟩ := trodAll_cons hA
  obtain ⟨rfl, rfl, rfl⟩ := trodAll_nil r0
  obtain rfl : args = #[v0] := by cases args; simp_all
  obtain ⟨rfl, rfl⟩ := trodVars_none hV
  obtain ⟨bs, hr, hl, hs⟩ := open_code Try.underlying22 Try.underlying5 cellsByte (hval 0 22 v0 rfl rfl) h0
  refine (walkFnGates bs v0 W hl hr).mono fun e W' ⟨he, hb⟩ => ?_
  subst he
  refine ⟨_, rfl, law_post (tb := 4) laidOut ?_ hW' rfl Try.underlying4 rfl rfl hb⟩
  exact all_readable (P := Try.prog) (by kernel_rfl)

theorem overFnGates : Rows.fnGatesRow.holds Try.pinned (OpenSpec.ofChange Rows.fnGatesSpec) :=
  OpenClaim.holds_of_wide 3 Try.f3 rfl rfl rfl rfl rfl rfl rfl ⟨rfl, rfl, rfl, rfl, rfl⟩ rfl rfl rfl rfl rfl (by kernel_rfl) Try.func3 (by kernel_rfl)
    (of_decide_eq_true (by kernel_rfl)) (by unfold Func.isWrapper; first | (rw [if_pos (by decide +kernel)]; kernel_rfl) | (rw [if_neg (by decide +kernel)]; exact ⟨rfl, rfl⟩))
    (fun os started H enc _ => liftedFnGates os started H enc)

/-- ████ THE STATEMENT ████ -/
theorem gatesHold : Rows.FnGatesSaid :=
  overFnGates
#print axioms gatesHold

end Go.Proofs.Ytjlfmjoallnojac
