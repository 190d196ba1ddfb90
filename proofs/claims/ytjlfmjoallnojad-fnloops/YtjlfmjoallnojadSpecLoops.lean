/-
  spec.Loops.
-/
import Derived.Test.YtjlfmjoallnojadLoopsM
import Derived.Test.YtjlfmjoallnojadSpecGates
import Derived.Test.YtjlfmjoallnojadListsLaw
import Derived.Deep.AppendLies
namespace Go.Proofs.Ytjlfmjoallnojad
open Go.RowKit
set_option linter.unusedVariables false
set_option linter.unusedSimpArgs false
set_option maxHeartbeats 4000000

/-- A pair that has just been laid. -/
theorem pair_own {w : World} {base : Nat} (x y : Int) (hb : base ≤ w.heap.size) : (w.alloc (.cells #[.int .i64 x, .int .i64 y] 2)).ownsRow base 2 1 (.slice (some ⟨w.heap.size, 0, none⟩) 2 2) ([x, y] : List Int).length (ints [x, y]) :=
  World.ownsRow_lit (base := base) (e := 2) (size := 1) w #[.int .i64 x, .int .i64 y] 2 hb (by decide) (by simp)

theorem cell_alloc_old {w : World} {a : Addr} {x : Value} (o : Obj) (h : w.cell? a = some x) : (w.alloc o).cell? a = some x := by
  rw [World.cell?_alloc_lt _ _ _ (World.block_lt_of_cell? w _ h)]; exact h

/-- What the search for loops has in hand. -/
structure LSt (v : Value) (w : World) (ov : Value) (us : List Value) (xss : List (List Int)) (wr : World) : Prop where
  o : OwnSS wr (w.heap.size + 1) ov us xss
  bl : Below w.heap.size w wr
  p : wr.heap[w.heap.size]? = some (.cells #[v] 26 (0, 0))

theorem LSt.below {v : Value} {w : World} {ov : Value} {us : List Value} {xss : List (List Int)} {wr wr' : World} (h : LSt v w ov us xss wr) (hb : Below wr.heap.size wr wr') : LSt v w ov us xss wr' where
  o := h.o.below hb
  bl := h.bl.trans (hb.mono h.bl.size)
  p := (hb.block _ (Array.getElem?_eq_some_iff.1 h.p).1).trans h.p

theorem LSt.app {v : Value} {w : World} {ov v' u : Value} {us : List Value} {xss : List (List Int)} {xs : List Int} {W w' : World} (h : LSt v w ov us xss W) (hu : W.ownsRow (w.heap.size + 1) 2 1 u xs.length (ints xs))
    (hr : w'.ownsRow (w.heap.size + 1) 29 1 v' (xss.length + 1) (us ++ [u])) (hg : W.grownBy w' ov.ownBlock) : LSt v w v' (us ++ [u]) (xss ++ [xs]) w' where
  o := h.o.appended hu hr hg
  bl := h.bl.grown hg h.bl.size (fun k e => by have := (h.o.row.lt k e).1; omega)
  p := (hg.block _ (Array.getElem?_eq_some_iff.1 h.p).1 (fun e => by have := (h.o.row.lt _ e.symm).1; omega)).trans h.p

/-- A row of numbers is none of the rows of slices. -/
theorem row_app {base base' : Nat} {ov lv : Value} {us : List Value} {n : Nat} {W w' : World} {xs : List Value} {m : Nat} (hl : W.ownsRow base' 2 1 lv n xs) (ho : W.ownsRow base 29 1 ov m us) (hg : W.grownBy w' ov.ownBlock) : w'.ownsRow base' 2 1 lv n xs :=
  own_same hl (fun k hk => hg.block k (hl.lt k hk).2 (fun e => row_kind hl ho (by decide) hk e.symm))

theorem specLoops (ss : List Stm) (v : Value) (w : World) (hl : ss.length ≤ maxLen) (hv : Reads3 w v ss) :
    Calls Try.prog 11 #[.agg #[v]] w fun e w' => ∃ u us, e = .returned u ∧ OwnSS w' w.heap.size u us (loopsAns ss) ∧ Below w.heap.size w w' := by
  obtain ⟨i1, hj, hy0, hy1, hy2⟩ := info_parts infoSlice
  obtain ⟨W0, hW0⟩ : ∃ W0, (w.alloc (.cells #[v] 26)).alloc (.cells #[] 29) = W0 := ⟨_, rfl⟩
  have hb0 : Below w.heap.size w W0 := by rw [← hW0]; go_grown
  have s0 : W0.heap.size = w.heap.size + 1 + 1 := by rw [← hW0]; simp
  have X0 : Hid (W0.heap[w.heap.size]? = some (.cells #[v] 26 (0, 0))) := by
    show W0.heap[w.heap.size]? = _
    rw [← hW0, old_block (by simp)]; exact heap_alloc_new w _
  have m0 : OwnSS W0 (w.heap.size + 1) (.slice (some ⟨w.heap.size + 1, 0, none⟩) 0 0) [] [] := by
    have := made0S (w.alloc (.cells #[v] 26))
    have z : (w.alloc (.cells #[v] 26)).heap.size = w.heap.size + 1 := by simp
    rw [hW0, z] at this
    exact this
  have HW : Hid ((w.alloc (.cells #[v] 26)).alloc (.cells #[] 29) = W0) := hW0
  clear hW0
  have he := specProcOk ss v W0 hl (reads3_below hv hb0)
  cases hp : procOk ss
  · rw [hp] at he
    have hans : Hid (loopsAns ss = []) := by
      show loopsAns ss = []
      unfold loopsAns; rw [hp]; rfl
    go_enter Try.func11, Try.ntmps11
    go_wp2_with fail
    go_at_call 30
    rw [HW.out]
    refine he.mono ?_
    rintro e w2 ⟨rfl, b2⟩
    go_wp2
    go_ret
    exact ⟨.slice (some ⟨w.heap.size + 1, 0, none⟩) 0 0, [], rfl, by rw [hans.out]; exact (m0.below b2).mono (by omega), hb0.trans (b2.mono hb0.size)⟩
  rw [hp] at he
  have hans : Hid (loopsAns ss = loopsTo ss ss.length) := by
    show loopsAns ss = _
    unfold loopsAns; rw [hp]; rfl
  obtain ⟨_, h12, _⟩ := procOk_parts hp
  obtain ⟨A, hA⟩ := isReached_some hp (-1)
  have hAl : A.length ≤ 12 := by
    refine Nat.le_trans (sorted_length A 0 ss.length hA.1 (fun x hx => ?_)) h12
    obtain ⟨i, rfl, hi⟩ := (hA.2 x).1 hx
    have := hi.lt hp
    omega
  have hlR : ∀ m, (loopsR ss A m).length ≤ 24 := fun m => by
    have h1 := loopsTo_length ss ss.length
    rw [← loopsR_all hp hA] at h1
    refine Nat.le_trans (List.Sublist.length_le ?_) (Nat.le_trans h1 (by omega))
    unfold loopsR
    rw [List.take_length]
    conv => rhs; rw [← List.take_append_drop m A, List.flatMap_append]
    exact List.sublist_append_left _ _
  go_enter Try.func11, Try.ntmps11
  go_wp2_with fail
  go_at_call 30
  rw [HW.out]
  refine he.mono ?_
  rintro e w2 ⟨rfl, b2⟩
  have L2 := hb0.trans (b2.mono hb0.size)
  have X2 := (b2.block w.heap.size (by omega)).trans X0.out
  have m2 := m0.below b2
  have s2 := b2.size
  obtain ⟨c2, f2⟩ := one_cell X2
  clear he m0 X0 HW
  go_wp2_with fail
  go_at_call 31
  refine (specL4Reached ss (-1) A v w2 hp hA (reads3_below hv L2)).mono ?_
  rintro e w3 ⟨g3, cap3, rfl, own3, b3⟩
  have L3 := L2.trans (b3.mono L2.size)
  have X3 := (b3.block w.heap.size (by omega)).trans X2
  have m3 := m2.below b3
  have s3 := b3.size
  have own3' := own_mono own3 (show w.heap.size + 1 ≤ w2.heap.size by omega)
  have g3lt := own3.lt g3 rfl
  clear c2 f2 X2 m2 own3
  have S3 : LSt v w (.slice (some ⟨w.heap.size + 1, 0, none⟩) 0 0) [] [] w3 := ⟨m3, L3, X3⟩
  clear m3 L3 X3
  go_wp2_with fail
  go_loopw [3, 5] (fun ov iv wr => ∃ (k g cap : Nat) (us : List Value), k ≤ A.length ∧ iv = .int .i64 k ∧ ov = .slice (some ⟨g, 0, none⟩) (loopsR ss A k).length cap ∧ LSt v w (.slice (some ⟨g, 0, none⟩) (loopsR ss A k).length cap) us (loopsR ss A k) wr ∧
      wr.ownsRow (w.heap.size + 1) 2 1 (.slice (some ⟨g3, 0, none⟩) A.length cap3) A.length (ints A)) (fun _ iv _ => A.length - (intOf iv).toNat)
  case atStart => exact ⟨0, w.heap.size + 1, 0, [], Nat.zero_le _, rfl, rfl, S3, own3'⟩
  case round =>
    obtain ⟨k, g, cap, us, hk, rfl, rfl, hS, hO⟩ := hrel
    obtain ⟨wa, hwa⟩ : ∃ x, x = wr := ⟨_, rfl⟩
    subst hwa
    clear S3 own3'
    by_cases hlt : k < A.length
    · have hlt' : (k : Int) < (A.length : Int) := by omega
      obtain ⟨j, hj, hjr⟩ := (hA.2 _).1 (List.getElem_mem hlt)
      have hjl := hjr.lt hp
      have cA : wa.cell? ⟨g3, k, none⟩ = some (.int .i64 (j : Int)) := by
        rw [hO.cellAt k (by omega)]
        simp [ints, hlt, hj]
      have gA := (hO.lt g3 rfl).2
      obtain ⟨p0, pf0⟩ := one_cell hS.p
      have pB := (Array.getElem?_eq_some_iff.1 hS.p).1
      have HJ : Hid (A[k] = (j : Int)) := hj
      have hn : ∀ W, Below wa.heap.size wa W → _ := fun W hW => l4Next ss j v W hp hjl (reads3_below (reads3_below hv hS.bl) hW)
      have HNX : Hid (nextsS ss[j] j = nx ss j) := (nx_eq hjl).symm
      rw [HNX.out] at hn
      have HR := loopsR_next ss A k j hlt hj
      have HRN : Hid (loopsR ss A (k + 1) = loopsR ss A k ++ loopsAt ss j) := HR
      have hlk := hlR k
      have hlk1 := hlR (k + 1)
      rw [HR, List.length_append] at hlk1
      clear HR hj
      generalize loopsR ss A k = xss at *
      go_wp2_with fail
      go_region_held3 (fun w' => w'.cell? ⟨w.heap.size, 0, none⟩ = some v ∧ w'.cell? ⟨g3, k, none⟩ = some (.int .i64 (j : Int))) (first | exact ⟨p0, cA⟩ | exact ⟨(hc4 _ _ pB).trans p0, (hc4 _ _ gA).trans cA⟩) (first
        | (go_at_call 32; refine (hn _ (by go_grown)).mono ?_; rintro e w4 ⟨gn, cn, rfl, own4, b4⟩; have M4 : Below wa.heap.size wa w4 := Below.trans (by go_grown) (b4.mono (by simp)); obtain ⟨hc4, hf4⟩ := bcell M4))
      have S4 : Hid (LSt v w (.slice (some ⟨g, 0, none⟩) xss.length cap) us xss w4) := hS.below M4
      have O4 : Hid (w4.ownsRow (w.heap.size + 1) 2 1 (.slice (some ⟨g3, 0, none⟩) A.length cap3) A.length (ints A)) := own_kept hO M4
      have N4 : Hid (w4.ownsRow (w.heap.size + 1) 2 1 (.slice (some ⟨gn, 0, none⟩) (nx ss j).length cn) (nx ss j).length (ints (nx ss j))) := by
        refine own_mono own4 ?_
        have := hS.bl.size
        have := pB
        simp
        omega
      clear hS hO own4 hc4 hf4 cA p0 pf0 gA pB hn
      go_wp2_with fail
      go_loopw [3, 7] (fun ov iv wr => ∃ (m g cap : Nat) (us : List Value), m ≤ (nx ss j).length ∧ iv = .int .i64 m ∧ ov = .slice (some ⟨g, 0, none⟩) (xss ++ loopsPart ss j m).length cap ∧ LSt v w (.slice (some ⟨g, 0, none⟩) (xss ++ loopsPart ss j m).length cap) us (xss ++ loopsPart ss j m) wr ∧
          wr.ownsRow (w.heap.size + 1) 2 1 (.slice (some ⟨g3, 0, none⟩) A.length cap3) A.length (ints A) ∧ wr.ownsRow (w.heap.size + 1) 2 1 (.slice (some ⟨gn, 0, none⟩) (nx ss j).length cn) (nx ss j).length (ints (nx ss j))) (fun _ iv _ => (nx ss j).length - (intOf iv).toNat)
      case atStart => exact ⟨0, g, cap, us, Nat.zero_le _, rfl, by rw [loopsPart_zero]; simp, by rw [loopsPart_zero, List.append_nil]; exact S4.out, O4.out, N4.out⟩
      case round =>
        obtain ⟨m, gi, ci, ui, hm, rfl, rfl, hS, hO, hN⟩ := hrel
        obtain ⟨wb, hwb⟩ : ∃ x, x = wr := ⟨_, rfl⟩
        subst hwb
        clear S4 O4 N4 M4 b4
        have hnl := nx_length ss j
        by_cases hlt2 : m < (nx ss j).length
        · have hlt2' : (m : Int) < ((nx ss j).length : Int) := by omega
          obtain ⟨i, hi, hil⟩ := nx_in hp hjl _ (List.getElem_mem hlt2)
          have cA : wb.cell? ⟨g3, k, none⟩ = some (.int .i64 (j : Int)) := by
            rw [hO.cellAt k (by omega)]
            simp [ints, hlt, HJ.out]
          have cN : wb.cell? ⟨gn, m, none⟩ = some (.int .i64 (i : Int)) := by
            rw [hN.cellAt m (by omega)]
            simp [ints, hlt2, hi]
          have gA := (hO.lt g3 rfl).2
          have gN := (hN.lt gn rfl).2
          obtain ⟨p0, pf0⟩ := one_cell hS.p
          have pB := (Array.getElem?_eq_some_iff.1 hS.p).1
          have hpn := loopsPart_next ss j m hlt2
          rw [hi] at hpn
          have HPN : Hid (loopsPart ss j (m + 1) = loopsPart ss j m ++ (if (i : Int) ∈ gatesL ss j then [[(j : Int), (i : Int)]] else [])) := hpn
          have hpl := loopsPart_length ss j m
          have hgl : (gatesL ss j).length ≤ maxLen := by have := gatesL_length ss j; unfold maxLen; omega
          have hg5 : ∀ W, Below wb.heap.size wb W → _ := fun W hW => specL5Gates ss j v W hp (reads3_below (reads3_below hv hS.bl) hW)
          have hh : ∀ (u : Value) (W : World), Reads W u (ints (gatesL ss j)) → _ := fun u W hr => l1Has (gatesL ss j) i u W hgl hr
          rw [hasI_mem] at hh
          have hyl : (xss ++ loopsPart ss j m).length ≤ 26 := by rw [List.length_append]; omega
          clear hpn hpl
          generalize hyy : xss ++ loopsPart ss j m = yss at *
          have HYY : Hid (xss ++ loopsPart ss j m = yss) := hyy
          clear hyy
          obtain ⟨q, hq⟩ : ∃ q, decide ((i : Int) ∈ gatesL ss j) = q := ⟨_, rfl⟩
          have HQ : Hid (decide ((i : Int) ∈ gatesL ss j) = q) := hq
          rw [hq] at hh
          clear hq
          generalize gatesL ss j = gl at *
          go_wp2_with fail
          go_region_held3 (fun w' => w'.cell? ⟨w.heap.size, 0, none⟩ = some v ∧ w'.cell? ⟨g3, k, none⟩ = some (.int .i64 (j : Int)) ∧ w'.cell? ⟨gn, m, none⟩ = some (.int .i64 (i : Int))) (first | exact ⟨p0, cA, cN⟩ | exact ⟨(hc5 _ _ pB).trans p0, (hc5 _ _ gA).trans cA, (hc5 _ _ gN).trans cN⟩ | exact ⟨(hc6 _ _ pB).trans p0, (hc6 _ _ gA).trans cA, (hc6 _ _ gN).trans cN⟩) (first
            | (go_at_call 33; refine (hg5 _ (by go_grown)).mono ?_; rintro e w5 ⟨u5, rfl, own5, b5⟩; have M5 : Below wb.heap.size wb w5 := Below.trans (by go_grown) (b5.mono (by simp)); obtain ⟨hc5, hf5⟩ := bcell M5)
            | (go_at_call 27; refine (hh u5 _ (reads_own own5)).mono ?_; rintro e w6 ⟨rfl, b6⟩; have M6 : Below wb.heap.size wb w6 := M5.trans (b6.mono M5.size); obtain ⟨hc6, hf6⟩ := bcell M6))
          have S6 := hS.below M6
          have O6 := own_kept hO M6
          have N6 := own_kept hN M6
          clear hS hO hN hg5 hh own5 b5 M5 hc5 hf5 b6
          cases q
          · have HP : Hid (xss ++ loopsPart ss j (m + 1) = yss) := by
              show xss ++ loopsPart ss j (m + 1) = yss
              rw [HPN.out, if_neg (of_decide_eq_false HQ.out), List.append_nil]
              exact HYY.out
            have H6 : Hid (LSt v w (.slice (some ⟨gi, 0, none⟩) yss.length ci) ui yss w6) := S6
            have HO6 : Hid (w6.ownsRow (w.heap.size + 1) 2 1 (.slice (some ⟨g3, 0, none⟩) A.length cap3) A.length (ints A)) := O6
            have HN6 : Hid (w6.ownsRow (w.heap.size + 1) 2 1 (.slice (some ⟨gn, 0, none⟩) (nx ss j).length cn) (nx ss j).length (ints (nx ss j))) := N6
            clear S6 O6 N6
            go_wp2
            go_roundw
            case rel => exact ⟨m + 1, gi, ci, ui, by omega, by go_num, by rw [HP.out], by rw [HP.out]; exact H6.out, HO6.out, HN6.out⟩
            case measure => simp [intOf]; omega
          · have HP : Hid (xss ++ loopsPart ss j (m + 1) = yss ++ [[(j : Int), (i : Int)]]) := by
              show xss ++ loopsPart ss j (m + 1) = _
              rw [HPN.out, if_pos (of_decide_eq_true HQ.out), ← List.append_assoc, HYY.out]
            have hrA : ∀ W : World, W.ownsRow (w.heap.size + 1) 2 1 (.slice (some ⟨g3, 0, none⟩) A.length cap3) A.length (ints A) → W.cell? ⟨g3, k, none⟩ = some (.int .i64 (j : Int)) := fun W h => by
              rw [h.cellAt k (by omega)]
              simp [ints, hlt, HJ.out]
            have hrN : ∀ W : World, W.ownsRow (w.heap.size + 1) 2 1 (.slice (some ⟨gn, 0, none⟩) (nx ss j).length cn) (nx ss j).length (ints (nx ss j)) → W.cell? ⟨gn, m, none⟩ = some (.int .i64 (i : Int)) := fun W h => by
              rw [h.cellAt m (by omega)]
              simp [ints, hlt2, hi]
            have cA6 := (hc6 g3 k gA).trans cA
            have cN6 := (hc6 gn m gN).trans cN
            have hblk : ((w6.alloc (.cells #[.int .i64 (j : Int), .int .i64 (i : Int)] 2)).alloc (.cells #[.slice (some ⟨w6.heap.size, 0, none⟩) 2 2] 29)).heap[w6.heap.size + 1]? = some (.cells #[.slice (some ⟨w6.heap.size, 0, none⟩) 2 2] 29 (0, 0)) := by
              have := heap_alloc_new (w6.alloc (.cells #[.int .i64 (j : Int), .int .i64 (i : Int)] 2)) (.cells #[.slice (some ⟨w6.heap.size, 0, none⟩) 2 2] 29)
              simpa using this
            have HB : Hid (((w6.alloc (.cells #[.int .i64 (j : Int), .int .i64 (i : Int)] 2)).alloc (.cells #[.slice (some ⟨w6.heap.size, 0, none⟩) 2 2] 29)).heap[w6.heap.size + 1]? = some (.cells #[.slice (some ⟨w6.heap.size, 0, none⟩) 2 2] 29 (0, 0))) := hblk
            have hone : ∀ u ∈ [Value.slice (some ⟨w6.heap.size, 0, none⟩) 2 2], u.oneCell' = true := fun u hu => by simp at hu; subst hu; rfl
            have hpo : (w6.alloc (.cells #[.int .i64 (j : Int), .int .i64 (i : Int)] 2)).ownsRow (w.heap.size + 1) 2 1 (.slice (some ⟨w6.heap.size, 0, none⟩) 2 2) ([(j : Int), (i : Int)] : List Int).length (ints [(j : Int), (i : Int)]) := pair_own (w := w6) (base := w.heap.size + 1) j i (by have := (Array.getElem?_eq_some_iff.1 S6.p).1; omega)
            have HPO : Hid _ := hpo
            have hsz6 : w.heap.size + 1 ≤ w6.heap.size := by have := (Array.getElem?_eq_some_iff.1 S6.p).1; omega
            have hyb : (yss.length + 1) * 24 ≤ 140737488355328 := by omega
            have hym : yss.length + 1 ≤ maxLen := by unfold maxLen; omega
            clear hblk hpo
            go_wp2_with fail
            go_region_held3 (fun w' => w'.cell? ⟨g3, k, none⟩ = some (.int .i64 (j : Int)) ∧ w'.cell? ⟨gn, m, none⟩ = some (.int .i64 (i : Int))) (first | exact ⟨cA6, cN6⟩ | exact ⟨(cell_alloc_old _ cA6), (cell_alloc_old _ cN6)⟩ | exact ⟨(cell_alloc_old _ (cell_alloc_old _ cA6)), (cell_alloc_old _ (cell_alloc_old _ cN6))⟩ | exact ⟨hcA7, hcN7⟩) (first
              | (refine step_append_lies _ rfl (.tmp 44) (.tmp 54) 31 rfl (w.heap.size + 1) 29 i1 (.slice none 0 0) 1 24 Try.underlying31 hj hy0 hy1 hy2 rfl (by decide) _ yss.length ui rfl (S6.o.below (by go_grown)).row ⟨w6.heap.size + 1, 0, none⟩ 1 1 [.slice (some ⟨w6.heap.size, 0, none⟩) 2 2] rfl rfl (World.news_of_block HB.out) hone (by omega) hym hyb (by simp; omega) _ rfl ?_; intro g7 cap7 w7 own7 grow7 hat7 hlt7; have S7 := LSt.app (S6.below (by go_grown)) (own_kept HPO.out (by go_grown)) own7 grow7; have O7 := row_app (own_kept O6 (by go_grown)) (S6.o.below (by go_grown)).row grow7; have N7 := row_app (own_kept N6 (by go_grown)) (S6.o.below (by go_grown)).row grow7; have hcA7 : w7.cell? ⟨g3, k, none⟩ = some (.int .i64 (j : Int)) := hrA w7 O7; have hcN7 : w7.cell? ⟨gn, m, none⟩ = some (.int .i64 (i : Int)) := hrN w7 N7))
            have H7 : Hid (LSt v w (.slice (some ⟨g7, 0, none⟩) (yss ++ [[(j : Int), (i : Int)]]).length cap7) (ui ++ [.slice (some ⟨w6.heap.size, 0, none⟩) 2 2]) (yss ++ [[(j : Int), (i : Int)]]) w7) := by
              show LSt v w (.slice (some ⟨g7, 0, none⟩) (yss ++ [[(j : Int), (i : Int)]]).length cap7) _ _ w7
              rw [List.length_append]; exact S7
            have HO7 : Hid (w7.ownsRow (w.heap.size + 1) 2 1 (.slice (some ⟨g3, 0, none⟩) A.length cap3) A.length (ints A)) := O7
            have HN7 : Hid (w7.ownsRow (w.heap.size + 1) 2 1 (.slice (some ⟨gn, 0, none⟩) (nx ss j).length cn) (nx ss j).length (ints (nx ss j))) := N7
            have HP2 : Hid ((xss ++ loopsPart ss j (m + 1)).length = yss.length + 1) := by
              show (xss ++ loopsPart ss j (m + 1)).length = _
              rw [HP.out, List.length_append]; rfl
            clear S6 O6 N6 S7 O7 N7 hcA7 hcN7 own7 grow7 hat7 hlt7 cA6 cN6 hrA hrN
            go_wp2
            go_roundw
            case rel => exact ⟨m + 1, g7, cap7, _, by omega, by go_num, by rw [HP2.out], by rw [HP.out]; exact H7.out, HO7.out, HN7.out⟩
            case measure => simp [intOf]; omega
        · have hmm : m = (nx ss j).length := by omega
          subst hmm
          have HP : Hid (loopsR ss A (k + 1) = xss ++ loopsPart ss j (nx ss j).length) := HRN.out
          have H6 : Hid (LSt v w (.slice (some ⟨gi, 0, none⟩) (xss ++ loopsPart ss j (nx ss j).length).length ci) ui (xss ++ loopsPart ss j (nx ss j).length) wb) := hS
          have HO6 : Hid (wb.ownsRow (w.heap.size + 1) 2 1 (.slice (some ⟨g3, 0, none⟩) A.length cap3) A.length (ints A)) := hO
          clear hS hO hN
          generalize xss ++ loopsPart ss j (nx ss j).length = yss at *
          go_wp2
          go_roundw
          case rel => exact ⟨k + 1, gi, ci, ui, by omega, by go_num, by rw [HP.out], by rw [HP.out]; exact H6.out, HO6.out⟩
          case measure => simp [intOf]; omega
    · have hkk : k = A.length := by omega
      subst hkk
      have HF : Hid (loopsR ss A A.length = loopsTo ss ss.length) := loopsR_all hp hA
      have H6 : Hid (LSt v w (.slice (some ⟨g, 0, none⟩) (loopsR ss A A.length).length cap) us (loopsR ss A A.length) wa) := hS
      clear hS hO
      go_wp2
      go_ret
      exact ⟨_, us, rfl, by rw [hans.out, ← HF.out]; exact H6.out.o.mono (by omega), H6.out.bl⟩

end Go.Proofs.Ytjlfmjoallnojad
