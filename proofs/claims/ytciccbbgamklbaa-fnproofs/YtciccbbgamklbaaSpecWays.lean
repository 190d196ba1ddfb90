/-
  spec.Ways.
-/
import Derived.Test.YtciccbbgamklbaaWaysSt
import Derived.Test.YtciccbbgamklbaaWaysReg
namespace Go.Proofs.Ytciccbbgamklbaa
open Go.RowKit
set_option linter.unusedVariables false
set_option linter.unusedSimpArgs false
set_option maxRecDepth 40000
set_option maxHeartbeats 8000000
attribute [local go_sem ↓] Go.wp_at_zero Go.wp_at_succ

def oTo (ss : List Stm) (i : Int) (m c : Nat) : List (List Int) := waysTo ss i m ++ ((levs ss m).take c).filter (fun way => decide (lastI way = i))
def nTo (ss : List Stm) (m c : Nat) : List (List Int) := ((levs ss m).take c).flatMap (grow1 ss)

theorem oTo_zero (ss : List Stm) (i : Int) (m : Nat) : oTo ss i m 0 = waysTo ss i m := by simp [oTo]
theorem nTo_zero (ss : List Stm) (m : Nat) : nTo ss m 0 = [] := by simp [nTo]
theorem oTo_all (ss : List Stm) (i : Int) (m : Nat) : oTo ss i m (levs ss m).length = waysTo ss i (m + 1) := by simp [oTo, waysTo]
theorem nTo_all (ss : List Stm) (m : Nat) : nTo ss m (levs ss m).length = levs ss (m + 1) := by simp [nTo, levs]
theorem oTo_next (ss : List Stm) (i : Int) (m c : Nat) (hc : c < (levs ss m).length) : oTo ss i m (c + 1) = oTo ss i m c ++ (if lastI (levs ss m)[c] = i then [(levs ss m)[c]] else []) := by
  unfold oTo
  rw [List.take_succ_eq_append_getElem hc, List.filter_append, List.append_assoc]
  congr 2
  split
  · rename_i h; simp [h]
  · rename_i h; simp [h]
theorem nTo_next (ss : List Stm) (m c : Nat) (hc : c < (levs ss m).length) : nTo ss m (c + 1) = nTo ss m c ++ grow1 ss (levs ss m)[c] := by
  unfold nTo
  rw [List.take_succ_eq_append_getElem hc, List.flatMap_append]
  simp
theorem oTo_len (ss : List Stm) (i : Int) (m c : Nat) (hm : m ≤ 9) : (oTo ss i m c).length ≤ 5120 := by
  have h1 := waysTo_small ss i m hm
  have h2 := levs_small ss m hm
  have h3 := List.length_filter_le (fun way => decide (lastI way = i)) ((levs ss m).take c)
  have h4 : ((levs ss m).take c).length ≤ (levs ss m).length := by rw [List.length_take]; exact Nat.min_le_right _ _
  unfold oTo
  rw [List.length_append]
  omega
theorem nTo_len (ss : List Stm) (m c : Nat) (hm : m ≤ 9) : (nTo ss m c).length ≤ 1024 := by
  have h2 := levs_small ss m hm
  have h3 := flat_len ss ((levs ss m).take c)
  have h4 : ((levs ss m).take c).length ≤ (levs ss m).length := by rw [List.length_take]; exact Nat.min_le_right _ _
  unfold nTo
  omega

/-- What both answer. -/
def waysAns (ss : List Stm) (i most : Int) : List (List Int) := if hasS ss i && inB most 1 9 then waysTo ss i most.toNat else []

theorem OwnSS.form {w : World} {base : Nat} {v : Value} {us : List Value} {xss : List (List Int)} (h : OwnSS w base v us xss) (g cap : Nat) (e : v = .slice (some ⟨g, 0, none⟩) xss.length cap) : base ≤ g ∧ g < w.heap.size := by
  subst e
  exact h.row.lt g rfl

theorem specWays (ss : List Stm) (i most : Int) (v : Value) (w : World) (hl : ss.length ≤ maxLen) (hv : Reads3 w v ss) :
    Calls Try.prog 20 #[.agg #[v], .int .i64 i, .int .i64 most] w fun e w' => ∃ u us, e = .returned u ∧ OwnSS w' w.heap.size u us (waysAns ss i most) ∧ Below w.heap.size w w' := by
  obtain ⟨i0, hi, hz0, hz1, hz2⟩ := info_parts infoInt
  obtain ⟨i1, hjS, hy0, hy1, hy2⟩ := info_parts infoSlice
  obtain ⟨W0, hW0⟩ : ∃ W0, (w.alloc (.cells #[v] 30)).alloc (.cells #[] 26) = W0 := ⟨_, rfl⟩
  have hb0 : Below w.heap.size w W0 := by rw [← hW0]; go_grown
  have s0 : W0.heap.size = w.heap.size + 1 + 1 := by rw [← hW0]; simp
  have X0 : Hid (W0.heap[w.heap.size]? = some (.cells #[v] 30 (0, 0))) := by
    show W0.heap[w.heap.size]? = _
    rw [← hW0, old_block (by simp)]; exact heap_alloc_new w _
  have m0 : OwnSS W0 (w.heap.size + 1) (.slice (some ⟨w.heap.size + 1, 0, none⟩) 0 0) [] [] := by
    have := made0S (w.alloc (.cells #[v] 30))
    have z : (w.alloc (.cells #[v] 30)).heap.size = w.heap.size + 1 := by simp
    rw [hW0, z] at this
    exact this
  have HW : Hid ((w.alloc (.cells #[v] 30)).alloc (.cells #[] 26) = W0) := hW0
  clear hW0
  have he := l4In ss i v W0 hl (reads3_below hv hb0)
  unfold waysAns
  cases hok : hasS ss i
  · rw [hok] at he
    rw [Bool.false_and, if_neg (by simp)]
    go_enter Try.func20, Try.ntmps20
    go_wp2_with fail
    go_at_call 22
    rw [HW.out]
    refine he.mono ?_
    rintro e w2 ⟨rfl, b2⟩
    go_wp2
    go_ret
    exact ⟨.slice (some ⟨w.heap.size + 1, 0, none⟩) 0 0, [], rfl, (m0.below b2).mono (by omega), hb0.trans (b2.mono hb0.size)⟩
  rw [hok] at he
  have hin := l1In most 1 9
  cases hmo : inB most 1 9
  · rw [hmo] at hin
    rw [Bool.and_false, if_neg (by simp)]
    go_enter Try.func20, Try.ntmps20
    go_wp2_with fail
    go_at_call 22
    rw [HW.out]
    refine he.mono ?_
    rintro e w2 ⟨rfl, b2⟩
    go_wp2_with (go_at_call 24; refine (hin _).mono ?_; rintro e w3 ⟨rfl, rfl⟩)
    go_ret
    exact ⟨.slice (some ⟨w.heap.size + 1, 0, none⟩) 0 0, [], rfl, (m0.below b2).mono (by omega), hb0.trans (b2.mono hb0.size)⟩
  rw [hmo] at hin
  rw [Bool.and_true, if_pos rfl]
  obtain ⟨hp, ii, rfl, hil⟩ := hasS_true hok
  obtain ⟨M, rfl, hM1, hM9⟩ : ∃ M : Nat, most = (M : Int) ∧ 1 ≤ M ∧ M ≤ 9 := by
    unfold inB at hmo
    simp at hmo
    exact ⟨most.toNat, by omega, by omega, by omega⟩
  rw [Int.toNat_natCast]
  clear hok hmo
  go_enter Try.func20, Try.ntmps20
  go_wp2_with fail
  go_at_call 22
  rw [HW.out]
  refine he.mono ?_
  rintro e w2 ⟨rfl, b2⟩
  have s2 := b2.size
  have L2 := hb0.trans (b2.mono hb0.size)
  have X2 := (b2.block w.heap.size (by omega)).trans X0.out
  have m2 := m0.below b2
  clear he m0 X0 HW
  go_wp2_with fail
  go_at_call 24
  refine (hin _).mono ?_
  rintro e w3 ⟨rfl, rfl⟩
  clear hin
  have b3 : Below w2.heap.size w2 ((w2.alloc (.cells #[.int .i64 0] 2)).alloc (.cells #[.slice (some ⟨w2.heap.size, 0, none⟩) 1 1] 26)) := by go_grown
  have r3 : OwnSS ((w2.alloc (.cells #[.int .i64 0] 2)).alloc (.cells #[.slice (some ⟨w2.heap.size, 0, none⟩) 1 1] 26)) (w.heap.size + 1) (.slice (some ⟨w2.heap.size + 1, 0, none⟩) 1 1) [.slice (some ⟨w2.heap.size, 0, none⟩) 1 1] [[0]] := by
    have z : (w2.alloc (.cells #[.int .i64 0] 2)).heap.size = w2.heap.size + 1 := by simp
    have o1 := World.ownsRow_lit (base := w.heap.size + 1) (e := 26) (size := 1) (w2.alloc (.cells #[.int .i64 0] 2)) #[.slice (some ⟨w2.heap.size, 0, none⟩) 1 1] 1 (by rw [z]; omega) (by decide) (by simp)
    rw [z] at o1
    refine ⟨o1, fun j u xs hj hx => ?_⟩
    cases j with
    | zero =>
      simp at hj hx
      subst hj hx
      exact (made1_at rfl (by omega) 0).alloc _
    | succ j => simp at hj
  have m3 := m2.below b3
  have L3 := L2.trans (b3.mono L2.size)
  have X3 := (b3.block w.heap.size (by omega)).trans X2
  go_wp2_with fail
  go_loopw [7, 8, 9] (fun ov rv nv wr => ∃ (m go co gr cr : Nat) (us vs : List Value), m ≤ M ∧ nv = .int .i64 ((m : Int) + 1) ∧ ov = .slice (some ⟨go, 0, none⟩) (waysTo ss ii m).length co ∧ rv = .slice (some ⟨gr, 0, none⟩) (levs ss m).length cr ∧
      OwnSS wr (w.heap.size + 1) (.slice (some ⟨go, 0, none⟩) (waysTo ss ii m).length co) us (waysTo ss ii m) ∧ OwnSS wr (w.heap.size + 1) (.slice (some ⟨gr, 0, none⟩) (levs ss m).length cr) vs (levs ss m) ∧ go ≠ gr ∧
      Below w.heap.size w wr ∧ wr.heap[w.heap.size]? = some (.cells #[v] 30 (0, 0))) (fun _ _ nv _ => 10 - (intOf nv).toNat)
  case atStart => exact ⟨0, w.heap.size + 1, 0, w2.heap.size + 1, 1, [], _, Nat.zero_le _, rfl, rfl, rfl, m3, r3, by omega, L3, X3⟩
  case round =>
    obtain ⟨wa, hren⟩ : ∃ x, x = wr := ⟨_, rfl⟩
    subst hren
    obtain ⟨m, go, co, gr, cr, us, vs, hm, rfl, rfl, rfl, oo, orr, hne, hL, hX⟩ := hrel
    clear m3 r3 L3 X3 b3 m2 X2
    have hll := levs_small ss m (by omega)
    have hwl := waysTo_small ss ii m (by omega)
    have hbx : w.heap.size < wa.heap.size := (Array.getElem?_eq_some_iff.1 hX).1
    by_cases hlt : m < M
    · have hlt' : (m : Int) + 1 ≤ (M : Int) := by omega
      have hm9 : m ≤ 9 := by omega
      have zw : w.heap.size + 1 ≤ wa.heap.size := hbx
      have S0 : WSt v w (.slice (some ⟨go, 0, none⟩) (waysTo ss ii m).length co) us (waysTo ss ii m) (.slice (some ⟨wa.heap.size, 0, none⟩) 0 0) [] [] (.slice (some ⟨gr, 0, none⟩) (levs ss m).length cr) vs (levs ss m) (wa.alloc (.cells #[] 26)) := by
        have g0 := (oo.row.lt go rfl).2
        have g1 := (orr.row.lt gr rfl).2
        refine ⟨oo.below (by go_grown), (made0S wa).mono zw, orr.below (by go_grown), ?_, ?_, ?_, hL.alloc hL.size _, ?_⟩
        · intro k hk e; simp [Value.ownBlock] at hk e; omega
        · intro k hk e; simp [Value.ownBlock] at hk e; omega
        · intro k hk e; simp [Value.ownBlock] at hk e; omega
        · rw [old_block hbx]; exact hX
      clear oo orr hL hX
      go_wp2_with fail
      go_loopw [7, 10, 11] (fun ov nv iv wr => ∃ (c go co gn cn : Nat) (us ns : List Value), c ≤ (levs ss m).length ∧ iv = .int .i64 c ∧ ov = .slice (some ⟨go, 0, none⟩) (oTo ss ii m c).length co ∧ nv = .slice (some ⟨gn, 0, none⟩) (nTo ss m c).length cn ∧
          WSt v w (.slice (some ⟨go, 0, none⟩) (oTo ss ii m c).length co) us (oTo ss ii m c) (.slice (some ⟨gn, 0, none⟩) (nTo ss m c).length cn) ns (nTo ss m c) (.slice (some ⟨gr, 0, none⟩) (levs ss m).length cr) vs (levs ss m) wr) (fun _ _ iv _ => (levs ss m).length - (intOf iv).toNat)
      case atStart => exact ⟨0, go, co, wa.heap.size, 0, us, [], Nat.zero_le _, rfl, by rw [oTo_zero], by rw [nTo_zero]; rfl, by rw [oTo_zero, nTo_zero]; exact S0⟩
      case round =>
        obtain ⟨c, go, co, gn, cn, us, ns, hc, rfl, rfl, rfl, hS⟩ := hrel
        obtain ⟨wb, hren⟩ : ∃ x, x = wr := ⟨_, rfl⟩
        subst hren
        clear S0
        have hol := oTo_len ss ii m c hm9
        have hnl := nTo_len ss m c hm9
        by_cases hlt2 : c < (levs ss m).length
        · have hlt2' : (c : Int) < ((levs ss m).length : Int) := by omega
          obtain ⟨hwl, j, hj, hjl⟩ := levs_mem hp m _ (List.getElem_mem hlt2)
          have hon := oTo_next ss ii m c hlt2
          have hnn := nTo_next ss m c hlt2
          obtain ⟨u, hu, cu, ou⟩ := hS.r.at hlt2
          obtain ⟨way, hway⟩ : ∃ way, (levs ss m)[c] = way := ⟨_, rfl⟩
          rw [hway] at hwl hj hon hnn ou
          rw [hj] at hon
          obtain ⟨gc, cc, rfl, hgb, hgl⟩ := ou.form (by omega)
          have HU : Hid (vs[c]? = some (.slice (some ⟨gc, 0, none⟩) way.length cc)) := hu
          have HWAY : Hid ((levs ss m)[c]? = some way) := by
            show (levs ss m)[c]? = some way
            rw [List.getElem?_eq_getElem hlt2, hway]
          have cl : wb.cell? ⟨gc, m, none⟩ = some (.int .i64 (j : Int)) := by
            rw [ou.cellAt m (by omega)]
            have : lastI way = way.getD m 0 := by unfold lastI; rw [hwl]; rfl
            rw [this] at hj
            have hml : m < way.length := by omega
            rw [List.getD_eq_getElem?_getD, List.getElem?_eq_getElem hml] at hj
            simp only [Option.getD_some] at hj
            simp [ints, hml, hj]
          rw [hwl] at cu
          have HON : Hid (oTo ss ii m (c + 1) = oTo ss ii m c ++ (if (j : Int) = (ii : Int) then [way] else [])) := hon
          have HNN : Hid (nTo ss m (c + 1) = nTo ss m c ++ grow1 ss way) := hnn
          have HS : Hid (WSt v w (.slice (some ⟨go, 0, none⟩) (oTo ss ii m c).length co) us (oTo ss ii m c) (.slice (some ⟨gn, 0, none⟩) (nTo ss m c).length cn) ns (nTo ss m c) (.slice (some ⟨gr, 0, none⟩) (levs ss m).length cr) vs (levs ss m) wb) := hS
          have hmm1 : ((m + 1 : Nat) : Int) - 1 = (m : Int) := by omega
          clear hon hnn hu hS
          go_wp2_with fail
          go_quiet (fail)
          have S1 : Hid (WSt v w (.slice (some ⟨go, 0, none⟩) (oTo ss ii m c).length co) us (oTo ss ii m c) (.slice (some ⟨gn, 0, none⟩) (nTo ss m c).length cn) ns (nTo ss m c) (.slice (some ⟨gr, 0, none⟩) (levs ss m).length cr) vs (levs ss m) (wb.drewN nq)) := HS.out.below (below_drewN (Below.refl _ _) _)
          have cu1 : (wb.drewN nq).cell? ⟨gr, c, none⟩ = some (.slice (some ⟨gc, 0, none⟩) (m + 1) cc) := cu
          have ou1 : Hid ((wb.drewN nq).ownsRow (w.heap.size + 1) 2 1 (.slice (some ⟨gc, 0, none⟩) way.length cc) way.length (ints way)) := own_kept ou (below_drewN (Below.refl _ _) _)
          clear HS cu cl ou
          generalize wb.drewN nq = wc at *
          have hyo : Hid (oTo ss ii m (c + 1) = oTo ss ii m c ++ (if (j : Int) = (ii : Int) then [way] else [])) := HON.out
          generalize hyy : oTo ss ii m c = yss at *
          by_cases hji : (j : Int) = (ii : Int)
          case' pos =>
            have HO2 : Hid (oTo ss ii m (c + 1) = yss ++ [way]) := by
              show oTo ss ii m (c + 1) = yss ++ [way]
              rw [HON.out, if_pos hji]
            have hbq : ((j : Int) == (ii : Int)) = true := by simpa using hji
            have hcs : Hid (∀ k u, (ints way)[k]? = some u → (wc.alloc (.cells #[] 2)).cell? ((⟨gc, 0, none⟩ : Addr).add k) = some u) := (ou1.out.alloc _).cells rfl
            have hsz : w.heap.size + 1 ≤ wc.heap.size := S1.out.plt
            have hm0 : Hid ((wc.alloc (.cells #[] 2)).ownsRow (w.heap.size + 1) 2 1 (.slice (some ⟨wc.heap.size, 0, none⟩) 0 0) 0 []) := own_mono (made0 wc) hsz
            have hw1 : (ints way).length = (m + 1) * 1 := by rw [ints_length]; omega
            have hfr := S1.out.fresh wc.heap.size (Nat.le_refl _)
            have HFR : Hid _ := hfr
            have cu2 := cell_alloc_kept (.cells #[] 2) cu1
            have hlo : yss.length + 1 ≤ maxLen := by unfold maxLen; omega
            have hlb : (yss.length + 1) * 24 ≤ 140737488355328 := by omega
            clear hfr hji
            go_wp2_with (first
              | (at_builtin; refine wpList_append_lies _ rfl (.tmp 56) (.tmp 60) 26 rfl (w.heap.size + 1) 2 i0 (.int .i64 0) 1 8 Try.underlying26 hi hz0 hz1 hz2 rfl (by decide) _ 0 [] rfl hm0.out ⟨gc, 0, none⟩ (m + 1) cc (ints way) rfl hw1 hcs.out (ints_oneCell way) (by omega) (by unfold maxLen; omega) (by omega) (by simp; omega) _ rfl ?_; intro g1 c1 w1 own1 grow1' hat1 hlt1; simp only [Nat.zero_add, List.nil_append] at own1 ⊢; have S2 : Hid (WSt v w (.slice (some ⟨go, 0, none⟩) yss.length co) us yss (.slice (some ⟨gn, 0, none⟩) (nTo ss m c).length cn) ns (nTo ss m c) (.slice (some ⟨gr, 0, none⟩) (levs ss m).length cr) vs (levs ss m) w1) := WSt.inner (n := 0) (xs := []) (S1.out.below (by go_grown)) grow1' (fun k e => by cases e; exact HFR.out); have O1 : Hid (w1.ownsRow (w.heap.size + 1) 2 1 (.slice (some ⟨g1, 0, none⟩) (m + 1) c1) way.length (ints way)) := (by show w1.ownsRow (w.heap.size + 1) 2 1 (.slice (some ⟨g1, 0, none⟩) (m + 1) c1) way.length (ints way); rw [hwl]; exact own1); have hsz1 : w.heap.size + 1 ≤ w1.heap.size := S2.out.plt; have hone1 : ∀ u ∈ [Value.slice (some ⟨g1, 0, none⟩) (m + 1) c1], u.oneCell' = true := (fun u hu => by simp at hu; subst hu; rfl); clear own1 grow1' hat1 hlt1 cu1 cu2)
              | (at_builtin; refine wpList_append_lies _ rfl (.tmp 55) (.tmp 62) 45 rfl (w.heap.size + 1) 26 i1 (.slice none 0 0) 1 24 Try.underlying45 hjS hy0 hy1 hy2 rfl (by decide) _ yss.length us rfl (S2.out.o.below (by go_grown)).row ⟨w1.heap.size, 0, none⟩ 1 1 [.slice (some ⟨g1, 0, none⟩) (m + 1) c1] rfl rfl (World.news_of_block (heap_alloc_new w1 _)) hone1 (by omega) hlo hlb (by simp; omega) _ rfl ?_; intro g2 c2 w2x own2 grow2 hat2 hlt2x; have S3 : Hid (WSt v w (.slice (some ⟨g2, 0, none⟩) (yss.length + 1) c2) (us ++ [.slice (some ⟨g1, 0, none⟩) (m + 1) c1]) (yss ++ [way]) (.slice (some ⟨gn, 0, none⟩) (nTo ss m c).length cn) ns (nTo ss m c) (.slice (some ⟨gr, 0, none⟩) (levs ss m).length cr) vs (levs ss m) w2x) := WSt.appO (S2.out.below (by go_grown)) (own_kept O1.out (by go_grown)) own2 grow2 hat2; obtain ⟨p2, pf2⟩ := one_cell S3.out.p; clear own2 grow2 hat2 hlt2x)
              | fail)
            have SD : Hid (WSt v w (.slice (some ⟨g2, 0, none⟩) (yss.length + 1) c2) (us ++ [.slice (some ⟨g1, 0, none⟩) (m + 1) c1]) (oTo ss ii m (c + 1)) (.slice (some ⟨gn, 0, none⟩) (nTo ss m c).length cn) ns (nTo ss m c) (.slice (some ⟨gr, 0, none⟩) (levs ss m).length cr) vs (levs ss m) w2x) := by
              show WSt v w (.slice (some ⟨g2, 0, none⟩) (yss.length + 1) c2) _ (oTo ss ii m (c + 1)) _ _ _ _ _ _ w2x
              rw [HO2.out]; exact S3.out
            have HLN : Hid ((oTo ss ii m (c + 1)).length = yss.length + 1) := by
              show (oTo ss ii m (c + 1)).length = yss.length + 1
              rw [HO2.out, List.length_append]; rfl
            generalize us ++ [Value.slice (some ⟨g1, 0, none⟩) (m + 1) c1] = usO at SD
            generalize yss.length + 1 = lo at *
            clear S3 S2 O1 S1 ou1
            obtain ⟨gO, hgO⟩ : ∃ x, x = g2 := ⟨_, rfl⟩
            obtain ⟨cO, hcO⟩ : ∃ x, x = c2 := ⟨_, rfl⟩
            obtain ⟨wd, hwd⟩ : ∃ x, x = w2x := ⟨_, rfl⟩
            subst hgO hcO hwd
          case' neg =>
            have HO2 : Hid (oTo ss ii m (c + 1) = yss) := by
              show oTo ss ii m (c + 1) = yss
              rw [HON.out, if_neg hji, List.append_nil]
            have hbq : ((j : Int) == (ii : Int)) = false := by simpa using hji
            have SD : Hid (WSt v w (.slice (some ⟨go, 0, none⟩) yss.length co) us (oTo ss ii m (c + 1)) (.slice (some ⟨gn, 0, none⟩) (nTo ss m c).length cn) ns (nTo ss m c) (.slice (some ⟨gr, 0, none⟩) (levs ss m).length cr) vs (levs ss m) wc) := by
              show WSt v w (.slice (some ⟨go, 0, none⟩) yss.length co) _ (oTo ss ii m (c + 1)) _ _ _ _ _ _ wc
              rw [HO2.out]; exact S1.out
            have HLN : Hid ((oTo ss ii m (c + 1)).length = yss.length) := by
              show (oTo ss ii m (c + 1)).length = yss.length
              rw [HO2.out]
            generalize us = usO at *
            generalize yss.length = lo at *
            obtain ⟨p2, pf2⟩ := one_cell SD.out.p
            obtain ⟨gO, hgO⟩ : ∃ x, x = go := ⟨_, rfl⟩
            obtain ⟨cO, hcO⟩ : ∃ x, x = co := ⟨_, rfl⟩
            obtain ⟨wd, hwd⟩ : ∃ x, x = wc := ⟨_, rfl⟩
            subst hgO hcO hwd
            clear S1 ou1 hji cu1
            go_wp2_with fail
          all_goals
            go_at_call 28
            refine (l4Next ss j v wd hp hjl (reads3_below hv SD.out.bl)).mono ?_
            rintro e we ⟨gx, cx, rfl, ownx, bx⟩
            have HNX : Hid (nextsS ss[j] j = nx ss j) := (nx_eq hjl).symm
            rw [HNX.out] at ownx ⊢
            have SE : Hid (WSt v w (.slice (some ⟨gO, 0, none⟩) lo cO) usO (oTo ss ii m (c + 1)) (.slice (some ⟨gn, 0, none⟩) (nTo ss m c).length cn) ns (nTo ss m c) (.slice (some ⟨gr, 0, none⟩) (levs ss m).length cr) vs (levs ss m) we) := SD.out.below bx
            have NE : Hid (we.ownsRow (w.heap.size + 1) 2 1 (.slice (some ⟨gx, 0, none⟩) (nx ss j).length cx) (nx ss j).length (ints (nx ss j))) := own_mono ownx SD.out.plt
            clear ownx bx SD p2 pf2
            have hgw : grow1 ss way = (nx ss j).map (fun y => way ++ [y]) := by unfold grow1; rw [hj]; rfl
            have hxl : (nx ss j).length ≤ 2 := by unfold nx; exact nextsS_length _ _
            go_wp2_with fail
            go_loopw [10, 14] (fun nv kv wr => ∃ (k gn cn : Nat) (ns : List Value), k ≤ (nx ss j).length ∧ kv = .int .i64 k ∧ nv = .slice (some ⟨gn, 0, none⟩) (nTo ss m c ++ (grow1 ss way).take k).length cn ∧
                WSt v w (.slice (some ⟨gO, 0, none⟩) lo cO) usO (oTo ss ii m (c + 1)) (.slice (some ⟨gn, 0, none⟩) (nTo ss m c ++ (grow1 ss way).take k).length cn) ns (nTo ss m c ++ (grow1 ss way).take k) (.slice (some ⟨gr, 0, none⟩) (levs ss m).length cr) vs (levs ss m) wr ∧
                wr.ownsRow (w.heap.size + 1) 2 1 (.slice (some ⟨gx, 0, none⟩) (nx ss j).length cx) (nx ss j).length (ints (nx ss j))) (fun _ kv _ => (nx ss j).length - (intOf kv).toNat)
            case atStart => exact ⟨0, gn, cn, ns, Nat.zero_le _, rfl, by simp, by rw [List.take_zero, List.append_nil]; exact SE.out, NE.out⟩
            case round =>
              obtain ⟨k, gn, cn, ns, hk, rfl, rfl, hS, hN⟩ := hrel
              obtain ⟨wq, hwq⟩ : ∃ x, x = wr := ⟨_, rfl⟩
              subst hwq
              clear SE NE
              have Sq : Hid (WSt v w (.slice (some ⟨gO, 0, none⟩) lo cO) usO (oTo ss ii m (c + 1)) (.slice (some ⟨gn, 0, none⟩) (nTo ss m c ++ (grow1 ss way).take k).length cn) ns (nTo ss m c ++ (grow1 ss way).take k) (.slice (some ⟨gr, 0, none⟩) (levs ss m).length cr) vs (levs ss m) wq) := hS
              have Nq : Hid (wq.ownsRow (w.heap.size + 1) 2 1 (.slice (some ⟨gx, 0, none⟩) (nx ss j).length cx) (nx ss j).length (ints (nx ss j))) := hN
              have hgl1 := grow1_len ss way
              have hzl : (nTo ss m c ++ (grow1 ss way).take k).length ≤ 1026 := by
                rw [List.length_append, List.length_take]
                omega
              by_cases hlt3 : k < (nx ss j).length
              · have hlt3' : (k : Int) < ((nx ss j).length : Int) := by omega
                obtain ⟨y, hy⟩ : ∃ y, (nx ss j)[k] = y := ⟨_, rfl⟩
                have HNT : Hid (nTo ss m c ++ (grow1 ss way).take (k + 1) = (nTo ss m c ++ (grow1 ss way).take k) ++ [way ++ [y]]) := by
                  show nTo ss m c ++ (grow1 ss way).take (k + 1) = _
                  have hkl : k < (grow1 ss way).length := by rw [hgw, List.length_map]; exact hlt3
                  rw [List.take_succ_eq_append_getElem hkl, ← List.append_assoc]
                  congr 2
                  simp [hgw, hy]
                have cy : wq.cell? ⟨gx, k, none⟩ = some (.int .i64 y) := by
                  rw [hN.cellAt k (by omega)]
                  simp [ints, hlt3, hy]
                have oq : wq.ownsRow (w.heap.size + 1) 2 1 (.slice (some ⟨gc, 0, none⟩) way.length cc) way.length (ints way) := hS.r.each c _ way HU.out HWAY.out
                have cuq : wq.cell? ⟨gr, c, none⟩ = some (.slice (some ⟨gc, 0, none⟩) (m + 1) cc) := by
                  rw [hS.r.row.cellAt c (by omega), HU.out, hwl]
                have HY3 : Hid ((nx ss j)[k] = y) := hy
                clear hS hN hy
                generalize hyy2 : nTo ss m c ++ (grow1 ss way).take k = zs at *
                clear hyy2
                have hsz : w.heap.size + 1 ≤ wq.heap.size := Sq.out.plt
                have hE1 : Hid ((wq.alloc (.cells #[] 2)).ownsRow (w.heap.size + 1) 2 1 (.slice (some ⟨wq.heap.size, 0, none⟩) 0 0) 0 []) := own_mono (made0 wq) hsz
                have hE3 : Hid (((wq.alloc (.cells #[.int .i64 y] 2)).alloc (.cells #[] 2)).ownsRow (w.heap.size + 1) 2 1 (.slice (some ⟨wq.heap.size + 1, 0, none⟩) 0 0) 0 []) := by
                  have h := own_mono (made0 (wq.alloc (.cells #[.int .i64 y] 2))) (base' := w.heap.size + 1) (by simp; omega)
                  have z : (wq.alloc (.cells #[.int .i64 y] 2)).heap.size = wq.heap.size + 1 := by simp
                  rw [z] at h
                  exact h
                have hk2 : ((wq.alloc (.cells #[] 2)).alloc (.cells #[.int .i64 y] 2)).cell? ⟨wq.heap.size + 1, 0, none⟩ = some (.int .i64 y) := by
                  have h := (one_cell (heap_alloc_new (wq.alloc (.cells #[] 2)) (.cells #[.int .i64 y] 2))).1
                  have z : (wq.alloc (.cells #[] 2)).heap.size = wq.heap.size + 1 := by simp
                  rw [z] at h
                  exact h
                have hk3 : ((wq.alloc (.cells #[.int .i64 y] 2)).alloc (.cells #[] 2)).cell? ⟨wq.heap.size, 0, none⟩ = some (.int .i64 y) := cell_alloc_kept _ (one_cell (heap_alloc_new wq (.cells #[.int .i64 y] 2))).1
                have HK2 : Hid _ := hk2
                have HK3 : Hid _ := hk3
                have hw1 : (ints way).length = (m + 1) * 1 := by rw [ints_length]; omega
                have hlz : zs.length + 1 ≤ maxLen := by unfold maxLen; omega
                have hlzb : (zs.length + 1) * 24 ≤ 140737488355328 := by omega
                have hcR : ∀ W : World, OwnSS W (w.heap.size + 1) (.slice (some ⟨gr, 0, none⟩) (levs ss m).length cr) vs (levs ss m) → W.cell? ⟨gr, c, none⟩ = some (.slice (some ⟨gc, 0, none⟩) (m + 1) cc) := fun W h => by rw [h.row.cellAt c (by omega), HU.out, hwl]
                have hcN : ∀ W : World, W.ownsRow (w.heap.size + 1) 2 1 (.slice (some ⟨gx, 0, none⟩) (nx ss j).length cx) (nx ss j).length (ints (nx ss j)) → W.cell? ⟨gx, k, none⟩ = some (.int .i64 y) := fun W h => by
                  rw [h.cellAt k (by omega)]
                  simp [ints, hlt3, HY3.out]
                clear hk2 hk3
                go_wp2_with fail
                have hcRH : Hid (∀ W : World, OwnSS W (w.heap.size + 1) (.slice (some ⟨gr, 0, none⟩) (levs ss m).length cr) vs (levs ss m) → W.cell? ⟨gr, c, none⟩ = some (.slice (some ⟨gc, 0, none⟩) (m + 1) cc) ∧ W.ownsRow (w.heap.size + 1) 2 1 (.slice (some ⟨gc, 0, none⟩) (m + 1) cc) (m + 1) (ints way)) := fun W h => ⟨hcR W h, by
                  have h2 := h.each c _ way HU.out HWAY.out
                  rw [hwl] at h2
                  exact h2⟩
                have hcNH : Hid (∀ W : World, W.ownsRow (w.heap.size + 1) 2 1 (.slice (some ⟨gx, 0, none⟩) (nx ss j).length cx) (nx ss j).length (ints (nx ss j)) → W.cell? ⟨gx, k, none⟩ = some (.int .i64 y)) := hcN
                refine waysRegion v w (.slice (some ⟨gO, 0, none⟩) lo cO) usO (oTo ss ii m (c + 1)) gn cn ns zs gr (levs ss m).length cr vs (levs ss m) gx (nx ss j).length cx (nx ss j) way y c k m gc cc wq.heap.size _ _ _ _ _ _ _ _ _ _ _ _ _ _ _ _ _ _ _ _ _ _ _ _ _ _ _ _ _ _ _ _ _ _ _ _ _ _ _ _ _ _ _ _ _ _ _ _ _ _ _ _ _ _ _ _ _ _ _ _ _ _ _ _ _ _ _ _ _ _ _ _ _ _ _ _ _ _ _ _ _ _ _ _ _ _ wq hi hz0 hz1 hz2 hjS hy0 hy1 hy2 rfl rfl hwl (by omega) (by omega) (by omega) (by omega) (by omega) (by omega) Sq.out Nq.out hcRH hcNH ?_
                intro x10 x73 x74 x75 x76 x77 x78 x79 x80 x81 x82 x83 x84 x85 x86 x87 g2 c2 g3 c3 w3 hx10 S3 N3
                subst hx10
                have HS3 : Hid _ := S3
                have HN3 : Hid _ := N3
                clear S3 N3 hcR hcN hcRH hcNH hE1 hE3 HK2 HK3 Sq Nq cy oq cuq
                have HLZ : Hid ((nTo ss m c ++ (grow1 ss way).take (k + 1)).length = zs.length + 1) := by
                  show (nTo ss m c ++ (grow1 ss way).take (k + 1)).length = zs.length + 1
                  rw [HNT.out, List.length_append]; rfl
                go_wp2
                go_roundw
                case rel => exact ⟨k + 1, g3, c3, _, by omega, by go_num, by rw [HLZ.out], by rw [HLZ.out, HNT.out]; exact HS3.out, HN3.out⟩
                case measure => simp [intOf]; omega
              · have hkk : k = (nx ss j).length := by omega
                subst hkk
                have HFN : Hid (nTo ss m (c + 1) = nTo ss m c ++ (grow1 ss way).take (nx ss j).length) := by
                  show nTo ss m (c + 1) = _
                  have e : ((nx ss j).map (fun y => way ++ [y])).length = (nx ss j).length := List.length_map _
                  rw [HNN.out, hgw, ← e, List.take_length]
                clear hS hN
                go_wp2
                go_roundw
                case rel => exact ⟨c + 1, gO, cO, gn, cn, usO, ns, by omega, by go_num, by rw [HLN.out], by rw [HFN.out], by rw [HLN.out, HFN.out]; exact Sq.out⟩
                case measure => simp [intOf]; omega
        · have hcc : c = (levs ss m).length := by omega
          subst hcc
          have HS : Hid (WSt v w (.slice (some ⟨go, 0, none⟩) (oTo ss ii m (levs ss m).length).length co) us (oTo ss ii m (levs ss m).length) (.slice (some ⟨gn, 0, none⟩) (nTo ss m (levs ss m).length).length cn) ns (nTo ss m (levs ss m).length) (.slice (some ⟨gr, 0, none⟩) (levs ss m).length cr) vs (levs ss m) wb) := hS
          have HOA : Hid (oTo ss ii m (levs ss m).length = waysTo ss ii (m + 1)) := oTo_all ss ii m
          have HNA : Hid (nTo ss m (levs ss m).length = levs ss (m + 1)) := nTo_all ss m
          have hgon : go ≠ gn := fun e => hS.on go rfl (by rw [e]; rfl)
          clear hS
          go_wp2
          go_roundw
          case rel => exact ⟨m + 1, go, co, gn, cn, us, ns, by omega, by go_num, by rw [HOA.out], by rw [HNA.out], by rw [← HOA.out]; exact HS.out.o, by rw [← HNA.out]; exact HS.out.n, hgon, HS.out.bl, HS.out.p⟩
          case measure => simp [intOf]; omega
    · obtain rfl : m = M := by omega
      have hlt' : ¬ (m : Int) + 1 ≤ (m : Int) := by omega
      go_wp2
      go_ret
      exact ⟨_, rfl, ⟨us, oo.mono (by omega)⟩, hL⟩

end Go.Proofs.Ytciccbbgamklbaa
