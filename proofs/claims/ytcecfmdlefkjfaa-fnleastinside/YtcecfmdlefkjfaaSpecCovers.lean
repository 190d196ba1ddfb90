/-
  spec.Covers.
-/
import Derived.Test.YtcecfmdlefkjfaaSpecAlong
import Derived.BigRegion
namespace Go.Proofs.Ytcecfmdlefkjfaa
open Go.RowKit
set_option linter.unusedVariables false
set_option maxHeartbeats 4000000
set_option maxRecDepth 4000

theorem all127_take {xs : List Int} {k : Nat} (hk : k < xs.length) (h : (xs.take k).all (fun x => inB x 0 127) = true) (hx : inB (xs.getD k 0) 0 127 = true) : (xs.take (k + 1)).all (fun x => inB x 0 127) = true :=
  take_all hk h (by simpa [List.getD, hk] using hx)

theorem all127_not {xs : List Int} {k : Nat} (hk : k < xs.length) (hx : inB (xs.getD k 0) 0 127 = false) : xs.all (fun x => inB x 0 127) = false :=
  all_not hk (by simpa [List.getD, hk] using hx)

/-- The first k nexts of statement i have all that it makes. -/
def covT (c : Int) (ss : List Stm) (xs : List Int) (i k : Nat) : Bool := ((nx ss i).take k).all (fun x => hasA (xs.getD x.toNat 0) (img (flw c ss i) (xs.getD i 0)))

theorem covT_succ {c : Int} {ss : List Stm} {xs : List Int} {i k : Nat} (hk : k < (nx ss i).length) : covT c ss xs i (k + 1) = (covT c ss xs i k && hasA (xs.getD ((nx ss i)[k]).toNat 0) (img (flw c ss i) (xs.getD i 0))) := by
  unfold covT
  rw [all_take_succ _ _ _ hk]

theorem covT_all {c : Int} {ss : List Stm} {xs : List Int} {i k : Nat} (hk : (nx ss i).length ≤ k) : covT c ss xs i k = covI c ss xs i := by
  unfold covT covI
  rw [List.take_of_length_le hk]

theorem covT_not {c : Int} {ss : List Stm} {xs : List Int} {i k : Nat} (hk : k < (nx ss i).length) (h : hasA (xs.getD ((nx ss i)[k]).toNat 0) (img (flw c ss i) (xs.getD i 0)) = false) : covI c ss xs i = false :=
  all_false _ _ k hk h

theorem covK_not {c : Int} {ss : List Stm} {xs : List Int} {i n : Nat} (hi : i < n) (h : covI c ss xs i = false) : covK c ss xs n = false := by
  cases hn : covK c ss xs n with
  | false => rfl
  | true => rw [covK_iff.1 hn i hi] at h; cases h

theorem nxI {ss : List Stm} {i : Nat} (hi : i < ss.length) : nextsS ss[i] i = nx ss i := (nx_eq hi).symm

theorem has_bne {a b : Int} : (lor a b != a) = !hasA a b := by
  unfold hasA
  rw [bne, Bool.eq_iff_iff]; simp

theorem specCovers (ss : List Stm) (c s : Int) (ys : List Int) (v u : Value) (w : World) (hl : ss.length ≤ maxLen) (hy : ys.length ≤ maxLen) (hv : Reads3 w v ss) (hu : Reads w u (ints ys)) :
    Calls Try.prog 21 #[.agg #[v], .int .i64 c, .int .i64 s, u] w fun e w' => e = .returned (.bool (coversAns ss c s ys)) ∧ Below w.heap.size w w' := by
  have hb0 : Below w.heap.size w (w.alloc (.cells #[v] 26)) := by go_grown
  have hpo := specProcOk ss v _ hl (reads3_below hv hb0)
  have hcl : ∀ W, Calls Try.prog 35 #[.int .i64 c] W (fun e w' => e = .returned (.bool (isCl c)) ∧ W = w') := fun W => l7Client c W
  have hin := fun W => l1In s 0 127 W
  have H0 := heap_alloc_new w (.cells #[v] 26)
  have s0 : (w.alloc (.cells #[v] 26)).heap.size = w.heap.size + 1 := by simp
  unfold coversAns
  cases hok : procOk ss
  · rw [hok] at hpo
    simp only [Bool.false_and]
    go_enter Try.func21, Try.ntmps21
    go_wp2_with (go_at_call 34; refine hpo.mono ?_; rintro e w2 ⟨rfl, b2⟩)
    go_ret
    exact ⟨rfl, hb0.trans (b2.mono hb0.size)⟩
  rw [hok] at hpo
  cases hic : isCl c
  · rw [hic] at hcl
    simp only [Bool.and_false, Bool.false_and]
    go_enter Try.func21, Try.ntmps21
    go_wp2_with (first
      | (go_at_call 34; refine hpo.mono ?_; rintro e w2 ⟨rfl, b2⟩)
      | (go_at_call 35; refine (hcl _).mono ?_; rintro e w3 ⟨rfl, rfl⟩))
    go_ret
    exact ⟨rfl, hb0.trans (b2.mono hb0.size)⟩
  rw [hic] at hcl
  cases hs : inB s 0 127
  · rw [hs] at hin
    simp only [Bool.and_false, Bool.false_and]
    go_enter Try.func21, Try.ntmps21
    go_wp2_with (first
      | (go_at_call 34; refine hpo.mono ?_; rintro e w2 ⟨rfl, b2⟩)
      | (go_at_call 35; refine (hcl _).mono ?_; rintro e w3 ⟨rfl, rfl⟩)
      | (go_at_call 36; refine (hin _).mono ?_; rintro e w4 ⟨rfl, rfl⟩))
    go_ret
    exact ⟨rfl, hb0.trans (b2.mono hb0.size)⟩
  rw [hs] at hin
  simp only [Bool.true_and]
  have hsm := small_in.1 hs
  have hc : c = 1 ∨ c = 2 := by simpa [isCl] using hic
  obtain ⟨h1s, h12, _⟩ := procOk_parts hok
  obtain ⟨vo, vc, hv0, hcv⟩ := id hv
  obtain ⟨ao, cap, hu0, hcu⟩ := id hu
  rw [ints_length] at hu0
  unfold maxLen at hy
  by_cases hlen : ¬ ys.length = ss.length
  · have hd : decide (ys.length = ss.length) = false := by simpa using hlen
    rw [hd]
    simp only [Bool.false_and]
    have hne : ((ys.length : Int) != (ss.length : Int)) = true := by simp; omega
    subst hu0 hv0
    go_enter Try.func21, Try.ntmps21
    go_wp2_with fail
    go_at_call 34
    refine hpo.mono ?_
    rintro e w2 ⟨rfl, b2⟩
    have L2 := hb0.trans (b2.mono hb0.size)
    obtain ⟨c0, f0⟩ := one_cell ((b2.block w.heap.size (by omega)).trans H0)
    clear hcu hcv
    go_wp2_with (first
      | (go_at_call 35; refine (hcl _).mono ?_; rintro e w3 ⟨rfl, rfl⟩)
      | (go_at_call 36; refine (hin _).mono ?_; rintro e w4 ⟨rfl, rfl⟩))
    go_ret
    exact ⟨rfl, L2⟩
  have hlen : ys.length = ss.length := Decidable.not_not.1 hlen
  have hd : decide (ys.length = ss.length) = true := by simpa using hlen
  rw [hd]
  simp only [Bool.true_and]
  obtain ⟨R, hR⟩ : ∃ R, (ys.all (fun x => inB x 0 127) && hasA (ys.getD 0 0) s && covK c ss ys ss.length) = R := ⟨_, rfl⟩
  rw [hR]
  have HR : Hid _ := hR
  clear hR
  obtain ⟨g, off, rfl, hy0⟩ := hcu 0 (.int .i64 (ys.getD 0 0)) (ints_get ys 0 (by omega))
  have gB := World.block_lt_of_cell? w _ hy0
  clear hy0
  rw [hlen] at hu0
  have HL : Hid _ := hlen
  clear hlen hd
  have hne : ((ss.length : Int) != (ss.length : Int)) = false := by simp
  subst hu0 hv0
  go_enter Try.func21, Try.ntmps21
  go_wp2_with fail
  go_at_call 34
  refine hpo.mono ?_
  rintro e w2 ⟨rfl, b2⟩
  have L2 := hb0.trans (b2.mono hb0.size)
  have s2 := b2.size
  have H2 : Hid _ := (b2.block w.heap.size (by omega)).trans H0
  obtain ⟨c0, f0⟩ := one_cell H2.out
  go_wp2_with (first
    | (go_at_call 35; refine (hcl _).mono ?_; rintro e w3 ⟨rfl, rfl⟩)
    | (go_at_call 36; refine (hin _).mono ?_; rintro e w4 ⟨rfl, rfl⟩))
  go_loopw [9] (fun i wr => ∃ (k : Nat), k ≤ ss.length ∧ i = .int .i64 k ∧ (ys.take k).all (fun x => inB x 0 127) = true ∧ wr = w2) (fun i _ => ss.length - (intOf i).toNat)
  case atStart => exact ⟨0, by omega, rfl, by simp, rfl⟩
  case round =>
    obtain ⟨k, hk, rfl, hall, hwr⟩ := hrel
    subst wr
    have HA : Hid _ := hall
    clear hall
    by_cases hlt : k < ss.length
    · have hlt' : (k : Int) < (ss.length : Int) := by omega
      have hky : k < ys.length := by rw [HL.out]; exact hlt
      have q0 := cut_cell hcu (k := k) hky
      have q0 := (L2.cell (World.block_lt_of_cell? w _ q0)).trans q0
      have hix := fun W => l1In (ys.getD k 0) 0 127 W
      cases hb : inB (ys.getD k 0) 0 127
      · rw [hb] at hix
        have HF : Hid (R = false) := by
          show R = false
          rw [← HR.out, all127_not hky hb]; simp
        generalize ys.getD k 0 = y at *
        clear hcu
        go_wp2_with (go_at_call 36; refine (hix _).mono ?_; rintro e w5 ⟨rfl, rfl⟩)
        go_ret
        exact ⟨by rw [HF.out]; rfl, L2⟩
      · rw [hb] at hix
        have HA2 : Hid _ := all127_take hky HA.out hb
        generalize ys.getD k 0 = y at *
        clear hcu
        go_wp2_with (go_at_call 36; refine (hix _).mono ?_; rintro e w5 ⟨rfl, rfl⟩)
        go_roundw
        case rel => exact ⟨k + 1, by omega, by go_num, HA2.out, by first | trivial | rfl⟩
        case measure => simp [intOf]; omega
    · obtain rfl : k = ss.length := by omega
      have hall : ys.all (fun x => inB x 0 127) = true := by
        have := HA.out
        rwa [List.take_of_length_le (by rw [HL.out]; exact Nat.le_refl _)] at this
      rw [hall] at HR
      clear HA hk
      have hall' : Hid _ := hall
      clear hall
      have q0 := cut_cell hcu (k := 0) (by rw [HL.out]; exact h1s)
      have q0 := (L2.cell (World.block_lt_of_cell? w _ q0)).trans q0
      rw [Nat.add_zero] at q0
      have hs0 := smallAll hall'.out 0
      have hbn : (bits .or .i64 (ys.getD 0 0) s != ys.getD 0 0) = !hasA (ys.getD 0 0) s := has_bne
      have hp0 : (0 : Int) < (ss.length : Int) := by omega
      cases hha : hasA (ys.getD 0 0) s
      · rw [hha] at hbn HR
        have HF : Hid (R = false) := by
          show R = false
          rw [← HR.out]; simp
        generalize ys.getD 0 0 = y at *
        clear hcu
        go_wp2_with fail
        go_region
        go_wp2
        go_ret
        exact ⟨by rw [HF.out]; rfl, by go_grown⟩
      rw [hha] at hbn HR
      have HR2 : Hid (covK c ss ys ss.length = R) := by
        show covK c ss ys ss.length = R
        rw [← HR.out]; simp
      clear HR
      generalize hyy : ys.getD 0 0 = y at *
      clear hyy
      go_wp2_with fail
      go_region
      go_wp2
      obtain ⟨w2d, hw2d⟩ : ∃ x, x = w2.drew := ⟨_, rfl⟩
      have LD : Below w.heap.size w w2d := by rw [hw2d]; exact Below.drew L2
      have HD : Hid (w2d.heap[w.heap.size]? = some (.cells #[.slice vo ss.length vc] 26 (0, 0))) := by rw [hw2d]; exact H2.out
      have sD : w.heap.size + 1 ≤ w2d.heap.size := by rw [hw2d]; simpa using s2
      rw [← hw2d]
      clear hw2d q0
      go_loopw [10] (fun i wr => ∃ (k : Nat), k ≤ ss.length ∧ i = .int .i64 k ∧ covK c ss ys k = true ∧ Below w2d.heap.size w2d wr) (fun i _ => ss.length - (intOf i).toNat)
      case atStart => exact ⟨0, by omega, rfl, rfl, Below.refl _ _⟩
      case round =>
        obtain ⟨k, hk, rfl, hcov, hb⟩ := hrel
        have HC : Hid _ := hcov
        clear hcov
        have LR := LD.trans (hb.mono LD.size)
        have sb := hb.size
        have HP : Hid _ := (hb.block w.heap.size (by omega)).trans HD.out
        obtain ⟨c0, f0⟩ := one_cell HP.out
        by_cases hlt : k < ss.length
        · have hlt' : (k : Int) < (ss.length : Int) := by omega
          have hky : k < ys.length := by rw [HL.out]; exact hlt
          have q0 := cut_cell hcu (k := k) hky
          have q0 := (LR.cell (World.block_lt_of_cell? w _ q0)).trans q0
          obtain ⟨vg, voff, rfl, p0, p1, p2⟩ := hcv k ss[k] (by simp [hlt])
          have pB := World.block_lt_of_cell? w _ p0
          have p0 := (LR.cell pB).trans p0
          have p1 := (LR.cell (p := ⟨vg, voff + k * 3 + 1, none⟩) pB).trans p1
          have p2 := (LR.cell (p := ⟨vg, voff + k * 3 + 2, none⟩) pB).trans p2
          have hsm2 := smallAll hall'.out k
          have hfs := flw_smalls (c := c) hok hlt
          have hlf := fun W => l7Flow c ss[k].k ss[k].x ss[k].y hc (stm_ok hok hlt) W
          rw [← flw_eq hlt] at hlf
          have hnx := fun W (hW : Below w.heap.size w W) => l4Next ss k _ W hok hlt (reads3_below hv hW)
          rw [nxI hlt] at hnx
          have HS : Hid (covK c ss ys (k + 1) = covI c ss ys k) := by
            show covK c ss ys (k + 1) = _
            rw [covK, HC.out, Bool.true_and]
          have HT : Hid (∀ m (hm : m < (nx ss k).length), ∃ j : Nat, (nx ss k)[m] = (j : Int) ∧ j < ss.length ∧ covT c ss ys k (m + 1) = (covT c ss ys k m && hasA (ys.getD j 0) (img (flw c ss k) (ys.getD k 0))) ∧ (hasA (ys.getD j 0) (img (flw c ss k) (ys.getD k 0)) = false → covI c ss ys k = false)) := fun m hm => by
            obtain ⟨j, hj, hjl⟩ := nx_in hok hlt _ (List.getElem_mem hm)
            have e := covT_succ (c := c) (xs := ys) hm
            rw [hj, Int.toNat_natCast] at e
            refine ⟨j, hj, hjl, e, fun h => covT_not hm ?_⟩
            rw [hj, Int.toNat_natCast]
            exact h
          have HE : Hid (covT c ss ys k (nx ss k).length = covI c ss ys k) := covT_all (Nat.le_refl _)
          have hn2 : (nx ss k).length ≤ 2 := by rw [nx_eq hlt]; exact nextsS_length _ _
          have h7 := hfs.1
          generalize hyk : ys.getD k 0 = y at *
          clear hyk
          generalize flw c ss k = rs at *
          have hsi := img_small hfs y
          have zg : g < wr.heap.size := by omega
          have zw : w.heap.size < wr.heap.size := by omega
          have zv : vg < wr.heap.size := by simp only at pB; omega
          go_wp2_with fail
          obtain ⟨st, hst⟩ : ∃ st, st = ss[k] := ⟨_, rfl⟩
          rw [← hst] at p0 p1 p2 hlf
          clear hst
          go_region_held3 (fun w' => w'.cell? ⟨w.heap.size, 0, none⟩ = some (.slice (some ⟨vg, voff, none⟩) ss.length vc) ∧ w'.cell? ⟨vg, voff + k * 3, none⟩ = some (.int .i64 st.k) ∧ w'.cell? ⟨vg, voff + k * 3 + 1, none⟩ = some (.int .i64 st.x) ∧ w'.cell? ⟨vg, voff + k * 3 + 2, none⟩ = some (.int .i64 st.y) ∧ w'.cell? ⟨g, off + k, none⟩ = some (.int .i64 y)) (first | exact ⟨c0, p0, p1, p2, q0⟩ | exact ⟨(hc3 _ _ zw).trans c0, (hc3 _ _ zv).trans p0, (hc3 _ _ zv).trans p1, (hc3 _ _ zv).trans p2, (hc3 _ _ zg).trans q0⟩ | exact ⟨(hc4 _ _ zw).trans c0, (hc4 _ _ zv).trans p0, (hc4 _ _ zv).trans p1, (hc4 _ _ zv).trans p2, (hc4 _ _ zg).trans q0⟩) (first
            | (go_at_call 38; refine (hlf _).mono ?_; rintro e w3 ⟨B, rfl, hB3, i3, b3⟩; have M3 : Below wr.heap.size wr w3 := Below.trans (by go_grown) b3; obtain ⟨hc3, hf3⟩ := bcell M3)
            | (go_at_call 37; refine (l6Image rs y _ _ hfs hsm2 (reads_below (int_reads i3 h7) (by go_grown))).mono ?_; rintro e w4 ⟨rfl, b4⟩; have M4 : Below wr.heap.size wr w4 := Below.trans (Below.trans M3 (by go_grown)) (b4.mono M3.size); obtain ⟨hc4, hf4⟩ := bcell M4))
          have d0 := (hc4 _ _ zw).trans c0
          have B4 : Below w2d.heap.size w2d w4 := hb.trans (M4.mono hb.size)
          have L4 := LD.trans (B4.mono LD.size)
          have s4 := B4.size
          clear hc3 hf3 i3 b3 M3 b4 c0 p0 p1 p2 q0 hlf hf4 hc4
          go_wp2_with fail
          go_at_call 39
          refine (hnx _ L4).mono ?_
          rintro e w5 ⟨gn, cn, rfl, own5, b5⟩
          have s5 := b5.size
          have B5 : Below w2d.heap.size w2d w5 := B4.trans (b5.mono B4.size)
          have L5 := LD.trans (B5.mono LD.size)
          clear d0 hnx
          obtain ⟨ns, hns⟩ : ∃ ns, nx ss k = ns := ⟨_, rfl⟩
          have HN : Hid (nx ss k = ns) := hns
          rw [hns] at own5 hn2
          have HO : Hid _ := own5
          clear hns own5
          rw [HN.out]
          go_wp2_with fail
          clear f0 zg zw zv M4 hb
          go_loopw [13] (fun i wx => ∃ (m : Nat), m ≤ ns.length ∧ i = .int .i64 m ∧ covT c ss ys k m = true ∧ Below w5.heap.size w5 wx) (fun i _ => ns.length - (intOf i).toNat)
          case atStart => exact ⟨0, by omega, rfl, rfl, Below.refl _ _⟩
          case round =>
            obtain ⟨m, hm, rfl, hcv2, hb2⟩ := hrel
            have HC2 : Hid _ := hcv2
            clear hcv2
            have L6 := L5.trans (hb2.mono L5.size)
            have sb2 := hb2.size
            have B6 := B5.trans (hb2.mono B5.size)
            by_cases hmt : m < ns.length
            · have hmt' : (m : Int) < (ns.length : Int) := by omega
              obtain ⟨j, hj, hjl, hcs, hcn⟩ := HT.out m (by rw [HN.out]; exact hmt)
              have q1 := cut_cell hcu (k := j) (by rw [HL.out]; exact hjl)
              have q1 := (L6.cell (World.block_lt_of_cell? w _ q1)).trans q1
              have hjl' : (j : Int) < (ss.length : Int) := by omega
              have hsj := smallAll hall'.out j
              have cn1 : wr.cell? ⟨gn, m, none⟩ = some (.int .i64 (j : Int)) := by
                have h1 := own_kept HO.out hb2
                have h2 := h1.cellAt m (by omega)
                have h3 : ns[m] = (j : Int) := by
                  have := hj
                  simp only [HN.out] at this
                  exact this
                rw [h2]
                simp [ints, hmt, h3]
              have hbn : (bits .or .i64 (ys.getD j 0) (img rs y) != ys.getD j 0) = !hasA (ys.getD j 0) (img rs y) := has_bne
              cases hha : hasA (ys.getD j 0) (img rs y)
              · rw [hha] at hbn
                have HF : Hid (R = false) := by
                  show R = false
                  rw [← HR2.out]; exact covK_not hlt (hcn hha)
                generalize ys.getD j 0 = yj at *
                generalize img rs y = z at *
                clear hcu hcv hcs hcn hj
                go_wp2_with fail
                go_region
                go_wp2
                go_ret
                exact ⟨by rw [HF.out]; rfl, Below.drew L6⟩
              · rw [hha] at hbn hcs
                have HC3 : Hid (covT c ss ys k (m + 1) = true) := by
                  show covT c ss ys k (m + 1) = true
                  rw [hcs, HC2.out]; rfl
                generalize ys.getD j 0 = yj at *
                generalize img rs y = z at *
                clear hcu hcv hcs hcn hj
                go_wp2_with fail
                go_region
                go_wp2
                go_roundw
                case rel => exact ⟨m + 1, by omega, by go_num, HC3.out, Below.drew hb2⟩
                case measure => simp [intOf]; omega
            · obtain rfl : m = ns.length := by omega
              have HC3 : Hid (covK c ss ys (k + 1) = true) := by
                show covK c ss ys (k + 1) = true
                rw [HS.out, ← HE.out, HN.out]; exact HC2.out
              go_wp2
              go_roundw
              case rel => exact ⟨k + 1, by omega, by go_num, HC3.out, B6⟩
              case measure => simp [intOf]; omega
        · obtain rfl : k = ss.length := by omega
          have HF : Hid (R = true) := HR2.out.symm.trans HC.out
          go_wp2
          go_ret
          exact ⟨by rw [HF.out]; rfl, LR⟩

end Go.Proofs.Ytcecfmdlefkjfaa
