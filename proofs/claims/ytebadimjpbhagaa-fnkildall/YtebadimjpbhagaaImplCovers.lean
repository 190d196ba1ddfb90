/-
  impl.Covers.
-/
import Derived.Test.YtebadimjpbhagaaG49ImplAlong
import Derived.Test.YtebadimjpbhagaaG18LeastM
namespace Go.Proofs.Ytebadimjpbhagaa
open Go.RowKit
set_option linter.unusedVariables false
set_option maxHeartbeats 4000000
set_option maxRecDepth 4000

theorem indexNoSet (xs : List Int) (v : Value) (w : World) (hl : xs.length ≤ maxLen) (hv : Reads w v (ints xs)) :
    Calls Try.prog 93 #[v, .func (.func 53) #[] #[]] w fun e w' => ∃ r : Int, e = .returned (.int .i64 r) ∧ decide (0 ≤ r) = !xs.all (fun x => inB x 0 127) ∧ -1 ≤ r ∧ r ≤ 9223372036854775807 ∧ w = w' := by
  unfold maxLen at hl
  obtain ⟨ao, cap, rfl, hc⟩ := hv
  rw [ints_length]
  obtain ⟨B, hB⟩ : ∃ B, xs.all (fun x => inB x 0 127) = B := ⟨_, rfl⟩
  rw [hB]
  have HB : Hid _ := hB
  clear hB
  go_enter Try.func93, Try.ntmps93
  go_wp2
  go_loopw [8] (fun i wr => ∃ k : Nat, k ≤ xs.length ∧ i = .int .i64 k ∧ (xs.take k).all (fun x => inB x 0 127) = true ∧ w = wr) (fun i _ => xs.length - (intOf i).toNat)
  case atStart => exact ⟨0, Nat.zero_le _, rfl, by simp, rfl⟩
  case round =>
    obtain ⟨k, hk, rfl, hno, rfl⟩ := hrel
    have HNO : Hid _ := hno
    clear hno
    by_cases hlt : k < xs.length
    · have hlt' : (k : Int) < (xs.length : Int) := by omega
      obtain ⟨g, off, rfl, hg⟩ := hc k (.int .i64 (xs.getD k 0)) (ints_get xs k hlt)
      have his := fun W => isNoSet (xs.getD k 0) W
      cases hb : inB (xs.getD k 0) 0 127
      · rw [hb] at his
        have HF : Hid (B = false) := by
          show B = false
          rw [← HB.out]; exact all127_not hlt hb
        clear hc
        generalize xs.getD k 0 = x at *
        go_wp2_with (go_at_call 53; refine (his _).mono ?_; rintro e w5 ⟨rfl, rfl⟩)
        go_ret
        exact ⟨_, rfl, by rw [HF.out]; simp, by omega, by omega, rfl⟩
      · rw [hb] at his
        have HA2 : Hid _ := all127_take hlt HNO.out hb
        clear hc
        generalize xs.getD k 0 = x at *
        go_wp2_with (go_at_call 53; refine (his _).mono ?_; rintro e w5 ⟨rfl, rfl⟩)
        go_roundw
        case rel => exact ⟨k + 1, by omega, by go_num, HA2.out, by first | trivial | rfl⟩
        case measure => simp [intOf]; omega
    · obtain rfl : k = xs.length := by omega
      have HF : Hid (B = true) := by
        show B = true
        rw [← HB.out]
        have := HNO.out
        rwa [List.take_of_length_le (Nat.le_refl _)] at this
      go_wp2
      go_ret
      exact ⟨_, rfl, by rw [HF.out]; simp, by omega, by omega, rfl⟩

theorem containsNoSet (xs : List Int) (v : Value) (w : World) (hl : xs.length ≤ maxLen) (hv : Reads w v (ints xs)) :
    Calls Try.prog 52 #[v, .func (.func 53) #[] #[]] w fun e w' => e = .returned (.bool (!xs.all (fun x => inB x 0 127))) ∧ w = w' := by
  go_enter Try.func52, Try.ntmps52
  go_wp2_with fail
  go_at_call 93
  refine (indexNoSet xs v w hl hv).mono ?_
  rintro e w' ⟨r, rfl, hr, h1, h2, rfl⟩
  have HR : Hid _ := hr
  clear hr
  go_wp2
  go_ret
  exact ⟨by rw [← HR.out]; simp, rfl⟩

theorem implCovers (ss : List Stm) (c s : Int) (ys : List Int) (v u : Value) (w : World) (hl : ss.length ≤ maxLen) (hy : ys.length ≤ maxLen) (hv : Reads3 w v ss) (hu : Reads w u (ints ys)) :
    Calls Try.prog 14 #[.agg #[v], .int .i64 c, .int .i64 s, u] w fun e w' => e = .returned (.bool (coversAns ss c s ys)) ∧ Below w.heap.size w w' := by
  have hb0 : Below w.heap.size w (w.alloc (.cells #[v] 26)) := by go_grown
  have hfi := fun W (hW : Below w.heap.size w W) => flowsInside ss c s v W hl (reads3_below hv hW)
  have hcn := fun W (hW : Below w.heap.size w W) => containsNoSet ys u W hy (reads_below hu hW)
  have H0 := heap_alloc_new w (.cells #[v] 26)
  have s0 : (w.alloc (.cells #[v] 26)).heap.size = w.heap.size + 1 := by simp
  unfold coversAns
  cases hin : (procOk ss && isCl c && inB s 0 127)
  · rw [hin] at hfi
    simp only [Bool.false_and]
    clear hcn
    go_enter Try.func14, Try.ntmps14
    go_wp2_with (go_at_call 37; refine (hfi _ (by go_grown)).mono ?_; rintro e w2 ⟨rfl, b2⟩)
    go_ret
    have L2 := hb0.trans (b2.mono hb0.size)
    exact ⟨rfl, L2.alloc L2.size _⟩
  rw [hin] at hfi
  simp only [if_true] at hfi
  have hparts : procOk ss = true ∧ isCl c = true ∧ inB s 0 127 = true := by
    simp only [Bool.and_eq_true] at hin
    exact ⟨hin.1.1, hin.1.2, hin.2⟩
  obtain ⟨hok, hic, hs⟩ := hparts
  have hc : c = 1 ∨ c = 2 := by simpa [isCl] using hic
  have hsm := small_in.1 hs
  simp only [Bool.true_and]
  have HM : Hid (∀ k x y, stmtOk k x y = true → ∀ W, _) := fun k x y h W => relationOf c k x y hc h W
  unfold flowsV at hfi HM
  obtain ⟨m, hm⟩ : ∃ m, markFn c = m := ⟨_, rfl⟩
  rw [hm] at hfi HM
  clear hm
  obtain ⟨h1s, h12, _⟩ := procOk_parts hok
  obtain ⟨vo, vc, hv0, hcv⟩ := id hv
  obtain ⟨ao, cap, hu0, hcu⟩ := id hu
  rw [ints_length] at hu0
  unfold maxLen at hy
  by_cases hlen : ¬ ys.length = ss.length
  · have hd : decide (ys.length = ss.length) = false := by simpa using hlen
    rw [hd]
    simp only [Bool.false_and]
    have hne : ((ys.length : Int) != (ss.length : Int)) = true := by simp; omega
    subst hu0 hv0
    clear hcu hcv hcn
    go_enter Try.func14, Try.ntmps14
    go_wp2_with fail
    go_at_call 37
    refine (hfi _ (by go_grown)).mono ?_
    rintro e w2 ⟨rfl, b2⟩
    obtain ⟨L2, q2⟩ := flow_pre b2
    have hlt : w.heap.size < w2.heap.size := (Array.getElem?_eq_some_iff.1 q2).1
    have g0 : ∀ o, (w2.alloc o).cell? ⟨w.heap.size, 0, none⟩ = some (.slice vo ss.length vc) := fun o => (one_cell ((old_block hlt).trans q2)).1
    clear hfi
    go_wp2
    go_ret
    exact ⟨rfl, L2.alloc L2.size _⟩
  have hlen : ys.length = ss.length := Decidable.not_not.1 hlen
  have hd : decide (ys.length = ss.length) = true := by simpa using hlen
  rw [hd]
  simp only [Bool.true_and]
  obtain ⟨R, hR⟩ : ∃ R, (ys.all (fun x => inB x 0 127) && hasA (ys.getD 0 0) s && covK c ss ys ss.length) = R := ⟨_, rfl⟩
  rw [hR]
  have HR : Hid _ := hR
  clear hR
  obtain ⟨g, off, rfl, hy0⟩ := hcu 0 (.int .i64 (ys.getD 0 0)) (ints_get ys 0 (by omega))
  have gB := World.block_lt_of_cell? w _ hy0
  rw [Nat.add_zero] at hy0
  rw [hlen] at hu0
  have HL : Hid _ := hlen
  clear hlen hd
  have hne : ((ss.length : Int) != (ss.length : Int)) = false := by simp
  have hp0 : (0 : Int) < (ss.length : Int) := by omega
  subst hu0 hv0
  cases hall : ys.all (fun x => inB x 0 127)
  · rw [hall] at hcn HR
    have HF : Hid (R = false) := by
      show R = false
      rw [← HR.out]; simp
    clear hcu hcv hy0
    go_enter Try.func14, Try.ntmps14
    go_wp2_with fail
    go_at_call 37
    refine (hfi _ (by go_grown)).mono ?_
    rintro e w2 ⟨rfl, b2⟩
    obtain ⟨L2, q2⟩ := flow_pre b2
    have hlt : w.heap.size < w2.heap.size := (Array.getElem?_eq_some_iff.1 q2).1
    have g0 : ∀ o, (w2.alloc o).cell? ⟨w.heap.size, 0, none⟩ = some (.slice vo ss.length vc) := fun o => (one_cell ((old_block hlt).trans q2)).1
    clear hfi
    go_wp2_with (go_at_call 52; refine (hcn _ (L2.alloc L2.size _)).mono ?_; rintro e w4 ⟨rfl, rfl⟩)
    go_ret
    exact ⟨by rw [HF.out]; rfl, L2.alloc L2.size _⟩
  rw [hall] at hcn HR
  have hs0 := smallAll hall 0
  have hha := fun W => hasAll (ys.getD 0 0) s hs0 hsm W
  cases hhv : hasA (ys.getD 0 0) s
  · rw [hhv] at hha HR
    have HF : Hid (R = false) := by
      show R = false
      rw [← HR.out]; simp
    generalize ys.getD 0 0 = y0 at *
    clear hcu hcv
    go_enter Try.func14, Try.ntmps14
    go_wp2_with fail
    go_at_call 37
    refine (hfi _ (by go_grown)).mono ?_
    rintro e w2 ⟨rfl, b2⟩
    obtain ⟨L2, q2⟩ := flow_pre b2
    have hlt : w.heap.size < w2.heap.size := (Array.getElem?_eq_some_iff.1 q2).1
    have g0 : ∀ o, (w2.alloc o).cell? ⟨w.heap.size, 0, none⟩ = some (.slice vo ss.length vc) := fun o => (one_cell ((old_block hlt).trans q2)).1
    have y1 : ∀ o, (w2.alloc o).cell? ⟨g, off, none⟩ = some (.int .i64 y0) := fun o => ((L2.alloc L2.size o).cell gB).trans hy0
    clear hfi
    go_wp2_with (first
      | (go_at_call 52; refine (hcn _ (L2.alloc L2.size _)).mono ?_; rintro e w4 ⟨rfl, rfl⟩)
      | (go_at_call 54; refine (hha _).mono ?_; rintro e w5 ⟨rfl, rfl⟩))
    go_ret
    exact ⟨by rw [HF.out]; rfl, L2.alloc L2.size _⟩
  rw [hhv] at hha HR
  have HR2 : Hid (covK c ss ys ss.length = R) := by
    show covK c ss ys ss.length = R
    rw [← HR.out]; simp
  have hall' : Hid _ := hall
  clear HR hall
  generalize hyy : ys.getD 0 0 = y0 at *
  clear hyy
  go_enter Try.func14, Try.ntmps14
  go_wp2_with fail
  go_at_call 37
  refine (hfi _ (by go_grown)).mono ?_
  rintro e w2 ⟨rfl, b2⟩
  obtain ⟨L2, q2⟩ := flow_pre b2
  have hlt : w.heap.size < w2.heap.size := (Array.getElem?_eq_some_iff.1 q2).1
  have g0 : ∀ o, (w2.alloc o).cell? ⟨w.heap.size, 0, none⟩ = some (.slice vo ss.length vc) := fun o => (one_cell ((old_block hlt).trans q2)).1
  have y1 : ∀ o, (w2.alloc o).cell? ⟨g, off, none⟩ = some (.int .i64 y0) := fun o => ((L2.alloc L2.size o).cell gB).trans hy0
  clear hfi
  go_wp2_with (first
    | (go_at_call 52; refine (hcn _ (L2.alloc L2.size _)).mono ?_; rintro e w4 ⟨rfl, rfl⟩)
    | (go_at_call 54; refine (hha _).mono ?_; rintro e w5 ⟨rfl, rfl⟩))
  have L3 := L2.alloc L2.size (.cells #[.func (.func 109) #[] #[], .func (.func 110) #[] #[], .func (.func 111) #[] #[], .func (.func m) #[] #[]] 60)
  have P3 : Hid _ := (old_block (o := (.cells #[.func (.func 109) #[] #[], .func (.func 110) #[] #[], .func (.func 111) #[] #[], .func (.func m) #[] #[]] 60)) hlt).trans q2
  have F3 : Hid _ := heap_alloc_new w2 (.cells #[.func (.func 109) #[] #[], .func (.func 110) #[] #[], .func (.func 111) #[] #[], .func (.func m) #[] #[]] 60)
  have s3 : (w2.alloc (.cells #[.func (.func 109) #[] #[], .func (.func 110) #[] #[], .func (.func 111) #[] #[], .func (.func m) #[] #[]] 60)).heap.size = w2.heap.size + 1 := by simp
  clear g0 y1 hcn hha q2 b2
  generalize w2.alloc (.cells #[.func (.func 109) #[] #[], .func (.func 110) #[] #[], .func (.func 111) #[] #[], .func (.func m) #[] #[]] 60) = w3 at *
  go_loopw [48] (fun i wr => ∃ (k : Nat), k ≤ ss.length ∧ i = .int .i64 k ∧ covK c ss ys k = true ∧ Below w3.heap.size w3 wr) (fun i _ => ss.length - (intOf i).toNat)
  case atStart => exact ⟨0, by omega, rfl, rfl, Below.refl _ _⟩
  case round =>
    obtain ⟨k, hk, rfl, hcov, hb⟩ := hrel
    have HC : Hid _ := hcov
    clear hcov
    have LR := L3.trans (hb.mono L3.size)
    have sb := hb.size
    by_cases hkt : k < ss.length
    · have hkt' : (k : Int) < (ss.length : Int) := by omega
      have hky : k < ys.length := by rw [HL.out]; exact hkt
      obtain ⟨vg, voff, rfl, p0, p1, p2⟩ := hcv k ss[k] (by simp [hkt])
      have pB := World.block_lt_of_cell? w _ p0
      have p0 := (LR.cell pB).trans p0
      have p1 := (LR.cell (p := ⟨vg, voff + k * 3 + 1, none⟩) pB).trans p1
      have p2 := (LR.cell (p := ⟨vg, voff + k * 3 + 2, none⟩) pB).trans p2
      have hsm2 := smallAll hall'.out k
      have hfs := flw_smalls (c := c) hok hkt
      have hro := HM.out ss[k].k ss[k].x ss[k].y (stm_ok hok hkt)
      rw [← flw_eq hkt] at hro
      have hnx := fun W (hW : Below w.heap.size w W) => nextsOf ss k _ W hkt h12 (reads3_below hv hW)
      rw [nxI hkt] at hnx
      have HS : Hid (covK c ss ys (k + 1) = covI c ss ys k) := by
        show covK c ss ys (k + 1) = _
        rw [covK, HC.out, Bool.true_and]
      have HT : Hid (∀ m (hm : m < (nx ss k).length), ∃ j : Nat, (nx ss k)[m] = (j : Int) ∧ j < ss.length ∧ covT c ss ys k (m + 1) = (covT c ss ys k m && hasA (ys.getD j 0) (img (flw c ss k) (ys.getD k 0))) ∧ (hasA (ys.getD j 0) (img (flw c ss k) (ys.getD k 0)) = false → covI c ss ys k = false)) := fun m hm => by
        obtain ⟨j, hj, hjl⟩ := nx_in hok hkt _ (List.getElem_mem hm)
        have e := covT_succ (c := c) (xs := ys) hm
        rw [hj, Int.toNat_natCast] at e
        refine ⟨j, hj, hjl, e, fun h => covT_not hm ?_⟩
        rw [hj, Int.toNat_natCast]
        exact h
      have HE : Hid (covT c ss ys k (nx ss k).length = covI c ss ys k) := covT_all (Nat.le_refl _)
      have hn2 : (nx ss k).length ≤ 2 := by rw [nx_eq hkt]; exact nextsS_length _ _
      have q0 := cut_cell hcu (k := k) hky
      have q0 := (LR.cell (World.block_lt_of_cell? w _ q0)).trans q0
      generalize hyk : ys.getD k 0 = y at *
      clear hyk
      generalize flw c ss k = rs at *
      have hsi := img_small hfs y
      have him := fun W => relImage rs y W hfs hsm2
      obtain ⟨st, hst⟩ : ∃ st, st = ss[k] := ⟨_, rfl⟩
      rw [← hst] at p0 p1 p2 hro
      clear hst
      go_wp2_with fail
      obtain ⟨w4, hw4⟩ : ∃ x, x = wr.alloc (Obj.cells #[Value.int IntKind.i64 st.k, Value.int IntKind.i64 st.x, Value.int IntKind.i64 st.y] 77) := ⟨_, rfl⟩
      have S4 : w4.heap[wr.heap.size]? = some (Obj.cells #[Value.int IntKind.i64 st.k, Value.int IntKind.i64 st.x, Value.int IntKind.i64 st.y] 77 (0, 0)) := by rw [hw4]; exact heap_alloc_new wr _
      have z4 : w4.heap.size = wr.heap.size + 1 := by rw [hw4]; simp
      have b4 : Below wr.heap.size wr w4 := by rw [hw4]; go_grown
      rw [← hw4]
      clear hw4 p0 p1 p2
      have B4 : Below w3.heap.size w3 w4 := hb.trans (b4.mono hb.size)
      have L4 := L3.trans (B4.mono L3.size)
      obtain ⟨t0, t1, t2⟩ := stmt_cells S4
      obtain ⟨k0, k1, k2, k3⟩ := four_cells ((B4.block w2.heap.size (by omega)).trans F3.out)
      have q0 := (b4.cell (p := ⟨g, off + k, none⟩) (by show g < wr.heap.size; omega)).trans q0
      have zg : g < w4.heap.size := by omega
      have zf : w2.heap.size < w4.heap.size := by omega
      have zs : wr.heap.size < w4.heap.size := by omega
      have P4 : Hid _ := (B4.block w.heap.size (by omega)).trans P3.out
      go_region_held3 (fun w' => w'.cell? ⟨w2.heap.size, 0, none⟩ = some (.func (.func 109) #[] #[]) ∧ w'.cell? ⟨w2.heap.size, 1, none⟩ = some (.func (.func 110) #[] #[]) ∧ w'.cell? ⟨w2.heap.size, 2, none⟩ = some (.func (.func 111) #[] #[]) ∧ w'.cell? ⟨w2.heap.size, 3, none⟩ = some (.func (.func m) #[] #[]) ∧ w'.cell? ⟨wr.heap.size, 0, none⟩ = some (.int .i64 st.k) ∧ w'.cell? ⟨wr.heap.size, 1, none⟩ = some (.int .i64 st.x) ∧ w'.cell? ⟨wr.heap.size, 2, none⟩ = some (.int .i64 st.y) ∧ w'.cell? ⟨g, off + k, none⟩ = some (.int .i64 y)) (first | exact ⟨k0, k1, k2, k3, t0, t1, t2, q0⟩ | exact ⟨(hc5 _ _ zf).trans k0, (hc5 _ _ zf).trans k1, (hc5 _ _ zf).trans k2, (hc5 _ _ zf).trans k3, (hc5 _ _ zs).trans t0, (hc5 _ _ zs).trans t1, (hc5 _ _ zs).trans t2, (hc5 _ _ zg).trans q0⟩ | exact ⟨(hc6 _ _ zf).trans k0, (hc6 _ _ zf).trans k1, (hc6 _ _ zf).trans k2, (hc6 _ _ zf).trans k3, (hc6 _ _ zs).trans t0, (hc6 _ _ zs).trans t1, (hc6 _ _ zs).trans t2, (hc6 _ _ zg).trans q0⟩) (first
        | (go_at_call 48; refine (hro _).mono ?_; rintro e w5 ⟨rfl, b5⟩; have M5 : Below w4.heap.size w4 w5 := Below.trans (by go_grown) b5; obtain ⟨hc5, hf5⟩ := bcell M5)
        | (go_at_call 49; refine (him _).mono ?_; rintro e w6 ⟨rfl, b6⟩; have M6 : Below w4.heap.size w4 w6 := Below.trans (Below.trans M5 (by go_grown)) (b6.mono M5.size); obtain ⟨hc6, hf6⟩ := bcell M6))
      have B6 : Below w3.heap.size w3 w6 := B4.trans (M6.mono B4.size)
      have L6 := L3.trans (B6.mono L3.size)
      have s6 := B6.size
      obtain ⟨d0, e0⟩ := one_cell ((M6.block w.heap.size (by omega)).trans P4.out)
      clear hc5 hf5 hc6 hf6 b5 b6 M5 t0 t1 t2 k0 k1 k2 k3 q0 S4 zg zf zs P4 hro him
      go_wp2_with fail
      go_at_call 55
      refine (hnx _ L6).mono ?_
      rintro e w7 ⟨un, rfl, own7, b7⟩
      have s7 := b7.size
      have B7 : Below w3.heap.size w3 w7 := B6.trans (b7.mono B6.size)
      have L7 := L3.trans (B7.mono L3.size)
      clear d0 e0 hnx
      obtain ⟨ns, hns⟩ : ∃ ns, nx ss k = ns := ⟨_, rfl⟩
      have HN : Hid (nx ss k = ns) := hns
      rw [hns] at own7 hn2
      clear hns
      have hun : ∃ a cp, un = .slice a ns.length cp := by
        obtain ⟨a, cp, e, _⟩ := reads_own own7
        exact ⟨a, cp, by rw [e, ints_length]⟩
      obtain ⟨ua, uc, rfl⟩ := hun
      have HO : Hid _ := own7
      clear own7
      go_wp2_with fail
      clear hb b4 M6
      go_loopw [65] (fun i wx => ∃ (m : Nat), m ≤ ns.length ∧ i = .int .i64 m ∧ covT c ss ys k m = true ∧ w7 = wx) (fun i _ => ns.length - (intOf i).toNat)
      case atStart => exact ⟨0, by omega, rfl, rfl, rfl⟩
      case round =>
        obtain ⟨m', hm, rfl, hcv2, hwx⟩ := hrel
        subst hwx
        have HC2 : Hid _ := hcv2
        clear hcv2
        by_cases hmt : m' < ns.length
        · have hmt' : (m' : Int) < (ns.length : Int) := by omega
          obtain ⟨j, hj, hjl, hcs, hcn⟩ := HT.out m' (by rw [HN.out]; exact hmt)
          have q1 := cut_cell hcu (k := j) (by rw [HL.out]; exact hjl)
          have q1 := (L7.cell (World.block_lt_of_cell? w _ q1)).trans q1
          have hjl' : (j : Int) < (ss.length : Int) := by omega
          have hsj := smallAll hall'.out j
          have h3 : ns[m'] = (j : Int) := by
            have := hj
            simp only [HN.out] at this
            exact this
          obtain ⟨gn, rfl, cn1⟩ : ∃ gn, ua = some ⟨gn, 0, none⟩ ∧ w7.cell? ⟨gn, m', none⟩ = some (.int .i64 (j : Int)) := by
            rcases own_shape HO.out with ⟨_, e, _⟩ | ⟨gn, cp, e, _, hcc⟩
            · omega
            · simp only [Value.slice.injEq] at e
              refine ⟨gn, e.1, ?_⟩
              have := hcc m' (.int .i64 (j : Int)) (by simp [ints, hmt, h3])
              rwa [Addr.add_lit, Nat.zero_add] at this
          have hha := fun W => hasAll (ys.getD j 0) (img rs y) hsj hsi W
          clear h3
          cases hhv : hasA (ys.getD j 0) (img rs y)
          · rw [hhv] at hha
            have HF : Hid (R = false) := by
              show R = false
              rw [← HR2.out]; exact covK_not hkt (hcn hhv)
            generalize ys.getD j 0 = yj at *
            generalize img rs y = z at *
            clear hcu hcv hcs hcn hj
            go_wp2_with (go_at_call 54; refine (hha _).mono ?_; rintro e w8 ⟨rfl, rfl⟩)
            go_ret
            exact ⟨by rw [HF.out]; rfl, L7⟩
          · rw [hhv] at hha hcs
            have HC3 : Hid (covT c ss ys k (m' + 1) = true) := by
              show covT c ss ys k (m' + 1) = true
              rw [hcs, HC2.out]; rfl
            generalize ys.getD j 0 = yj at *
            generalize img rs y = z at *
            clear hcu hcv hcs hcn hj
            go_wp2_with (go_at_call 54; refine (hha _).mono ?_; rintro e w8 ⟨rfl, rfl⟩)
            go_roundw
            case rel => exact ⟨m' + 1, by omega, by go_num, HC3.out, by first | trivial | rfl⟩
            case measure => simp [intOf]; omega
        · obtain rfl : m' = ns.length := by omega
          have HC3 : Hid (covK c ss ys (k + 1) = true) := by
            show covK c ss ys (k + 1) = true
            rw [HS.out, ← HE.out, HN.out]; exact HC2.out
          go_wp2
          go_roundw
          case rel => exact ⟨k + 1, by omega, by go_num, HC3.out, B7⟩
          case measure => simp [intOf]; omega
    · obtain rfl : k = ss.length := by omega
      have HF : Hid (R = true) := HR2.out.symm.trans HC.out
      go_wp2
      go_ret
      exact ⟨by rw [HF.out]; rfl, LR⟩

end Go.Proofs.Ytebadimjpbhagaa
