/-
  The law FnLeastInside: whatever covers has all that is solved.
-/
import Derived.Test.YtcecfmdlefkjfaaDrawCovers
import Derived.Test.YtcecfmdlefkjfaaLeastM
import Derived.Test.YtcecfmdlefkjfaaImplSolved
import Derived.Test.YtcecfmdlefkjfaaImplCovers
import Derived.Test.YtcecfmdlefkjfaaOpenCode
import Derived.Deep.RegionHeld3
namespace Go.Proofs.Ytcecfmdlefkjfaa
open Go.ChangeShapes Go.WideShapes Go.ChangeAt Go.RowKit
set_option linter.unusedVariables false
set_option linter.unusedSimpArgs false

/-- What the law holds between its steps. -/
structure LsS (X : Nat) (u : Value) (ss : List Stm) (lv : Value) (ys : List Int) (w wr : World) : Prop where
  box : wr.heap[X]? = some (.cells #[u] 26 (0, 0))
  rd : Reads3 wr u ss
  ls : Reads wr lv (ints ys)
  bl : Below w.heap.size w wr

theorem LsS.step {X : Nat} {u : Value} {ss : List Stm} {lv : Value} {ys : List Int} {w wr wr' : World} (h : LsS X u ss lv ys w wr) (hb : Below wr.heap.size wr wr') : LsS X u ss lv ys w wr' :=
  ⟨(hb.block X (Array.getElem?_eq_some_iff.1 h.box).1).trans h.box, reads3_below h.rd hb, reads_below h.ls hb, h.bl.trans (hb.mono h.bl.size)⟩

theorem reads_at {w : World} {a : Option Addr} {n c : Nat} {xs : List Int} (h : Reads w (.slice a n c) (ints xs)) {k : Nat} (hk : k < xs.length) : ∃ g off, a = some ⟨g, off, none⟩ ∧ w.cell? ⟨g, off + k, none⟩ = some (.int .i64 (xs.getD k 0)) := by
  obtain ⟨ao, cap, e, hc⟩ := h
  simp only [Value.slice.injEq] at e
  obtain ⟨rfl, _, _⟩ := e
  exact hc k _ (ints_get xs k hk)

set_option maxRecDepth 20000 in
set_option maxHeartbeats 16000000 in
theorem walkLeast (bs : List Int) (v : Value) (w : World) (hl : bs.length ≤ maxLen) (hbs : ∀ x ∈ bs, 0 ≤ x ∧ x ≤ 255) (hv : Reads w v (bs.map (Value.int .u8))) :
    Calls Try.prog 5 #[v] w fun e w' => e = .returned (.bool true) ∧ Below w.heap.size w w' := by
  have hbig := lawBig bs v w hl hv
  by_cases hb : (4096 : Int) < (bs.length : Int)
  · rw [decide_eq_true hb] at hbig
    go_enter Try.func5, Try.ntmps5
    go_wp2_with (go_at_call 6; refine hbig.mono ?_; rintro e w1 ⟨rfl, rfl⟩)
    go_ret
    exact ⟨rfl, Below.refl _ _⟩
  rw [decide_eq_false hb] at hbig
  go_enter Try.func5, Try.ntmps5
  go_wp2_with fail
  go_at_call 6
  refine hbig.mono ?_
  rintro e w1 ⟨rfl, rfl⟩
  clear hbig
  go_wp2_with fail
  go_at_call 20
  refine (drawCovers bs v w (by omega) hv).mono ?_
  rintro e w1 ⟨u, ss, n, s, lv, ys, rfl, h1, h7, ou, ol, hy12, b1⟩
  have hsl : ss.length ≤ maxLen := by unfold maxLen; omega
  have hyl : ys.length ≤ maxLen := by unfold maxLen; omega
  have L1 : Below w.heap.size w (w1.alloc (.cells #[u] 26)) := b1.alloc b1.size _
  have X1 := heap_alloc_new w1 (.cells #[u] 26)
  obtain ⟨ua, un, uc, rfl⟩ := ownSlice ou
  obtain ⟨la, ln, lc, rfl⟩ := own_slice ol
  have S1 : LsS w1.heap.size (.slice ua un uc) ss (.slice la ln lc) ys w (w1.alloc (.cells #[.slice ua un uc] 26)) := ⟨X1, reads3_own (ou.alloc _), reads_own (ol.alloc _), L1⟩
  obtain ⟨A, hAA⟩ := solvedAns_some n ss s
  have hA12 := solvedAns_length hAA
  have hA' : A.length ≤ maxLen := by unfold maxLen; omega
  have hic := fun W (h : LsS w1.heap.size (.slice ua un uc) ss (.slice la ln lc) ys w W) => implCovers ss n s ys _ _ W hsl hyl h.rd h.ls
  have hsc := fun W (h : LsS w1.heap.size (.slice ua un uc) ss (.slice la ln lc) ys w W) => specCovers ss n s ys _ _ W hsl hyl h.rd h.ls
  have his := fun W (h : LsS w1.heap.size (.slice ua un uc) ss (.slice la ln lc) ys w W) => implSolved ss n s A hAA _ W hsl h.rd
  obtain ⟨c, hcc⟩ : ∃ c, coversAns ss n s ys = c := ⟨_, rfl⟩
  rw [hcc] at hic hsc
  have HCC : Hid _ := hcc
  have HAA : Hid _ := hAA
  clear hcc hAA ou ol
  obtain ⟨c1, f1⟩ := one_cell S1.box
  have HS1 : Hid _ := S1
  go_wp2_with fail
  go_at_call 15
  refine (hic _ S1).mono ?_
  rintro e w2 ⟨rfl, b2⟩
  have S2 := HS1.out.step b2
  have HS2 : Hid _ := S2
  clear c1 f1 S1 HS1
  obtain ⟨c1, f1⟩ := one_cell S2.box
  have hcx : (c != c) = false := by cases c <;> rfl
  go_wp2_with fail
  go_at_call 21
  refine (hsc _ S2).mono ?_
  rintro e w3 ⟨rfl, b3⟩
  have S3 := HS2.out.step b3
  have HS3 : Hid _ := S3
  clear c1 f1 S2 HS2 hsc
  obtain ⟨c1, f1⟩ := one_cell S3.box
  go_wp2_with fail
  go_at_call 8
  refine (his _ S3).mono ?_
  rintro e w4 ⟨av, rfl, oav, b4⟩
  have S4 := HS3.out.step b4
  have HS4 : Hid _ := S4
  have rA := reads_own oav
  obtain ⟨aa, an, ac, rfl⟩ := own_slice oav
  have han : an = A.length := by
    obtain ⟨_, _, e, _⟩ := rA
    rw [ints_length] at e
    simp at e
    exact e.2.1
  subst han
  have HRA : Hid _ := rA
  clear c1 f1 S3 HS3 oav rA
  have hnil := solved_nil HAA.out
  by_cases hA0 : A.length = 0
  · have hno := hnil.1 hA0
    have hcf : c = false := by rw [← HCC.out]; exact covers_none hno
    subst hcf
    have hA0' : ((A.length : Int) == 0) = true := by rw [hA0]; rfl
    clear hnil hno
    go_wp2
    go_ret
    exact ⟨by first | rfl | simp [hA0], HS4.out.bl⟩
  · have hok : (procOk ss && isCl n && inB s 0 127) = true := by
      cases h : (procOk ss && isCl n && inB s 0 127)
      · exact absurd (hnil.2 h) hA0
      · rfl
    have hA0' : ((A.length : Int) == 0) = false := by
      rw [beq_eq_false_iff_ne]; omega
    have hAp : (0 : Int) < (A.length : Int) := by omega
    have HOK : Hid _ := hok
    clear hnil hok
    cases c
    · go_wp2_with fail
      refine wp_loop_rounds 1 ?_
      rw [rounds_succ]
      go_wp2_with fail
      have hpk := fun W (h : Reads W v (bs.map (Value.int .u8))) => lawPick bs v 1 128 W (by omega) hbs h (by omega) (by omega) (by omega)
      obtain ⟨c5, f5⟩ := one_cell HS4.out.box
      have zX : w1.heap.size < w4.heap.size := (Array.getElem?_eq_some_iff.1 HS4.out.box).1
      have hvr := reads_below hv HS4.out.bl
      go_region_held3 (fun w' => w'.cell? ⟨w1.heap.size, 0, none⟩ = some (.slice ua un uc)) (first | exact c5 | exact (hc6 _ _ zX).trans c5 | exact (hc7 _ _ zX).trans c5) (first
        | (go_at_call 22; refine (hpk _ (reads_below hvr (by go_grown))).mono ?_; rintro e w6 ⟨x, rfl, hx0, hx1, b6⟩; have M6 : Below w4.heap.size w4 w6 := Below.trans (by go_grown) b6; obtain ⟨hc6, hf6⟩ := bcell M6)
        | (go_at_call 8; (obtain ⟨Bm, hBB⟩ := solvedAns_some n ss (bits .or .i64 s x)); refine (implSolved ss n _ Bm hBB _ _ hsl (reads3_below HS4.out.rd (Below.trans M6 (by go_grown)))).mono ?_; rintro e w7 ⟨mv, rfl, omv, b7⟩; have M7 : Below w4.heap.size w4 w7 := Below.trans (Below.trans M6 (by go_grown)) (b7.mono M6.size); obtain ⟨hc7, hf7⟩ := bcell M7))
      obtain ⟨hBl, hBm⟩ := solved_more HOK.out ⟨hx0, by omega⟩ HAA.out (B := Bm) hBB
      have rM := reads_own omv
      obtain ⟨ma, mn, mc, rfl⟩ := own_slice omv
      have hmn : mn = A.length := by
        obtain ⟨_, _, e, _⟩ := rM
        rw [ints_length, hBl] at e
        simp at e
        exact e.2.1
      subst hmn
      have HRM : Hid _ := rM
      have HR7 : Hid _ := reads_below HRA.out M7
      have HS7 : Hid _ := HS4.out.step M7
      have HBM : Hid _ := hBm
      have HBL : Hid _ := hBl
      clear hc6 hf6 hc7 hf7 M6 b6 b7 M7 omv rM hBm hBl c5 f5 hBB hpk hvr zX
      go_wp2_with fail
      go_loopw [11] (fun iv wr => ∃ (i : Nat), i ≤ A.length ∧ iv = .int .i64 i ∧ Below w7.heap.size w7 wr) (fun iv _ => A.length - (intOf iv).toNat)
      case atStart => exact ⟨0, Nat.zero_le _, rfl, Below.refl _ _⟩
      case round =>
        obtain ⟨i, hi, rfl, hbw⟩ := hrel
        by_cases hlt : i < A.length
        · have hlt' : (i : Int) < (A.length : Int) := by omega
          obtain ⟨ga, oa, ea, qa⟩ := reads_at (reads_below HR7.out hbw) hlt
          obtain ⟨gm, om, em, qm⟩ := reads_at (reads_below HRM.out hbw) (k := i) (by rw [HBL.out]; exact hlt)
          have hbn : (bits .or .i64 (A.getD i 0) (Bm.getD i 0) != Bm.getD i 0) = false := by
            have := HBM.out i hlt
            unfold lor at this
            rw [this]; simp
          generalize A.getD i 0 = ya at *
          generalize Bm.getD i 0 = ym at *
          rw [ea, em]
          have HEA : Hid _ := ea
          have HEM : Hid _ := em
          clear ea em
          go_wp2_with fail
          go_region
          go_wp2
          go_roundw
          case rel => exact ⟨i + 1, by omega, by go_num, Below.drew hbw⟩
          case measure => simp [intOf]; omega
        · obtain rfl : i = A.length := by omega
          have HS8 : Hid _ := HS7.out.step hbw
          obtain ⟨c8, f8⟩ := one_cell HS8.out.box
          have hfin := implCovers ss n s A _ _ wr hsl hA' HS8.out.rd (reads_below HR7.out hbw)
          rw [covers_solved HOK.out HAA.out] at hfin
          go_wp2_with (go_at_call 15; refine hfin.mono ?_; rintro e w9 ⟨rfl, b9⟩)
          go_ret
          exact ⟨rfl, (HS8.out.step b9).bl⟩
    · have hyA : Hid (ys.length = A.length) := by
        show ys.length = A.length
        rw [(coversAns_parts HCC.out).2.2.2.1, (HAA.out.1 HOK.out).1]
      go_wp2_with fail
      go_loopw [9] (fun iv wr => ∃ (i : Nat), i ≤ A.length ∧ iv = .int .i64 i ∧ Below w4.heap.size w4 wr) (fun iv _ => A.length - (intOf iv).toNat)
      case atStart => exact ⟨0, Nat.zero_le _, rfl, Below.refl _ _⟩
      case round =>
        obtain ⟨i, hi, rfl, hbw⟩ := hrel
        have S5 : Hid _ := HS4.out.step hbw
        have R5 : Hid _ := reads_below HRA.out hbw
        by_cases hlt : i < A.length
        · have hlt' : (i : Int) < (A.length : Int) := by omega
          obtain ⟨ga, oa, ea, qa⟩ := reads_at R5.out hlt
          obtain ⟨gm, om, em, qm⟩ := reads_at S5.out.ls (k := i) (by rw [hyA.out]; exact hlt)
          have hbn : (bits .or .i64 (A.getD i 0) (ys.getD i 0) != ys.getD i 0) = false := by
            have := covers_least HCC.out HAA.out i hlt
            unfold lor at this
            rw [this]; simp
          have hln : ln = A.length := by
            obtain ⟨_, _, e, _⟩ := S5.out.ls
            rw [ints_length, hyA.out] at e
            simp at e
            exact e.2.1
          have hln' : (i : Int) < (ln : Int) := by omega
          generalize A.getD i 0 = ya at *
          generalize ys.getD i 0 = ym at *
          rw [ea, em]
          have HEA : Hid _ := ea
          have HEM : Hid _ := em
          clear ea em hln
          go_wp2_with fail
          go_region
          go_wp2
          go_roundw
          case rel => exact ⟨i + 1, by omega, by go_num, Below.drew hbw⟩
          case measure => simp [intOf]; omega
        · obtain rfl : i = A.length := by omega
          obtain ⟨wc, hwc⟩ : ∃ z, z = wr := ⟨_, rfl⟩
          subst hwc
          go_wp2_with fail
          have hpk := fun W (h : Reads W v (bs.map (Value.int .u8))) => lawPick bs v 1 128 W (by omega) hbs h (by omega) (by omega) (by omega)
          obtain ⟨c5, f5⟩ := one_cell S5.out.box
          have zX : w1.heap.size < wc.heap.size := (Array.getElem?_eq_some_iff.1 S5.out.box).1
          have hvr := reads_below hv S5.out.bl
          go_region_held3 (fun w' => w'.cell? ⟨w1.heap.size, 0, none⟩ = some (.slice ua un uc)) (first | exact c5 | exact (hc6 _ _ zX).trans c5 | exact (hc7 _ _ zX).trans c5) (first
            | (go_at_call 22; refine (hpk _ (reads_below hvr (by go_grown))).mono ?_; rintro e w6 ⟨x, rfl, hx0, hx1, b6⟩; have M6 : Below wc.heap.size wc w6 := Below.trans (by go_grown) b6; obtain ⟨hc6, hf6⟩ := bcell M6)
            | (go_at_call 8; (obtain ⟨Bm, hBB⟩ := solvedAns_some n ss (bits .or .i64 s x)); refine (implSolved ss n _ Bm hBB _ _ hsl (reads3_below S5.out.rd (Below.trans M6 (by go_grown)))).mono ?_; rintro e w7 ⟨mv, rfl, omv, b7⟩; have M7 : Below wc.heap.size wc w7 := Below.trans (Below.trans M6 (by go_grown)) (b7.mono M6.size); obtain ⟨hc7, hf7⟩ := bcell M7))
          obtain ⟨hBl, hBm⟩ := solved_more HOK.out ⟨hx0, by omega⟩ HAA.out (B := Bm) hBB
          have rM := reads_own omv
          obtain ⟨ma, mn, mc, rfl⟩ := own_slice omv
          have hmn : mn = A.length := by
            obtain ⟨_, _, e, _⟩ := rM
            rw [ints_length, hBl] at e
            simp at e
            exact e.2.1
          subst hmn
          have HRM : Hid _ := rM
          have HR7 : Hid _ := reads_below R5.out M7
          have HS7 : Hid _ := S5.out.step M7
          have HBM : Hid _ := hBm
          have HBL : Hid _ := hBl
          clear hc6 hf6 hc7 hf7 M6 b6 b7 M7 omv rM hBm hBl c5 f5 hBB hpk hvr zX
          go_wp2_with fail
          go_loopw [11] (fun iv wr => ∃ (i : Nat), i ≤ A.length ∧ iv = .int .i64 i ∧ Below w7.heap.size w7 wr) (fun iv _ => A.length - (intOf iv).toNat)
          case atStart => exact ⟨0, Nat.zero_le _, rfl, Below.refl _ _⟩
          case round =>
            obtain ⟨i, hi, rfl, hbw⟩ := hrel
            by_cases hlt : i < A.length
            · have hlt' : (i : Int) < (A.length : Int) := by omega
              obtain ⟨ga, oa, ea, qa⟩ := reads_at (reads_below HR7.out hbw) hlt
              obtain ⟨gm, om, em, qm⟩ := reads_at (reads_below HRM.out hbw) (k := i) (by rw [HBL.out]; exact hlt)
              have hbn : (bits .or .i64 (A.getD i 0) (Bm.getD i 0) != Bm.getD i 0) = false := by
                have := HBM.out i hlt
                unfold lor at this
                rw [this]; simp
              generalize A.getD i 0 = ya at *
              generalize Bm.getD i 0 = ym at *
              rw [ea, em]
              have HEA : Hid _ := ea
              have HEM : Hid _ := em
              clear ea em
              go_wp2_with fail
              go_region
              go_wp2
              go_roundw
              case rel => exact ⟨i + 1, by omega, by go_num, Below.drew hbw⟩
              case measure => simp [intOf]; omega
            · obtain rfl : i = A.length := by omega
              have HS8 : Hid _ := HS7.out.step hbw
              obtain ⟨c8, f8⟩ := one_cell HS8.out.box
              have hfin := implCovers ss n s A _ _ wr hsl hA' HS8.out.rd (reads_below HR7.out hbw)
              rw [covers_solved HOK.out HAA.out] at hfin
              go_wp2_with (go_at_call 15; refine hfin.mono ?_; rintro e w9 ⟨rfl, b9⟩)
              go_ret
              exact ⟨rfl, (HS8.out.step b9).bl⟩

set_option maxRecDepth 100000 in
theorem liftedFnLeastInside (os : Os) (started : os.Started) (H : Type) (enc : TypeId × Value → H) :
    ReturnsInHanded {} Try.checked os 5 .any (Rows.fnLeastInsideSpec.pre6 enc Try.prog Try.f5 Rows.fnLeastInsideRow.domain false) (Rows.fnLeastInsideSpec.post enc Try.prog Try.f5 false true false false) := by
  refine returnsInHanded_of_change (C := Try.checked) own started (by kernel_rfl) Try.func5
    (ChangeSpec.witness6 (enc := enc) (C := Try.checked) false ⟨#[], #[.slice none 0 0], []⟩ 8 (by kernel_rfl) (by kernel_rfl) (by kernel_rfl) (by kernel_rfl)) ?_
  intro W base args ds gs before hval0 hW hcnd _
  have hval : ∀ (j : Nat) t v, Try.f5.params[j]? = some t → args[j]? = some v → Value.okWide Try.prog W .any base t v := hval0
  have hW' := hW
  obtain ⟨p, q, hA0, hV, rfl, hfz, hnd⟩ := hW
  have hA : DataW.TrodAll enc Try.prog W 0 (fun _ => true) true Try.f5.params.toList args.toList ds p := hA0
  rw [Try.params5] at hA hval
  obtain ⟨v0, vs0, d0, ds0, p0, q0, hargs, rfl, rfl, h0, r0⟩ := trodAll_cons hA
  obtain ⟨rfl, rfl, rfl⟩ := trodAll_nil r0
  obtain rfl : args = #[v0] := by cases args; simp_all
  obtain ⟨rfl, rfl⟩ := trodVars_none hV
  obtain ⟨bs, hr, hl, hs⟩ := open_code Try.underlying22 Try.underlying5 cellsByte (hval 0 22 v0 rfl rfl) h0
  refine (walkLeast bs v0 W hl hs hr).mono fun e W' ⟨he, hb⟩ => ?_
  subst he
  refine ⟨_, rfl, law_post (tb := 4) laidOut ?_ hW' rfl Try.underlying4 rfl rfl hb⟩
  exact all_readable (P := Try.prog) (by kernel_rfl)

theorem overFnLeastInside : Rows.fnLeastInsideRow.holds Try.pinned (OpenSpec.ofChange Rows.fnLeastInsideSpec) :=
  OpenClaim.holds_of_wide 5 Try.f5 rfl rfl rfl rfl rfl rfl rfl ⟨rfl, rfl, rfl, rfl, rfl⟩ rfl rfl rfl rfl rfl (by kernel_rfl) Try.func5 (by kernel_rfl)
    (of_decide_eq_true (by kernel_rfl)) (by unfold Func.isWrapper; first | (rw [if_pos (by decide +kernel)]; kernel_rfl) | (rw [if_neg (by decide +kernel)]; exact ⟨rfl, rfl⟩))
    (fun os started H enc _ => liftedFnLeastInside os started H enc)

/-- ████ THE STATEMENT ████ -/
theorem leastHolds : Rows.FnLeastInsideSaid :=
  overFnLeastInside
#print axioms leastHolds

end Go.Proofs.Ytcecfmdlefkjfaa
