/-
  The law FnExactSteps: at every argument impl.Steps answers as the specification, leaves its arguments alone, and its answer owns its memory.
-/
import Derived.Test.YtfbfbfempgaoeaaSpecWt
import Derived.Test.YtfbfbfempgaoeaaImplWt
import Derived.Test.YtfbfbfempgaoeaaToPlaces
import Derived.Test.YtfbfbfempgaoeaaMarkProg
import Derived.Test.YtfbfbfempgaoeaaLift
namespace Go.Proofs.Ytfbfbfempgaoeaa
open Go.ChangeShapes Go.WideShapes Go.ChangeAt Go.RowKit
set_option linter.unusedVariables false
set_option linter.unusedSimpArgs false
set_option maxHeartbeats 4000000
set_option maxRecDepth 20000

theorem own_cap12 {w : World} {base : Nat} {e : TypeId} {s : Nat} {u : Value} {n : Nat} {xs : List Value} (h : w.ownsRow base e s u n xs) : ∀ a c', u = .slice a n c' → n ≤ c' := by
  intro a c' e
  rcases h.2 with ⟨h1, h2⟩ | ⟨b, cap, d, h1, _, _, h2, _⟩
  · omega
  · rw [h1] at e; cases e; exact h2

theorem rows12 {P : Program} {fn : Nat} {args : Array Value} {w : World} {A : List Int} {nn : Nat} (hn : A.length = 2 * nn) (h : Calls P fn args w fun e w' => ∃ u, e = .returned u ∧ OwnPl w' w.heap.size u A ∧ Below w.heap.size w w') :
    Calls P fn args w fun e w' => ∃ u, e = .returned u ∧ w'.ownsRow w.heap.size 49 2 u nn (ints A) ∧ Below w.heap.size w w' := h.mono (fun e w' he => by
  obtain ⟨u, h1, h2, h3⟩ := he
  obtain ⟨m, hm, ho⟩ := h2.ex
  have : m = nn := by omega
  subst this
  exact ⟨u, h1, ho, h3⟩)

theorem walkSteps (ps : List (List Stm)) (xs : List Int) (n : Nat) (v xv : Value) (w : World) (hl : ps.length ≤ maxLen) (hp : ∀ p ∈ ps, p.length ≤ maxLen) (hv : ReadsP w v ps) (hx : xs.length = 2 * n) (hn : n ≤ maxLen) (hxv : Reads2 w xv n (ints xs)) :
    Calls Try.prog 5 #[.agg #[v], xv] w fun e w' => e = .returned (.bool true) ∧ Below w.heap.size w w' := by
  obtain ⟨nn, hnA, hn48⟩ := stepsA_len ps xs n
  have hsp := fun u yv W hr h2 => rows12 hnA (specSteps ps xs n u yv W hl hp hr hx hn h2)
  have him := fun u yv W hr h2 hcap => rows12 hnA (implSteps ps xs n u yv W hl hp hr hx hn h2 hcap)
  obtain ⟨A, hA⟩ : ∃ A, stepsA ps xs n = A := ⟨_, rfl⟩
  rw [hA] at hsp him hnA
  clear hA
  have hA' : nn ≤ 1099511627776 := by omega
  have b0 : Below w.heap.size w (w.alloc (.cells #[v] 24)) := by go_grown
  have s0 : (w.alloc (.cells #[v] 24)).heap.size = w.heap.size + 1 := by simp
  have B0 := heap_alloc_new w (.cells #[v] 24)
  have hsz := szProgramR ps v _ hl hp (readsP_below hv b0)
  obtain ⟨xo, xc, hxe, _⟩ := id hxv
  subst hxe
  go_enter Try.func5, Try.ntmps5
  go_wp2_with fail
  go_at_call 7
  refine hsz.mono ?_
  rintro e w1 ⟨z, rfl, hz1, hz, b1⟩
  clear hsz
  have s1 := b1.size
  have L1 : Below w.heap.size w w1 := b0.trans (b1.mono (by omega))
  by_cases h0 : z < 0
  · have hx9 : (decide (z < 0)) = true := by simpa using h0
    clear hz
    go_wp2
    go_ret
    exact ⟨rfl, L1⟩
  have hx9 : (decide (z < 0)) = false := by simpa using h0
  obtain ⟨hl', hp'⟩ := hz (by omega)
  have H1 := (b1.block w.heap.size (by omega)).trans B0
  have hss := szPlaceS n xo xc z w1 hn (by omega) hz1
  clear hz
  by_cases h1 : z < (n : Int)
  · rw [if_pos h1] at hss
    go_wp2_with fail
    go_at_call 8
    refine hss.mono ?_
    rintro e w2 ⟨rfl, rfl⟩
    go_wp2
    go_ret
    exact ⟨rfl, L1⟩
  rw [if_neg h1] at hss
  have hx8 : (decide (z - (n : Int) < 0)) = false := by simp; omega
  have hn' : n ≤ 1048576 := by omega
  go_wp2_with fail
  go_at_call 8
  refine hss.mono ?_
  rintro e w2 ⟨rfl, rfl⟩
  clear hss
  obtain ⟨c1, f1⟩ := one_cell H1
  have hti : ∀ W, Below w.heap.size w W → _ := fun W hW => toPlaceS n xs (.slice xo n xc) W hx hn' (reads2_below hxv hW)
  go_wp2_with fail
  go_at_call 10
  refine (toProgram ps v w1 hl' hp' (readsP_below hv L1)).mono ?_
  rintro e w2a ⟨u, rfl, ou, b2a⟩
  have s2a := b2a.size
  have L2a : Below w.heap.size w w2a := L1.trans (b2a.mono (by omega))
  have H2a : Hid _ := (b2a.block w.heap.size (by omega)).trans H1
  clear c1 f1 H1
  go_wp2_with fail
  go_at_call 11
  refine (hti w2a L2a).mono ?_
  rintro e w2b ⟨y1, rfl, oy1, b2b⟩
  have s2b := b2b.size
  have L2b : Below w.heap.size w w2b := L2a.trans (b2b.mono (by omega))
  have H2b : Hid _ := (b2b.block w.heap.size (by omega)).trans H2a.out
  clear H2a
  go_wp2_with fail
  go_at_call 20
  refine (hsp u y1 w2b (readsP_below (readsP_own ou) b2b) (reads2_own oy1)).mono ?_
  rintro e w3 ⟨a, rfl, oa, b3⟩
  have s3 := b3.size
  have L3 : Below w.heap.size w w3 := L2b.trans (b3.mono (by omega))
  have H3 : Hid _ := (b3.block w.heap.size (by omega)).trans H2b.out
  have alt : ∀ k, a.ownBlock = some k → k < w3.heap.size := fun k hk => (oa.lt k hk).2
  obtain ⟨c1, f1⟩ := one_cell H3.out
  clear H2b ou oy1
  go_wp2_with fail
  go_at_call 10
  refine (toProgram ps v w3 hl' hp' (readsP_below hv L3)).mono ?_
  rintro e w4 ⟨x, rfl, ox, b4⟩
  have s4 := b4.size
  have L4 : Below w.heap.size w w4 := L3.trans (b4.mono (by omega))
  have H4 : Hid _ := (b4.block w.heap.size (by omega)).trans H3.out
  have oa := own_kept oa b4
  clear c1 f1 H3
  have L5 : Below w.heap.size w (w4.alloc (.cells #[x] 31)) := L4.alloc (by omega) _
  have b5 : Below w4.heap.size w4 (w4.alloc (.cells #[x] 31)) := by go_grown
  have s5 : (w4.alloc (.cells #[x] 31)).heap.size = w4.heap.size + 1 := by simp
  have H5 : Hid _ := (b5.block w.heap.size (by omega)).trans H4.out
  have X5 : Hid _ := heap_alloc_new w4 (.cells #[x] 31)
  have ox := ownP_kept ox b5
  have oa := own_kept oa b5
  obtain ⟨xa, xn, xcp, rfl⟩ := ownP_slice ox
  clear H4
  go_wp2_with fail
  go_at_call 11
  refine (hti _ L5).mono ?_
  rintro e w5 ⟨y2, rfl, oy2, b5b⟩
  have s5b := b5b.size
  rw [s5] at oy2 s5b
  have L5b : Below w.heap.size w w5 := L5.trans (b5b.mono (by omega))
  have H5b : Hid _ := (b5b.block w.heap.size (by omega)).trans H5.out
  have X5b : Hid _ := (b5b.block w4.heap.size (by omega)).trans X5.out
  have ox := ownP_kept ox b5b
  have oa := own_kept oa b5b
  have y2ge : ∀ k, y2.ownBlock = some k → w4.heap.size < k ∧ k < w5.heap.size := fun k hk => by have := oy2.lt k hk; omega
  obtain ⟨c2, f2⟩ := one_cell X5b.out
  clear H5 X5
  go_wp2_with fail
  go_at_call 21
  refine (him _ _ _ (readsP_own ox) (reads2_own oy2) (own_cap12 oy2)).mono ?_
  rintro e w6 ⟨g, rfl, og, b6⟩
  have s6 := b6.size
  have L6 : Below w.heap.size w w6 := L5b.trans (b6.mono (by omega))
  have H6 : Hid _ := (b6.block w.heap.size (by omega)).trans H5b.out
  have X6 : Hid _ := (b6.block w4.heap.size (by omega)).trans X5b.out
  have ox := ownP_kept ox b6
  have oy2 := own_kept oy2 b6
  have oa := own_kept oa b6
  clear H5b X5b c2 f2
  have gge : ∀ k, g.ownBlock = some k → w5.heap.size ≤ k := fun k hk => (og.lt k hk).1
  go_wp2_with fail
  go_at_call 14
  refine (eqPlaceS nn A _ _ _ hnA hA' (reads2_own og) (reads2_own oa)).mono ?_
  rintro e w7 ⟨rfl, b7⟩
  have s7 := b7.size
  have L7 : Below w.heap.size w w7 := L6.trans (b7.mono (by omega))
  have H7 : Hid _ := (b7.block w.heap.size (by omega)).trans H6.out
  have X7 : Hid _ := (b7.block w4.heap.size (by omega)).trans X6.out
  have ox := ownP_kept ox b7
  have oy2 := own_kept oy2 b7
  have oa := own_kept oa b7
  have og := own_kept og b7
  clear H6 X6
  obtain ⟨c1, f1⟩ := one_cell H7.out
  obtain ⟨c2, f2⟩ := one_cell X7.out
  have z1 : w.heap.size < w7.heap.size := by omega
  have z2 : w4.heap.size < w7.heap.size := by omega
  have ht : ∀ W, Below w7.heap.size w7 W → _ := fun W hW => toProgram ps v W hl' hp' (readsP_below (readsP_below hv L7) hW)
  have rx := readsP_own ox
  go_wp2_with fail
  go_region_with (first
    | (go_at_call 10; refine (ht _ (by go_grown)).mono ?_; rintro e w8 ⟨y, rfl, oy, b8⟩; have M8 : Below w7.heap.size w7 w8 := Below.trans (by go_grown) b8; obtain ⟨hc8, hf8⟩ := bcell M8)
    | (go_at_call 13; refine (eqProgram ps _ y _ hl hp (readsP_below rx (Below.trans M8 (by go_grown))) (readsP_below (readsP_own oy) (by go_grown))).mono ?_; rintro e w9 ⟨rfl, b9'⟩; have b9 : Below w7.heap.size w7 w9 := Below.trans (Below.trans M8 (by go_grown)) (b9'.mono M8.size)))
  all_goals
    clear hc8 hf8 c1 f1 c2 f2 oy b8 M8 b9' rx
    have s9 := b9.size
    have L9 : Below w.heap.size w w9 := L7.trans (b9.mono (by omega))
    have H9 : Hid _ := (b9.block w.heap.size (by omega)).trans H7.out
    have X9 : Hid _ := (b9.block w4.heap.size (by omega)).trans X7.out
    have ox := ownP_kept ox b9
    have oy2 := own_kept oy2 b9
    have oa := own_kept oa b9
    have og := own_kept og b9
    clear H7 X7
    go_wp2_with fail
    go_at_call 11
    refine (hti _ L9).mono ?_
    rintro e w10 ⟨y3, rfl, oy3, b10⟩
    have s10 := b10.size
    have L10 : Below w.heap.size w w10 := L9.trans (b10.mono (by omega))
    have H10 : Hid _ := (b10.block w.heap.size (by omega)).trans H9.out
    have X10 : Hid _ := (b10.block w4.heap.size (by omega)).trans X9.out
    have ox := ownP_kept ox b10
    have oy2 := own_kept oy2 b10
    have oa := own_kept oa b10
    have og := own_kept og b10
    clear H9 X9
    go_wp2_with fail
    go_at_call 14
    refine (eqPlaceS n xs _ _ _ hx (by omega) (reads2_own oy2) (reads2_own oy3)).mono ?_
    rintro e w11 ⟨rfl, b11⟩
    have s11 := b11.size
    have L11 : Below w.heap.size w w11 := L10.trans (b11.mono (by omega))
    have H11 : Hid _ := (b11.block w.heap.size (by omega)).trans H10.out
    have X11 : Hid _ := (b11.block w4.heap.size (by omega)).trans X10.out
    have ox := ownP_kept ox b11
    have oy2 := own_kept oy2 b11
    have oa := own_kept oa b11
    have og := own_kept og b11
    clear H10 X10 oy3
    obtain ⟨c2, f2⟩ := one_cell X11.out
    go_wp2_with fail
    go_at_call 17
    refine (markProgramR ps _ w3.heap.size w4.heap.size w11 hl' hp' ox).mono ?_
    rintro e w12 ⟨r, rfl, ⟨hr1, hr2⟩, m12⟩
    have s12 := m12.size
    have L12 : Below w.heap.size w w12 := L11.trans (m12.below (by omega) (by omega))
    have H12 : Hid _ := (m12.out w.heap.size (by omega) (.inl (by omega))).trans H11.out
    have oa := own_marks oa m12 (fun k hk => .inl (alt k hk))
    have og := own_marks og m12 (fun k hk => .inr (by have := gge k hk; omega))
    have oy2 := own_marks oy2 m12 (fun k hk => .inr (by have := y2ge k hk; omega))
    clear c2 f2 H11 X11 ox
    have hmw := markPlaceS n (ints xs) y2 (w4.heap.size + 1) r w12 (by rw [ints_length]; exact hx) (by omega) hr1 (by omega) (by omega) oy2
    go_wp2_with fail
    go_at_call 18
    refine hmw.mono ?_
    rintro e w13 ⟨rfl, _, b13, g13⟩
    clear hmw
    have s13 := b13.size
    have L13 : Below w.heap.size w w13 := L12.trans (b13.mono (by omega))
    have H13 : Hid _ := (b13.block w.heap.size (by omega)).trans H12.out
    have oa := own_below oa b13 (fun k hk => by have := alt k hk; omega)
    have og := own_grown og g13 (fun k hk e => by have h1 := gge k hk; have h2 := y2ge k e; omega)
    have hk0 : (decide (r + 2 * (n : Int) < 0)) = false := by simp; omega
    clear oy2 H12
    go_wp2_with fail
    go_at_call 14
    refine (eqPlaceS nn A _ _ _ hnA hA' (reads2_own og) (reads2_own oa)).mono ?_
    rintro e w14 ⟨rfl, b14⟩
    have s14 := b14.size
    have L14 : Below w.heap.size w w14 := L13.trans (b14.mono (by omega))
    have H14 : Hid _ := (b14.block w.heap.size (by omega)).trans H13.out
    have oa := own_kept oa b14
    have og := own_kept og b14
    have hmk := markPlaceS nn (ints A) g w5.heap.size 1 w14 (by rw [ints_length]; exact hnA) (by omega) (by omega) (by omega) (by omega) og
    go_wp2_with fail
    go_at_call 18
    refine hmk.mono ?_
    rintro e w15 ⟨rfl, og, b15, _⟩
    clear hmk
    have s15 := b15.size
    have L15 : Below w.heap.size w w15 := L14.trans (b15.mono (by omega))
    have H15 : Hid _ := (b15.block w.heap.size (by omega)).trans H14.out
    have oa := own_below oa b15 (fun k hk => by have := alt k hk; omega)
    go_wp2_with fail
    go_at_call 19
    refine (heldPlaceS nn g 1 w15 (by omega) (by omega) (by omega) (reads2_own og)).mono ?_
    rintro e w16 ⟨rfl, b16⟩
    have s16 := b16.size
    have L16 : Below w.heap.size w w16 := L15.trans (b16.mono (by omega))
    have H16 : Hid _ := (b16.block w.heap.size (by omega)).trans H15.out
    have oa := own_kept oa b16
    have og := own_kept og b16
    have hq0 : (decide ((1 : Int) + 2 * (nn : Int) < 0)) = false := by simp; omega
    obtain ⟨c1, f1⟩ := one_cell H16.out
    go_wp2_with fail
    go_at_call 10
    refine (toProgram ps v w16 hl' hp' (readsP_below hv L16)).mono ?_
    rintro e w17 ⟨t, rfl, ot, b17⟩
    have s17 := b17.size
    have L17 : Below w.heap.size w w17 := L16.trans (b17.mono (by omega))
    have oa := own_kept oa b17
    have og := own_kept og b17
    clear c1 f1 H13 H14 H15 H16
    go_wp2_with fail
    go_at_call 11
    refine (hti _ L17).mono ?_
    rintro e w18 ⟨y4, rfl, oy4, b18⟩
    have s18 := b18.size
    have L18 : Below w.heap.size w w18 := L17.trans (b18.mono (by omega))
    have oa := own_kept oa b18
    have og := own_kept og b18
    have ot := ownP_kept ot b18
    go_wp2_with fail
    go_at_call 21
    refine (him _ _ _ (readsP_own ot) (reads2_own oy4) (own_cap12 oy4)).mono ?_
    rintro e w19 ⟨h, rfl, oh, b19⟩
    have s19 := b19.size
    have L19 : Below w.heap.size w w19 := L18.trans (b19.mono (by omega))
    have oa := own_kept oa b19
    have og := own_kept og b19
    go_wp2_with fail
    go_at_call 14
    refine (eqPlaceS nn A _ _ _ hnA hA' (reads2_own oh) (reads2_own oa)).mono ?_
    rintro e w20 ⟨rfl, b20⟩
    have s20 := b20.size
    have L20 : Below w.heap.size w w20 := L19.trans (b20.mono (by omega))
    have og := own_kept og b20
    go_wp2_with fail
    go_at_call 19
    refine (heldPlaceS nn g 1 w20 (by omega) (by omega) (by omega) (reads2_own og)).mono ?_
    rintro e w21 ⟨rfl, b21⟩
    go_wp2
    go_ret
    exact ⟨rfl, L20.trans (b21.mono (by omega))⟩

set_option maxRecDepth 100000 in
theorem liftedFnExactSteps (os : Os) (started : os.Started) (H : Type) (enc : TypeId × Value → H) :
    ReturnsInHanded {} Try.checked os 5 .any (Rows.fnExactStepsSpec.pre6 enc Try.prog Try.f5 Rows.fnExactStepsRow.domain false) (Rows.fnExactStepsSpec.post enc Try.prog Try.f5 false true false false) := by
  refine returnsInHanded_of_change (C := Try.checked) own started (by kernel_rfl) Try.func5
    (ChangeSpec.witness6 (enc := enc) (C := Try.checked) false ⟨#[], #[.agg #[.slice none 0 0], .slice none 0 0], []⟩ 8 (by kernel_rfl) (by kernel_rfl) (by kernel_rfl) (by kernel_rfl)) ?_
  intro W base args ds gs before hval0 hW hcnd _
  have hval : ∀ (j : Nat) t v, Try.f5.params[j]? = some t → args[j]? = some v → Value.okWide Try.prog W .any base t v := hval0
  have hW' := hW
  obtain ⟨p, q, hA0, hV, rfl, hfz, hnd⟩ := hW
  have hA : DataW.TrodAll enc Try.prog W 0 (fun _ => true) true Try.f5.params.toList args.toList ds p := hA0
  rw [Try.params5] at hA hval
  obtain ⟨v0, vs0, d0, ds0, p0, q0, hargs, rfl, rfl, h0, r0⟩ := trodAll_cons hA
  obtain ⟨v1, vs1, d1, ds1, p1, q1, rfl, rfl, rfl, h1, r1⟩ := trodAll_cons r0
  obtain ⟨rfl, rfl, rfl⟩ := trodAll_nil r1
  obtain rfl : args = #[v0, v1] := by cases args; simp_all
  obtain ⟨rfl, rfl⟩ := trodVars_none hV
  obtain ⟨v, ps, rfl, hr, hl, hq⟩ := open_program (hval 0 24 v0 rfl rfl) h0
  obtain ⟨n, ys, hys, hxr, hxl⟩ := open_places_arg (hval 1 25 v1 rfl rfl) h1
  refine (walkSteps ps ys n v v1 W hl hq hr hys hxl hxr).mono fun e W' ⟨he, hb⟩ => ?_
  subst he
  refine ⟨_, rfl, law_post (tb := 4) laidOut ?_ hW' rfl Try.underlying4 rfl rfl hb⟩
  exact all_readable (P := Try.prog) (by kernel_rfl)

theorem overFnExactSteps : Rows.fnExactStepsRow.holds Try.pinned (OpenSpec.ofChange Rows.fnExactStepsSpec) :=
  OpenClaim.holds_of_wide 5 Try.f5 rfl rfl rfl rfl rfl rfl rfl ⟨rfl, rfl, rfl, rfl, rfl⟩ rfl rfl rfl rfl rfl (by kernel_rfl) Try.func5 (by kernel_rfl)
    (of_decide_eq_true (by kernel_rfl)) (by unfold Func.isWrapper; first | (rw [if_pos (by decide +kernel)]; kernel_rfl) | (rw [if_neg (by decide +kernel)]; exact ⟨rfl, rfl⟩))
    (fun os started H enc _ => liftedFnExactSteps os started H enc)

/-- ████ THE STATEMENT ████ -/
theorem stepsHolds : Rows.FnExactStepsSaid :=
  overFnExactSteps
#print axioms stepsHolds

end Go.Proofs.Ytfbfbfempgaoeaa
