/-
  The law FnExactNowhere.
-/
import Derived.Test.YtnjbihfceckpfaaImplPl
import Derived.Test.YtnjbihfceckpfaaG45MarkProg
namespace Go.Proofs.Ytnjbihfceckpfaa
open Go.ChangeShapes Go.WideShapes Go.ChangeAt Go.RowKit
set_option linter.unusedVariables false
set_option maxHeartbeats 4000000
set_option maxRecDepth 20000

theorem rowsP {P : Program} {fn : Nat} {args : Array Value} {w : World} {A : List Int} {nn : Nat} (hn : A.length = 2 * nn) (h : Calls P fn args w fun e w' => ∃ u, e = .returned u ∧ OwnPl w' w.heap.size u A ∧ Below w.heap.size w w') :
    Calls P fn args w fun e w' => ∃ u, e = .returned u ∧ w'.ownsRow w.heap.size 56 2 u nn (ints A) ∧ Below w.heap.size w w' := h.mono (fun e w' he => by
  obtain ⟨u, h1, h2, h3⟩ := he
  obtain ⟨m, hm, ho⟩ := h2.ex
  have : m = nn := by omega
  subst this
  exact ⟨u, h1, ho, h3⟩)

theorem walkNowhere (ps : List (List Stm)) (v : Value) (w : World) (hl : ps.length ≤ maxLen) (hp : ∀ p ∈ ps, p.length ≤ maxLen) (hv : ReadsP w v ps) :
    Calls Try.prog 6 #[.agg #[v]] w fun e w' => e = .returned (.bool true) ∧ Below w.heap.size w w' := by
  obtain ⟨A, hA0⟩ := plA_some ps 1 nowF
  obtain ⟨nn, hnA, hn48⟩ := plA_len hA0
  have hsp := fun u W hl hp hr => rowsP hnA (specNowhere ps A hA0 u W hl hp hr)
  have him := fun u W hl hp hr => rowsP hnA (implNowhere ps A hA0 u W hl hp hr)
  have hA : nn ≤ 48 := hn48
  clear hA0
  have hA' : nn ≤ 1099511627776 := by omega
  have b0 : Below w.heap.size w (w.alloc (.cells #[v] 24)) := by go_grown
  have s0 : (w.alloc (.cells #[v] 24)).heap.size = w.heap.size + 1 := by simp
  have B0 := heap_alloc_new w (.cells #[v] 24)
  have hsz := szProgram ps v _ hl hp (readsP_below hv b0)
  go_enter Try.func6, Try.ntmps6
  go_wp2_with fail
  go_at_call 9
  refine hsz.mono ?_
  rintro e w1 ⟨z, rfl, hz, b1⟩
  clear hsz
  have s1 := b1.size
  have L1 : Below w.heap.size w w1 := b0.trans (b1.mono (by omega))
  by_cases h0 : z < 0
  · have hx : (decide (z < 0)) = true := by simpa using h0
    clear hz
    go_wp2
    go_ret
    exact ⟨rfl, L1⟩
  have hx : (decide (z < 0)) = false := by simpa using h0
  obtain ⟨hl', hp'⟩ := hz (by omega)
  have H1 := (b1.block w.heap.size (by omega)).trans B0
  obtain ⟨c1, f1⟩ := one_cell H1
  go_wp2_with fail
  go_at_call 11
  refine (toProgram ps v w1 hl' hp' (readsP_below hv L1)).mono ?_
  rintro e w2 ⟨u, rfl, ou, b2⟩
  have s2 := b2.size
  have L2 : Below w.heap.size w w2 := L1.trans (b2.mono (by omega))
  have H2 : Hid _ := (b2.block w.heap.size (by omega)).trans H1
  clear c1 f1 H1
  go_wp2_with fail
  go_at_call 25
  refine (hsp u w2 hl hp (readsP_own ou)).mono ?_
  rintro e w3 ⟨a, rfl, oa, b3⟩
  have s3 := b3.size
  have alt : ∀ k, a.ownBlock = some k → k < w3.heap.size := fun k hk => (oa.lt k hk).2
  have L3 : Below w.heap.size w w3 := L2.trans (b3.mono (by omega))
  have H3 : Hid _ := (b3.block w.heap.size (by omega)).trans H2.out
  obtain ⟨c1, f1⟩ := one_cell H3.out
  clear H2 ou
  go_wp2_with fail
  go_at_call 11
  refine (toProgram ps v w3 hl' hp' (readsP_below hv L3)).mono ?_
  rintro e w4 ⟨x, rfl, ox, b4⟩
  have s4 := b4.size
  have L4 : Below w.heap.size w w4 := L3.trans (b4.mono (by omega))
  have H4 : Hid _ := (b4.block w.heap.size (by omega)).trans H3.out
  have oa := own_kept oa b4
  clear c1 f1 H3
  have L5 : Below w.heap.size w (w4.alloc (.cells #[x] 30)) := L4.alloc (by omega) _
  have b5 : Below w4.heap.size w4 (w4.alloc (.cells #[x] 30)) := by go_grown
  have s5 : (w4.alloc (.cells #[x] 30)).heap.size = w4.heap.size + 1 := by simp
  have H5 : Hid _ := (b5.block w.heap.size (by omega)).trans H4.out
  have X5 : Hid _ := heap_alloc_new w4 (.cells #[x] 30)
  have ox := ownP_kept ox b5
  have oa := own_kept oa b5
  obtain ⟨xa, xn, xc, rfl⟩ := ownP_slice ox
  clear H4
  go_wp2_with fail
  go_at_call 26
  refine (him _ _ hl hp (readsP_own ox)).mono ?_
  rintro e w6 ⟨g, rfl, og, b6⟩
  have s6 := b6.size
  rw [s5] at og s6
  have gge : ∀ k, g.ownBlock = some k → w4.heap.size < k := fun k hk => by have := (og.lt k hk).1; omega
  have L6 : Below w.heap.size w w6 := L5.trans (b6.mono (by omega))
  have H6 : Hid _ := (b6.block w.heap.size (by omega)).trans H5.out
  have X6 : Hid _ := (b6.block w4.heap.size (by omega)).trans X5.out
  have ox := ownP_kept ox b6
  have oa := own_kept oa b6
  clear H5 X5
  go_wp2_with fail
  go_at_call 27
  refine (eqPlaceS nn A _ _ _ hnA hA' (reads2_own og) (reads2_own oa)).mono ?_
  rintro e w7 ⟨rfl, b7⟩
  have s7 := b7.size
  have L7 : Below w.heap.size w w7 := L6.trans (b7.mono (by omega))
  have H7 : Hid _ := (b7.block w.heap.size (by omega)).trans H6.out
  have X7 : Hid _ := (b7.block w4.heap.size (by omega)).trans X6.out
  have ox := ownP_kept ox b7
  have oa := own_kept oa b7
  have og := own_kept og b7
  clear H6 X6
  obtain ⟨c1, f1⟩ := one_cell H7.out
  obtain ⟨c2, f2⟩ := one_cell X7.out
  have z1 : w.heap.size < w7.heap.size := by omega
  have z2 : w4.heap.size < w7.heap.size := by omega
  have ht : ∀ W, Below w7.heap.size w7 W → _ := fun W hW => toProgram ps v W hl' hp' (readsP_below (readsP_below hv L7) hW)
  have rx := readsP_own ox
  go_wp2_with fail
  go_region_with (first
    | (go_at_call 11; refine (ht _ (by go_grown)).mono ?_; rintro e w8 ⟨y, rfl, oy, b8⟩; have M8 : Below w7.heap.size w7 w8 := Below.trans (by go_grown) b8; obtain ⟨hc8, hf8⟩ := bcell M8)
    | (go_at_call 14; refine (eqProgram ps _ y _ hl hp (readsP_below rx (Below.trans M8 (by go_grown))) (readsP_below (readsP_own oy) (by go_grown))).mono ?_; rintro e w9 ⟨rfl, b9'⟩; have b9 : Below w7.heap.size w7 w9 := Below.trans (Below.trans M8 (by go_grown)) (b9'.mono M8.size)))
  all_goals
    clear hc8 hf8 c1 f1 c2 f2 oy b8 M8 b9' rx
    have s9 := b9.size
    have L9 : Below w.heap.size w w9 := L7.trans (b9.mono (by omega))
    have H9 : Hid _ := (b9.block w.heap.size (by omega)).trans H7.out
    have X9 : Hid _ := (b9.block w4.heap.size (by omega)).trans X7.out
    have ox := ownP_kept ox b9
    have oa := own_kept oa b9
    have og := own_kept og b9
    clear H7 X7
    obtain ⟨c2, f2⟩ := one_cell X9.out
    go_wp2_with fail
    go_at_call 15
    refine (markProgram ps _ w3.heap.size w4.heap.size w9 hl' hp' ox).mono ?_
    rintro e w10 ⟨r, rfl, hr, m10⟩
    have s10 := m10.size
    have L10 : Below w.heap.size w w10 := L9.trans (m10.below (by omega) (by omega))
    have H10 : Hid _ := (m10.out w.heap.size (by omega) (.inl (by omega))).trans H9.out
    have oa := own_marks oa m10 (fun k hk => .inl (alt k hk))
    have og := own_marks og m10 (fun k hk => .inr (by have := gge k hk; omega))
    have hk0 : (decide (r < 0)) = false := by simp; omega
    clear c2 f2 H9 X9 ox
    go_wp2_with fail
    go_at_call 27
    refine (eqPlaceS nn A _ _ _ hnA hA' (reads2_own og) (reads2_own oa)).mono ?_
    rintro e w11 ⟨rfl, b11⟩
    have s11 := b11.size
    have L11 : Below w.heap.size w w11 := L10.trans (b11.mono (by omega))
    have H11 : Hid _ := (b11.block w.heap.size (by omega)).trans H10.out
    have oa := own_kept oa b11
    have og := own_kept og b11
    have hmk := markPlaceS nn (ints A) g (w4.heap.size + 1) 1 w11 (by rw [ints_length]; exact hnA) (by omega) (by omega) (by omega) (by omega) og
    go_wp2_with fail
    go_at_call 28
    refine hmk.mono ?_
    rintro e w12 ⟨rfl, og, b12, _⟩
    clear hmk
    have s12 := b12.size
    have L12 : Below w.heap.size w w12 := L11.trans (b12.mono (by omega))
    have H12 : Hid _ := (b12.block w.heap.size (by omega)).trans H11.out
    have oa := own_below oa b12 (fun k hk => by have := alt k hk; omega)
    go_wp2_with fail
    go_at_call 29
    refine (heldPlaceS nn g 1 w12 (by omega) (by omega) (by omega) (reads2_own og)).mono ?_
    rintro e w13 ⟨rfl, b13⟩
    have s13 := b13.size
    have L13 : Below w.heap.size w w13 := L12.trans (b13.mono (by omega))
    have H13 : Hid _ := (b13.block w.heap.size (by omega)).trans H12.out
    have oa := own_kept oa b13
    have og := own_kept og b13
    have hq0 : (decide ((1 : Int) + 2 * (nn : Int) < 0)) = false := by simp; omega
    obtain ⟨c1, f1⟩ := one_cell H13.out
    go_wp2_with fail
    go_at_call 11
    refine (toProgram ps v w13 hl' hp' (readsP_below hv L13)).mono ?_
    rintro e w14 ⟨t, rfl, ot, b14⟩
    have s14 := b14.size
    have L14 : Below w.heap.size w w14 := L13.trans (b14.mono (by omega))
    have oa := own_kept oa b14
    have og := own_kept og b14
    clear c1 f1 H10 H11 H12 H13
    go_wp2_with fail
    go_at_call 26
    refine (him _ _ hl hp (readsP_own ot)).mono ?_
    rintro e w15 ⟨h, rfl, oh, b15⟩
    have s15 := b15.size
    have L15 : Below w.heap.size w w15 := L14.trans (b15.mono (by omega))
    have oa := own_kept oa b15
    have og := own_kept og b15
    go_wp2_with fail
    go_at_call 27
    refine (eqPlaceS nn A _ _ _ hnA hA' (reads2_own oh) (reads2_own oa)).mono ?_
    rintro e w16 ⟨rfl, b16⟩
    have s16 := b16.size
    have L16 : Below w.heap.size w w16 := L15.trans (b16.mono (by omega))
    have og := own_kept og b16
    go_wp2_with fail
    go_at_call 29
    refine (heldPlaceS nn g 1 w16 (by omega) (by omega) (by omega) (reads2_own og)).mono ?_
    rintro e w17 ⟨rfl, b17⟩
    go_wp2
    go_ret
    exact ⟨rfl, L16.trans (b17.mono (by omega))⟩

set_option maxRecDepth 100000 in
set_option maxRecDepth 100000 in
theorem liftedFnExactNowhere (os : Os) (started : os.Started) (H : Type) (enc : TypeId × Value → H) :
    ReturnsInHanded {} Try.checked os 6 .any (Rows.fnExactNowhereSpec.pre6 enc Try.prog Try.f6 Rows.fnExactNowhereRow.domain false) (Rows.fnExactNowhereSpec.post enc Try.prog Try.f6 false true false false) := by
  refine returnsInHanded_of_change (C := Try.checked) own started (by kernel_rfl) Try.func6
    (ChangeSpec.witness6 (enc := enc) (C := Try.checked) false ⟨#[], #[.agg #[.slice none 0 0]], []⟩ 8 (by kernel_rfl) (by kernel_rfl) (by kernel_rfl) (by kernel_rfl)) ?_
  intro W base args ds gs before hval0 hW hcnd _
  have hval : ∀ (j : Nat) t v, Try.f6.params[j]? = some t → args[j]? = some v → Value.okWide Try.prog W .any base t v := hval0
  have hW' := hW
  obtain ⟨p, q, hA0, hV, rfl, hfz, hnd⟩ := hW
  have hA : DataW.TrodAll enc Try.prog W 0 (fun _ => true) true Try.f6.params.toList args.toList ds p := hA0
  rw [Try.params6] at hA hval
  obtain ⟨v0, vs0, d0, ds0, p0, q0, hargs, rfl, rfl, h0, r0⟩ := trodAll_cons hA
  obtain ⟨rfl, rfl, rfl⟩ := trodAll_nil r0
  obtain rfl : args = #[v0] := by cases args; simp_all
  obtain ⟨rfl, rfl⟩ := trodVars_none hV
  obtain ⟨v, ps, rfl, hr, hl, hq⟩ := open_program (hval 0 24 v0 rfl rfl) h0
  refine (walkNowhere ps v W hl hq hr).mono fun e W' ⟨he, hb⟩ => ?_
  subst he
  refine ⟨_, rfl, law_post (tb := 4) laidOut ?_ hW' rfl Try.underlying4 rfl rfl hb⟩
  exact all_readable (P := Try.prog) (by kernel_rfl)

theorem overFnExactNowhere : Rows.fnExactNowhereRow.holds Try.pinned (OpenSpec.ofChange Rows.fnExactNowhereSpec) :=
  OpenClaim.holds_of_wide 6 Try.f6 rfl rfl rfl rfl rfl rfl rfl ⟨rfl, rfl, rfl, rfl, rfl⟩ rfl rfl rfl rfl rfl (by kernel_rfl) Try.func6 (by kernel_rfl)
    (of_decide_eq_true (by kernel_rfl)) (by unfold Func.isWrapper; first | (rw [if_pos (by decide +kernel)]; kernel_rfl) | (rw [if_neg (by decide +kernel)]; exact ⟨rfl, rfl⟩))
    (fun os started H enc _ => liftedFnExactNowhere os started H enc)

/-- ████ THE STATEMENT ████ -/
theorem nowhereHolds : Rows.FnExactNowhereSaid :=
  overFnExactNowhere
#print axioms nowhereHolds

end Go.Proofs.Ytnjbihfceckpfaa
