/-
  The law FnExactHolding: at every argument impl.Holding answers as the specification, leaves its arguments alone, and its answer owns its memory.
-/
import Derived.Test.YtfbfbfempgaoeaaSpecWt
import Derived.Test.YtfbfbfempgaoeaaImplWt
import Derived.Test.YtfbfbfempgaoeaaToPlaces
import Derived.Test.YtfbfbfempgaoeaaMarkProg
import Derived.Test.YtfbfbfempgaoeaaLift
namespace Go.Proofs.Ytfbfbfempgaoeaa
open Go.ChangeShapes Go.WideShapes Go.ChangeAt Go.RowKit
set_option linter.unusedVariables false
set_option linter.unusedSimpArgs false
set_option maxHeartbeats 4000000
set_option maxRecDepth 20000

theorem own_cap12 {w : World} {base : Nat} {e : TypeId} {s : Nat} {u : Value} {n : Nat} {xs : List Value} (h : w.ownsRow base e s u n xs) : ∀ a c', u = .slice a n c' → n ≤ c' := by
  intro a c' e
  rcases h.2 with ⟨h1, h2⟩ | ⟨b, cap, d, h1, _, _, h2, _⟩
  · omega
  · rw [h1] at e; cases e; exact h2

theorem walkHolding (ps : List (List Stm)) (c : Int) (xs : List Int) (n : Nat) (v xv : Value) (w : World) (hl : ps.length ≤ maxLen) (hp : ∀ p ∈ ps, p.length ≤ maxLen) (hv : ReadsP w v ps) (hx : xs.length = 2 * n) (hn : n ≤ maxLen) (hxv : Reads2 w xv n (ints xs)) :
    Calls Try.prog 6 #[.agg #[v], .int .i64 c, xv] w fun e w' => e = .returned (.bool true) ∧ Below w.heap.size w w' := by
  have hsp := fun u yv W hr h2 => specHolding ps c xs n u yv W hl hp hr hx hn h2
  have him := fun u yv W hr h2 hcap => implHolding ps c xs n u yv W hl hp hr hx hn h2 hcap
  obtain ⟨A, hA⟩ : ∃ A, holdA c ps xs n = A := ⟨_, rfl⟩
  rw [hA] at hsp him
  clear hA
  have b0 : Below w.heap.size w (w.alloc (.cells #[v] 24)) := by go_grown
  have s0 : (w.alloc (.cells #[v] 24)).heap.size = w.heap.size + 1 := by simp
  have B0 := heap_alloc_new w (.cells #[v] 24)
  have hsz := szProgramR ps v _ hl hp (readsP_below hv b0)
  obtain ⟨xo, xc, hxe, _⟩ := id hxv
  subst hxe
  go_enter Try.func6, Try.ntmps6
  go_wp2_with fail
  go_at_call 7
  refine hsz.mono ?_
  rintro e w1 ⟨z, rfl, hz1, hz, b1⟩
  clear hsz
  have s1 := b1.size
  have L1 : Below w.heap.size w w1 := b0.trans (b1.mono (by omega))
  by_cases h0 : z < 0
  · have hx9 : (decide (z < 0)) = true := by simpa using h0
    clear hz
    go_wp2
    go_ret
    exact ⟨rfl, L1⟩
  have hx9 : (decide (z < 0)) = false := by simpa using h0
  obtain ⟨hl', hp'⟩ := hz (by omega)
  have H1 := (b1.block w.heap.size (by omega)).trans B0
  have hss := szPlaceS n xo xc z w1 hn (by omega) hz1
  clear hz
  by_cases h1 : z < (n : Int)
  · rw [if_pos h1] at hss
    go_wp2_with fail
    go_at_call 8
    refine hss.mono ?_
    rintro e w2 ⟨rfl, rfl⟩
    go_wp2
    go_ret
    exact ⟨rfl, L1⟩
  rw [if_neg h1] at hss
  have hx8 : (decide (z - (n : Int) < 0)) = false := by simp; omega
  have hn' : n ≤ 1048576 := by omega
  go_wp2_with fail
  go_at_call 8
  refine hss.mono ?_
  rintro e w2 ⟨rfl, rfl⟩
  clear hss
  obtain ⟨c1, f1⟩ := one_cell H1
  have hti : ∀ W, Below w.heap.size w W → _ := fun W hW => toPlaceS n xs (.slice xo n xc) W hx hn' (reads2_below hxv hW)
  go_wp2_with fail
  go_at_call 10
  refine (toProgram ps v w1 hl' hp' (readsP_below hv L1)).mono ?_
  rintro e w2a ⟨u, rfl, ou, b2a⟩
  have s2a := b2a.size
  have L2a : Below w.heap.size w w2a := L1.trans (b2a.mono (by omega))
  have H2a : Hid _ := (b2a.block w.heap.size (by omega)).trans H1
  clear c1 f1 H1
  go_wp2_with fail
  go_at_call 11
  refine (hti w2a L2a).mono ?_
  rintro e w2b ⟨y1, rfl, oy1, b2b⟩
  have s2b := b2b.size
  have L2b : Below w.heap.size w w2b := L2a.trans (b2b.mono (by omega))
  have H2b : Hid _ := (b2b.block w.heap.size (by omega)).trans H2a.out
  clear H2a
  go_wp2_with fail
  go_at_call 22
  refine (hsp u y1 w2b (readsP_below (readsP_own ou) b2b) (reads2_own oy1)).mono ?_
  rintro e w3 ⟨rfl, b3⟩
  have s3 := b3.size
  have L3 : Below w.heap.size w w3 := L2b.trans (b3.mono (by omega))
  have H3 : Hid _ := (b3.block w.heap.size (by omega)).trans H2b.out
  obtain ⟨c1, f1⟩ := one_cell H3.out
  clear H2b ou oy1
  go_wp2_with fail
  go_at_call 10
  refine (toProgram ps v w3 hl' hp' (readsP_below hv L3)).mono ?_
  rintro e w4 ⟨x, rfl, ox, b4⟩
  have s4 := b4.size
  have L4 : Below w.heap.size w w4 := L3.trans (b4.mono (by omega))
  have H4 : Hid _ := (b4.block w.heap.size (by omega)).trans H3.out
  clear c1 f1 H3
  have L5 : Below w.heap.size w (w4.alloc (.cells #[x] 31)) := L4.alloc (by omega) _
  have b5 : Below w4.heap.size w4 (w4.alloc (.cells #[x] 31)) := by go_grown
  have s5 : (w4.alloc (.cells #[x] 31)).heap.size = w4.heap.size + 1 := by simp
  have H5 : Hid _ := (b5.block w.heap.size (by omega)).trans H4.out
  have X5 : Hid _ := heap_alloc_new w4 (.cells #[x] 31)
  have ox := ownP_kept ox b5
  obtain ⟨xa, xn, xcp, rfl⟩ := ownP_slice ox
  clear H4
  go_wp2_with fail
  go_at_call 11
  refine (hti _ L5).mono ?_
  rintro e w5 ⟨y2, rfl, oy2, b5b⟩
  have s5b := b5b.size
  rw [s5] at oy2 s5b
  have L5b : Below w.heap.size w w5 := L5.trans (b5b.mono (by omega))
  have H5b : Hid _ := (b5b.block w.heap.size (by omega)).trans H5.out
  have X5b : Hid _ := (b5b.block w4.heap.size (by omega)).trans X5.out
  have ox := ownP_kept ox b5b
  have y2ge : ∀ k, y2.ownBlock = some k → w4.heap.size < k ∧ k < w5.heap.size := fun k hk => by have := oy2.lt k hk; omega
  obtain ⟨c2, f2⟩ := one_cell X5b.out
  clear H5 X5
  go_wp2_with fail
  go_at_call 23
  refine (him _ _ _ (readsP_own ox) (reads2_own oy2) (own_cap12 oy2)).mono ?_
  rintro e w6 ⟨rfl, b6⟩
  have s6 := b6.size
  have L6 : Below w.heap.size w w6 := L5b.trans (b6.mono (by omega))
  have H6 : Hid _ := (b6.block w.heap.size (by omega)).trans H5b.out
  have X6 : Hid _ := (b6.block w4.heap.size (by omega)).trans X5b.out
  have ox := ownP_kept ox b6
  have oy2 := own_kept oy2 b6
  clear H5b X5b c2 f2
  obtain ⟨c1, f1⟩ := one_cell H6.out
  obtain ⟨c2, f2⟩ := one_cell X6.out
  have z1 : w.heap.size < w6.heap.size := by omega
  have z2 : w4.heap.size < w6.heap.size := by omega
  have ht : ∀ W, Below w6.heap.size w6 W → _ := fun W hW => toProgram ps v W hl' hp' (readsP_below (readsP_below hv L6) hW)
  have rx := readsP_own ox
  go_wp2_with fail
  go_region_with (first
    | (go_at_call 10; refine (ht _ (by go_grown)).mono ?_; rintro e w8 ⟨y, rfl, oy, b8⟩; have M8 : Below w6.heap.size w6 w8 := Below.trans (by go_grown) b8; obtain ⟨hc8, hf8⟩ := bcell M8)
    | (go_at_call 13; refine (eqProgram ps _ y _ hl hp (readsP_below rx (Below.trans M8 (by go_grown))) (readsP_below (readsP_own oy) (by go_grown))).mono ?_; rintro e w9 ⟨rfl, b9'⟩; have b9 : Below w6.heap.size w6 w9 := Below.trans (Below.trans M8 (by go_grown)) (b9'.mono M8.size)))
  all_goals
    clear hc8 hf8 c1 f1 c2 f2 oy b8 M8 b9' rx
    have s9 := b9.size
    have L9 : Below w.heap.size w w9 := L6.trans (b9.mono (by omega))
    have H9 : Hid _ := (b9.block w.heap.size (by omega)).trans H6.out
    have X9 : Hid _ := (b9.block w4.heap.size (by omega)).trans X6.out
    have ox := ownP_kept ox b9
    have oy2 := own_kept oy2 b9
    clear H6 X6
    go_wp2_with fail
    go_at_call 11
    refine (hti _ L9).mono ?_
    rintro e w10 ⟨y3, rfl, oy3, b10⟩
    have s10 := b10.size
    have L10 : Below w.heap.size w w10 := L9.trans (b10.mono (by omega))
    have H10 : Hid _ := (b10.block w.heap.size (by omega)).trans H9.out
    have X10 : Hid _ := (b10.block w4.heap.size (by omega)).trans X9.out
    have ox := ownP_kept ox b10
    have oy2 := own_kept oy2 b10
    clear H9 X9
    go_wp2_with fail
    go_at_call 14
    refine (eqPlaceS n xs _ _ _ hx (by omega) (reads2_own oy2) (reads2_own oy3)).mono ?_
    rintro e w11 ⟨rfl, b11⟩
    go_wp2
    go_ret
    exact ⟨rfl, L10.trans (b11.mono (by omega))⟩

set_option maxRecDepth 100000 in
theorem liftedFnExactHolding (os : Os) (started : os.Started) (H : Type) (enc : TypeId × Value → H) :
    ReturnsInHanded {} Try.checked os 6 .any (Rows.fnExactHoldingSpec.pre6 enc Try.prog Try.f6 Rows.fnExactHoldingRow.domain false) (Rows.fnExactHoldingSpec.post enc Try.prog Try.f6 false true false false) := by
  refine returnsInHanded_of_change (C := Try.checked) own started (by kernel_rfl) Try.func6
    (ChangeSpec.witness6 (enc := enc) (C := Try.checked) false ⟨#[], #[.agg #[.slice none 0 0], .int .i64 0, .slice none 0 0], []⟩ 8 (by kernel_rfl) (by kernel_rfl) (by kernel_rfl) (by kernel_rfl)) ?_
  intro W base args ds gs before hval0 hW hcnd _
  have hval : ∀ (j : Nat) t v, Try.f6.params[j]? = some t → args[j]? = some v → Value.okWide Try.prog W .any base t v := hval0
  have hW' := hW
  obtain ⟨p, q, hA0, hV, rfl, hfz, hnd⟩ := hW
  have hA : DataW.TrodAll enc Try.prog W 0 (fun _ => true) true Try.f6.params.toList args.toList ds p := hA0
  rw [Try.params6] at hA hval
  obtain ⟨v0, vs0, d0, ds0, p0, q0, hargs, rfl, rfl, h0, r0⟩ := trodAll_cons hA
  obtain ⟨v1, vs1, d1, ds1, p1, q1, rfl, rfl, rfl, h1, r1⟩ := trodAll_cons r0
  obtain ⟨v2, vs2, d2, ds2, p2, q2, rfl, rfl, rfl, h2, r2⟩ := trodAll_cons r1
  obtain ⟨rfl, rfl, rfl⟩ := trodAll_nil r2
  obtain rfl : args = #[v0, v1, v2] := by cases args; simp_all
  obtain ⟨rfl, rfl⟩ := trodVars_none hV
  obtain ⟨v, ps, rfl, hr, hl, hq⟩ := open_program (hval 0 24 v0 rfl rfl) h0
  obtain ⟨c, rfl, _⟩ := open_int Try.underlying2 (hval 1 2 v1 rfl rfl) h1
  obtain ⟨n, ys, hys, hxr, hxl⟩ := open_places_arg (hval 2 25 v2 rfl rfl) h2
  refine (walkHolding ps c ys n v v2 W hl hq hr hys hxl hxr).mono fun e W' ⟨he, hb⟩ => ?_
  subst he
  refine ⟨_, rfl, law_post (tb := 4) laidOut ?_ hW' rfl Try.underlying4 rfl rfl hb⟩
  exact all_readable (P := Try.prog) (by kernel_rfl)

theorem overFnExactHolding : Rows.fnExactHoldingRow.holds Try.pinned (OpenSpec.ofChange Rows.fnExactHoldingSpec) :=
  OpenClaim.holds_of_wide 6 Try.f6 rfl rfl rfl rfl rfl rfl rfl ⟨rfl, rfl, rfl, rfl, rfl⟩ rfl rfl rfl rfl rfl (by kernel_rfl) Try.func6 (by kernel_rfl)
    (of_decide_eq_true (by kernel_rfl)) (by unfold Func.isWrapper; first | (rw [if_pos (by decide +kernel)]; kernel_rfl) | (rw [if_neg (by decide +kernel)]; exact ⟨rfl, rfl⟩))
    (fun os started H enc _ => liftedFnExactHolding os started H enc)

/-- ████ THE STATEMENT ████ -/
theorem holdingHolds : Rows.FnExactHoldingSaid :=
  overFnExactHolding
#print axioms holdingHolds

end Go.Proofs.Ytfbfbfempgaoeaa
