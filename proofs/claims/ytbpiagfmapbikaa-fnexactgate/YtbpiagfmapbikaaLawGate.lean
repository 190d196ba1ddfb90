/-
  The law FnExactGate.
-/
import Derived.Test.YtbpiagfmapbikaaGateBoth
import Derived.Test.YtbpiagfmapbikaaMarkStm
import Derived.Test.YtbpiagfmapbikaaOpenProc
namespace Go.Proofs.Ytbpiagfmapbikaa
open Go.ChangeShapes Go.WideShapes Go.ChangeAt Go.RowKit
set_option linter.unusedVariables false
set_option maxHeartbeats 2000000

theorem walkGate (ss : List Stm) (i : Int) (v : Value) (w : World) (hl : ss.length ≤ maxLen) (hv : Reads3 w v ss) :
    Calls Try.prog 5 #[.agg #[v], .int .i64 i] w fun e w' => e = .returned (.bool true) ∧ Below w.heap.size w w' := by
  have hsp := specGate ss i
  have him := implGate ss i
  revert hsp him
  generalize gateAns ss i = A
  intro hsp him
  obtain ⟨ao, cap, hv0, _⟩ := id hv
  have hsz := szProc ss.length ao cap 1048576
  have b0 : Below w.heap.size w (w.alloc (.cells #[v] 24)) := by go_grown
  have s0 : (w.alloc (.cells #[v] 24)).heap.size = w.heap.size + 1 := by simp
  have B0 := heap_alloc_new w (.cells #[v] 24)
  rw [← hv0] at hsz
  clear hv0
  by_cases hlt : (1048576 : Int) < (ss.length : Int)
  · rw [if_pos hlt] at hsz
    go_enter Try.func5, Try.ntmps5
    go_wp2_with (go_at_call 8; refine (hsz _ hl (by omega) (by omega)).mono ?_; rintro e w1 ⟨rfl, b1⟩)
    go_ret
    exact ⟨rfl, b0.trans (b1.mono (by omega))⟩
  rw [if_neg hlt] at hsz
  have hx : (decide ((1048576 : Int) - (ss.length : Int) < 0)) = false := by simp; omega
  have hl' : ss.length ≤ 1048576 := by omega
  go_enter Try.func5, Try.ntmps5
  go_wp2_with fail
  go_at_call 8
  refine (hsz _ hl (by omega) (by omega)).mono ?_
  rintro e w1 ⟨rfl, b1⟩
  clear hsz
  have s1 := b1.size
  have L1 : Below w.heap.size w w1 := b0.trans (b1.mono (by omega))
  have H1 := (b1.block w.heap.size (by omega)).trans B0
  obtain ⟨c1, f1⟩ := one_cell H1
  go_wp2_with fail
  go_at_call 10
  refine (toProc ss v w1 hl' (reads3_below hv L1)).mono ?_
  rintro e w2 ⟨u, rfl, ou, b2⟩
  have s2 := b2.size
  have L2 : Below w.heap.size w w2 := L1.trans (b2.mono (by omega))
  have H2 : Hid _ := (b2.block w.heap.size (by omega)).trans H1
  clear c1 f1 H1
  go_wp2_with fail
  go_at_call 22
  refine (hsp u w2 hl (reads3_own ou)).mono ?_
  rintro e w3 ⟨rfl, b3⟩
  have s3 := b3.size
  have L3 : Below w.heap.size w w3 := L2.trans (b3.mono (by omega))
  have H3 : Hid _ := (b3.block w.heap.size (by omega)).trans H2.out
  obtain ⟨c1, f1⟩ := one_cell H3.out
  clear H2 ou
  go_wp2_with fail
  go_at_call 10
  refine (toProc ss v w3 hl' (reads3_below hv L3)).mono ?_
  rintro e w4 ⟨x, rfl, ox, b4⟩
  have s4 := b4.size
  have xlt : ∀ k, x.ownBlock = some k → k < w4.heap.size := fun k hk => (ox.lt k hk).2
  have L4 : Below w.heap.size w w4 := L3.trans (b4.mono (by omega))
  have H4 : Hid _ := (b4.block w.heap.size (by omega)).trans H3.out
  clear c1 f1 H3
  have L5 : Below w.heap.size w (w4.alloc (.cells #[x] 30)) := L4.alloc (by omega) _
  have b5 : Below w4.heap.size w4 (w4.alloc (.cells #[x] 30)) := by go_grown
  have s5 : (w4.alloc (.cells #[x] 30)).heap.size = w4.heap.size + 1 := by simp
  have H5 : Hid _ := (b5.block w.heap.size (by omega)).trans H4.out
  have X5 : Hid _ := heap_alloc_new w4 (.cells #[x] 30)
  have ox := own_kept ox b5
  obtain ⟨xa, xn, xc, rfl⟩ := own_slice ox
  clear H4
  go_wp2_with fail
  go_at_call 23
  refine (him _ _ hl (reads3_own ox)).mono ?_
  rintro e w6 ⟨rfl, b6⟩
  have s6 := b6.size
  have L6 : Below w.heap.size w w6 := L5.trans (b6.mono (by omega))
  have H6 : Hid _ := (b6.block w.heap.size (by omega)).trans H5.out
  have X6 : Hid _ := (b6.block w4.heap.size (by omega)).trans X5.out
  have ox := own_kept ox b6
  clear H5 X5
  obtain ⟨c1, f1⟩ := one_cell H6.out
  obtain ⟨c2, f2⟩ := one_cell X6.out
  have z1 : w.heap.size < w6.heap.size := by omega
  have z2 : w4.heap.size < w6.heap.size := by omega
  have ht : ∀ W, Below w6.heap.size w6 W → _ := fun W hW => toProc ss v W hl' (reads3_below (reads3_below hv L6) hW)
  have rx := reads3_own ox
  go_wp2_with fail
  go_region_with (first
    | (go_at_call 10; refine (ht _ (by go_grown)).mono ?_; rintro e w8 ⟨y, rfl, oy, b8⟩; have M8 : Below w6.heap.size w6 w8 := Below.trans (by go_grown) b8; obtain ⟨hc8, hf8⟩ := bcell M8)
    | (go_at_call 13; refine (eqProc ss _ y _ hl (reads3_below rx (Below.trans M8 (by go_grown))) (reads3_below (reads3_own oy) (by go_grown))).mono ?_; rintro e w9 ⟨rfl, b9'⟩; have b9 : Below w6.heap.size w6 w9 := Below.trans (Below.trans M8 (by go_grown)) (b9'.mono M8.size)))
  all_goals
    go_wp2
    go_ret
    exact ⟨rfl, L6.trans (b9.mono (by omega))⟩

set_option maxRecDepth 100000 in
theorem liftedFnExactGate (os : Os) (started : os.Started) (H : Type) (enc : TypeId × Value → H) :
    ReturnsInHanded {} Try.checked os 5 .any (Rows.fnExactGateSpec.pre6 enc Try.prog Try.f5 Rows.fnExactGateRow.domain false) (Rows.fnExactGateSpec.post enc Try.prog Try.f5 false true false false) := by
  refine returnsInHanded_of_change (C := Try.checked) own started (by kernel_rfl) Try.func5
    (ChangeSpec.witness6 (enc := enc) (C := Try.checked) false ⟨#[], #[.agg #[.slice none 0 0], .int .i64 0], []⟩ 8 (by kernel_rfl) (by kernel_rfl) (by kernel_rfl) (by kernel_rfl)) ?_
  intro W base args ds gs before hval0 hW hcnd _
  have hval : ∀ (j : Nat) t v, Try.f5.params[j]? = some t → args[j]? = some v → Value.okWide Try.prog W .any base t v := hval0
  have hW' := hW
  obtain ⟨p, q, hA0, hV, rfl, hfz, hnd⟩ := hW
  have hA : DataW.TrodAll enc Try.prog W 0 (fun _ => true) true Try.f5.params.toList args.toList ds p := hA0
  rw [Try.params5] at hA hval
  obtain ⟨v0, vs0, d0, ds0, p0, q0, hargs, rfl, rfl, h0, r0⟩ := trodAll_cons hA
  obtain ⟨v1, vs1, d1, ds1, p1, q1, rfl, rfl, rfl, h1, r1⟩ := trodAll_cons r0
  obtain ⟨rfl, rfl, rfl⟩ := trodAll_nil r1
  obtain rfl : args = #[v0, v1] := by cases args; simp_all
  obtain ⟨rfl, rfl⟩ := trodVars_none hV
  obtain ⟨v, ss, rfl, hr, hl⟩ := open_proc (hval 0 24 v0 rfl rfl) h0
  obtain ⟨i, rfl, _⟩ := open_int Try.underlying2 (hval 1 2 v1 rfl rfl) h1
  refine (walkGate ss i v W hl hr).mono fun e W' ⟨he, hb⟩ => ?_
  subst he
  refine ⟨_, rfl, law_post (tb := 4) laidOut ?_ hW' rfl Try.underlying4 rfl rfl hb⟩
  exact all_readable (P := Try.prog) (by kernel_rfl)

theorem overFnExactGate : Rows.fnExactGateRow.holds Try.pinned (OpenSpec.ofChange Rows.fnExactGateSpec) :=
  OpenClaim.holds_of_wide 5 Try.f5 rfl rfl rfl rfl rfl rfl rfl ⟨rfl, rfl, rfl, rfl, rfl⟩ rfl rfl rfl rfl rfl (by kernel_rfl) Try.func5 (by kernel_rfl)
    (of_decide_eq_true (by kernel_rfl)) (by unfold Func.isWrapper; first | (rw [if_pos (by decide +kernel)]; kernel_rfl) | (rw [if_neg (by decide +kernel)]; exact ⟨rfl, rfl⟩))
    (fun os started H enc _ => liftedFnExactGate os started H enc)

/-- ████ THE STATEMENT ████ -/
theorem gateHolds : Rows.FnExactGateSaid :=
  overFnExactGate
#print axioms gateHolds

end Go.Proofs.Ytbpiagfmapbikaa
