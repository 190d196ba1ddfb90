/-
  The law FnExactFrame: spec.Frame and impl.Frame answer one text, the empty one where it is too long, else two bytes and the text; the law returns true.
  Shell by proof-skeleton.mjs; the walks by the verifier.
-/
import Derived.Test.YtcggbiohepcloaaRows
import Derived.WalkKit
import Derived.ProofKit
import Derived.OpenShut
import Derived.ShutString
import Derived.Laws.BytesArg
namespace Go.Proofs.Ytcggbiohepcloaa.fnExactFrame
open Go.ChangeShapes Go.WideShapes Go.ChangeAt Go.RowKit
open Go.ChangeMaps (open_string shut_string)
set_option linter.unusedVariables false      -- a walk need not use every 'w<i>' (that an integer argument fits its kind)

theorem own : ownKnob Try.prog.godebug = none := by kernel_rfl

set_option maxHeartbeats 4000000

theorem grown_trans {a b c : World} (h : Grown a b) (k : Grown b c) : Grown a c :=
  ⟨World.keptBut_trans h.1 k.1, fun x => (k.2.1 x).trans (h.2.1 x), Nat.le_trans h.2.2 k.2.2⟩

theorem twoBytes (T : TypeId) (x y : Int) (w : World) :
    (convert 31 9 (Value.slice (some { block := w.heap.size, off := 0 }) 2 2)).run Try.prog (w.alloc (Obj.cells #[Value.int IntKind.u8 x, Value.int IntKind.u8 y] T))
      = .ok (.string (strOfNums [x, y])) (w.alloc (Obj.cells #[Value.int IntKind.u8 x, Value.int IntKind.u8 y] T)) := by
  refine run_convert_bytes_arg _ 31 5 Try.underlying31 Try.underlying5 w.heap.size 0 2 2 [x, y] rfl ?_ 9 Try.underlying9
  intro i hi
  have : i = 0 ∨ i = 1 := by omega
  rcases this with rfl | rfl <;> simp


/-- The two bytes ahead, and the text. -/
def framed (a : ByteArray) : ByteArray := strOfNums [(a.size : Int) / 256, (a.size : Int) % 256] ++ a

theorem specSmall (a0 : ByteArray) (h2 : ¬ (2000 : Int) < (a0.size : Int)) (w : World) :
    Calls Try.prog 5 #[.string a0] w fun e w' => e = .returned (.string (framed a0)) ∧ Grown w w' := by
  have kc := twoBytes
  have ks : ¬ 9223372036854775807 < (strOfNums [(a0.size : Int) / 256, (a0.size : Int) % 256]).size + a0.size := by simp only [strOfNums_size, List.length_cons, List.length_nil]; omega
  have ks' : (strOfNums [(a0.size : Int) / 256, (a0.size : Int) % 256]).size + a0.size ≤ 9223372036854775807 := by omega
  go_enter Try.func5, Try.ntmps5
  go_wp2
  go_ret
  exact ⟨rfl, by repeat (first | exact Grown.refl _ | apply Grown.drew | apply Grown.alloc)⟩
theorem implSmall (a0 : ByteArray) (h2 : ¬ (2000 : Int) < (a0.size : Int)) (w : World) :
    Calls Try.prog 6 #[.string a0] w fun e w' => e = .returned (.string (framed a0)) ∧ Grown w w' := by
  have kc := twoBytes
  have ks : ¬ 9223372036854775807 < (strOfNums [(a0.size : Int) / 256, (a0.size : Int) % 256]).size + a0.size := by simp only [strOfNums_size, List.length_cons, List.length_nil]; omega
  have ks' : (strOfNums [(a0.size : Int) / 256, (a0.size : Int) % 256]).size + a0.size ≤ 9223372036854775807 := by omega
  go_enter Try.func6, Try.ntmps6
  go_wp2
  go_ret
  exact ⟨rfl, by repeat (first | exact Grown.refl _ | apply Grown.drew | apply Grown.alloc)⟩

theorem specBig (a0 : ByteArray) (h2 : (2000 : Int) < (a0.size : Int)) (w : World) :
    Calls Try.prog 5 #[.string a0] w fun e w' => e = .returned (.string ByteArray.empty) ∧ Grown w w' := by
  go_enter Try.func5, Try.ntmps5
  go_wp2
  go_ret
  exact ⟨rfl, by repeat (first | exact Grown.refl _ | apply Grown.drew | apply Grown.alloc)⟩
theorem implBig (a0 : ByteArray) (h2 : (2000 : Int) < (a0.size : Int)) (w : World) :
    Calls Try.prog 6 #[.string a0] w fun e w' => e = .returned (.string ByteArray.empty) ∧ Grown w w' := by
  go_enter Try.func6, Try.ntmps6
  go_wp2
  go_ret
  exact ⟨rfl, by repeat (first | exact Grown.refl _ | apply Grown.drew | apply Grown.alloc)⟩

/-- What both answer. -/
def answer (a : ByteArray) : ByteArray := if (2000 : Int) < (a.size : Int) then ByteArray.empty else framed a

theorem spec (a0 : ByteArray) (w : World) :
    Calls Try.prog 5 #[.string a0] w fun e w' => e = .returned (.string (answer a0)) ∧ Grown w w' := by
  by_cases h2 : (2000 : Int) < (a0.size : Int)
  · rw [answer, if_pos h2]; exact specBig a0 h2 w
  · rw [answer, if_neg h2]; exact specSmall a0 h2 w
theorem impl (a0 : ByteArray) (w : World) :
    Calls Try.prog 6 #[.string a0] w fun e w' => e = .returned (.string (answer a0)) ∧ Grown w w' := by
  by_cases h2 : (2000 : Int) < (a0.size : Int)
  · rw [answer, if_pos h2]; exact implBig a0 h2 w
  · rw [answer, if_neg h2]; exact implSmall a0 h2 w

theorem walk (a0 : ByteArray) (w0 : a0.size ≤ maxLen) (w : World) :
    Calls Try.prog 3 #[.string a0] w fun e w' => e = .returned (.bool true) ∧ Grown w w' := by
  have hs := spec a0
  have hi := impl a0
  revert hs hi
  generalize answer a0 = b
  intro hs hi
  by_cases h1 : (1048576 : Int) < (a0.size : Int)
  · go_enter Try.func3, Try.ntmps3
    go_wp2
    go_ret
    exact ⟨rfl, Grown.refl _⟩
  · go_enter Try.func3, Try.ntmps3
    go_wp2_with (first
      | (go_at_call 5; refine (hs _).mono ?_; rintro e w1 ⟨rfl, g1⟩)
      | (go_at_call 6; refine (hi _).mono ?_; rintro e w2 ⟨rfl, g2⟩))
    go_ret
    exact ⟨rfl, grown_trans g1 g2⟩

/-! ### THE ROW's STEP: WRITTEN OUT: LEAVE IT -/
set_option maxRecDepth 100000 in
theorem lifted (os : Os) (started : os.Started) (H : Type) (enc : TypeId × Value → H) :
    ReturnsInHanded {} Try.checked os 3 .any (Rows.fnExactFrameSpec.pre6 enc Try.prog Try.f3 Rows.fnExactFrameRow.domain false) (Rows.fnExactFrameSpec.post enc Try.prog Try.f3 false true false false) := by
  refine returnsInHanded_of_change (C := Try.checked) own started (by kernel_rfl) Try.func3
    (ChangeSpec.witness6 (enc := enc) (C := Try.checked) false ⟨#[], #[.string ByteArray.empty], []⟩ 8 (by kernel_rfl) (by kernel_rfl) (by kernel_rfl) (by kernel_rfl)) ?_
  intro W base args ds gs before hval0 hW hcnd _
  have hval : ∀ (j : Nat) t v, Try.f3.params[j]? = some t → args[j]? = some v → Value.okWide Try.prog W .any base t v := hval0
  have hW' := hW
  obtain ⟨p, q, hA0, hV, rfl, hfz, hnd⟩ := hW
  have hA : DataW.TrodAll enc Try.prog W 0 (fun _ => true) true Try.f3.params.toList args.toList ds p := hA0
  rw [Try.params3] at hA hval
  obtain ⟨v0, vs0, d0, ds0, p0, q0, hargs, rfl, rfl, h0, r0⟩ := trodAll_cons hA
  obtain ⟨rfl, rfl, rfl⟩ := trodAll_nil r0
  obtain rfl : args = #[v0] := by cases args; simp_all
  obtain ⟨rfl, rfl⟩ := trodVars_none hV
  obtain ⟨a0, rfl, rfl, rfl, w0⟩ := open_string Try.underlying9 (hval 0 9 v0 rfl rfl) h0
  clear hA0 hval0
  simp only [List.append_nil] at hW'
  refine (walk a0 w0 W).mono fun e W' ⟨he, hg⟩ => ?_
  subst he
  exact ⟨_, rfl, post_of_same (pa := []) (pv := []) hW' (fun _ _ _ => (trodAll_cons_mk (shut_bool Try.underlying4 _) trodAll_mk0)) (fun sp _ => (trodAll_cons_mk (shut_string Try.underlying9 w0) trodAll_mk0)) (fun _ _ => rfl) rfl
    (hg.frame _) hg.2.1 (ok_one (by kernel_rfl) rfl (okWide_bool_mk Try.underlying4 _))⟩

theorem over : Rows.fnExactFrameRow.holds Try.pinned (OpenSpec.ofChange Rows.fnExactFrameSpec) :=
  OpenClaim.holds_of_wide 3 Try.f3 rfl rfl rfl rfl rfl rfl rfl ⟨rfl, rfl, rfl, rfl, rfl⟩ rfl rfl rfl rfl rfl (by kernel_rfl) Try.func3 (by kernel_rfl)
    (of_decide_eq_true (by kernel_rfl)) (by unfold Func.isWrapper; first | (rw [if_pos (by decide +kernel)]; kernel_rfl) | (rw [if_neg (by decide +kernel)]; exact ⟨rfl, rfl⟩))
    (fun os started H enc _ => lifted os started H enc)

/-- ████ THE STATEMENT ████ -/
theorem proved : Rows.FnExactFrameSaid :=
  over
#print axioms proved
end Go.Proofs.Ytcggbiohepcloaa.fnExactFrame
