/-
  The law FnExactReaderOk: spec.ReaderOk and impl.ReaderOk answer one bool; the law returns true.
-/
import Derived.Test.YtcggbiohepcloaaRows
import Derived.WalkKit
import Derived.ProofKit
import Derived.OpenShut
import Derived.ShutString
import Derived.Lib.SmallJoins
import Derived.Handy
namespace Go.Proofs.Ytcggbiohepcloaa.fnExactReaderOk
open Go.ChangeShapes Go.WideShapes Go.ChangeAt Go.RowKit Go.Joins
open Go.ChangeMaps (open_string shut_string)
set_option linter.unusedVariables false
set_option maxHeartbeats 4000000

theorem own : ownKnob Try.prog.godebug = none := by kernel_rfl
theorem cells25 : Try.prog.cellsOf 25 = 2 := by kernel_rfl

theorem grown_trans {a b c : World} (h : Grown a b) (k : Grown b c) : Grown a c :=
  ⟨World.keptBut_trans h.1 k.1, fun x => (k.2.1 x).trans (h.2.1 x), Nat.le_trans h.2.2 k.2.2⟩

/-- What both answer. -/
def answer (a : ByteArray) (b : Bool) : Bool := decide ((a.size : Int) ≤ 2001) && (!b || a.toList.isEmpty)

theorem toReader (a : ByteArray) (b : Bool) (w : World) :
    Calls Try.prog 9 #[.agg #[.string a, .bool b]] w fun e w' => e = .returned (.agg #[.string a, .bool b]) ∧ Grown w w' := by
  go_enter Try.func9, Try.ntmps9
  go_wp2
  go_returns
  exact ⟨rfl, by repeat (first | exact Grown.refl _ | apply Grown.drew | apply Grown.alloc)⟩

theorem szReader (a : ByteArray) (ha : a.size ≤ maxLen) (b : Bool) (w : World) :
    Calls Try.prog 7 #[.agg #[.string a, .bool b], .int .i64 1048576] w fun e w' => e = .returned (.int .i64 (if (1048576 : Int) < (a.size : Int) then -1 else 1048576 - (a.size : Int))) ∧ Grown w w' := by
  simp only [maxLen] at ha
  by_cases h : (1048576 : Int) < (a.size : Int)
  · rw [if_pos h]
    have hx : (decide (1048576 - (a.size : Int) < 0)) = true := by simp; omega
    go_enter Try.func7, Try.ntmps7
    go_wp2
    go_ret
    exact ⟨rfl, by go_grown⟩
  · rw [if_neg h]
    have hx : (decide (1048576 - (a.size : Int) < 0)) = false := by simp; omega
    go_enter Try.func7, Try.ntmps7
    go_wp2
    go_ret
    exact ⟨rfl, by go_grown⟩

theorem spec (a : ByteArray) (b : Bool) (w : World) :
    Calls Try.prog 8 #[.agg #[.string a, .bool b]] w fun e w' => e = .returned (.bool (answer a b)) ∧ Grown w w' := by
  by_cases h1 : (a.size : Int) ≤ 2001
  · rw [answer, decide_eq_true h1]
    cases b
    · go_enter Try.func8, Try.ntmps8
      go_wp2
      go_ret
      exact ⟨rfl, by repeat (first | exact Grown.refl _ | apply Grown.drew | apply Grown.alloc)⟩
    · go_enter Try.func8, Try.ntmps8
      go_wp2
      go_ret
      exact ⟨by simp, by repeat (first | exact Grown.refl _ | apply Grown.drew | apply Grown.alloc)⟩
  · rw [answer, decide_eq_false h1]
    go_enter Try.func8, Try.ntmps8
    go_wp2
    go_ret
    exact ⟨rfl, by repeat (first | exact Grown.refl _ | apply Grown.drew | apply Grown.alloc)⟩

theorem impl (a : ByteArray) (b : Bool) (w : World) :
    Calls Try.prog 10 #[.agg #[.string a, .bool b]] w fun e w' => e = .returned (.bool (answer a b)) ∧ Grown w w' := by
  by_cases h1 : (a.size : Int) ≤ 2001
  · rw [answer, decide_eq_true h1]
    cases b
    · go_enter Try.func10, Try.ntmps10
      go_wp2
      go_ret
      exact ⟨rfl, by repeat (first | exact Grown.refl _ | apply Grown.drew | apply Grown.alloc)⟩
    · go_enter Try.func10, Try.ntmps10
      go_wp2
      go_ret
      exact ⟨by simp, by repeat (first | exact Grown.refl _ | apply Grown.drew | apply Grown.alloc)⟩
  · rw [answer, decide_eq_false h1]
    go_enter Try.func10, Try.ntmps10
    go_wp2
    go_ret
    exact ⟨rfl, by repeat (first | exact Grown.refl _ | apply Grown.drew | apply Grown.alloc)⟩

/-- A cell of what was there stays. -/
theorem grown_cell {w w' : World} (h : Grown w w') {a : Addr} {v : Value} (hv : w.cell? a = some v) : w'.cell? a = some v := by
  have hb := World.block_lt_of_cell? w a hv
  have := (World.keptBut_none_iff.1 h.1).2.2 a.block hb
  rw [← hv]
  exact World.cell?_of_block this

theorem walk (a : ByteArray) (ha : a.size ≤ maxLen) (b : Bool) (w : World) :
    Calls Try.prog 4 #[.agg #[.string a, .bool b]] w fun e w' => e = .returned (.bool true) ∧ Grown w w' := by
  have hz := szReader a ha b
  have ht := toReader a b
  have hs := spec a b
  have hi := impl a b
  revert hs hi
  generalize answer a b = r
  intro hs hi
  have g0 : Grown w (w.alloc (Obj.cells #[Value.string a, Value.bool b] 25)) := by go_grown
  have c0 : (w.alloc (Obj.cells #[Value.string a, Value.bool b] 25)).cell? ⟨w.heap.size, 0, none⟩ = some (.string a) := by simp
  have c1 : (w.alloc (Obj.cells #[Value.string a, Value.bool b] 25)).cell? ⟨w.heap.size, 1, none⟩ = some (.bool b) := by simp
  by_cases h1 : (1048576 : Int) < (a.size : Int)
  · rw [if_pos h1] at hz
    go_enter Try.func4, Try.ntmps4
    go_wp2_with (first
      | (go_at_call 7; refine (hz _).mono ?_; rintro e w1 ⟨rfl, g1⟩))
    go_ret
    exact ⟨rfl, grown_trans g0 g1⟩
  · rw [if_neg h1] at hz
    have hx : (decide (1048576 - (a.size : Int) < 0)) = false := by simp; omega
    go_enter Try.func4, Try.ntmps4
    go_wp2_with (first
      | (go_at_call 7; refine (hz _).mono ?_; rintro e w1 ⟨rfl, g1⟩; have d0 := grown_cell g1 c0; have d1 := grown_cell g1 c1)
      | (go_at_call 9; refine (ht _).mono ?_; rintro e w2 ⟨rfl, g2⟩; have d0' := grown_cell g2 d0; have d1' := grown_cell g2 d1; clear d0 d1; have d0 := d0'; have d1 := d1')
      | (go_at_call 8; refine (hs _).mono ?_; rintro e w3 ⟨rfl, g3⟩; have d0' := grown_cell g3 d0; have d1' := grown_cell g3 d1; clear d0 d1; have d0 := d0'; have d1 := d1')
      | (go_at_call 10; refine (hi _).mono ?_; rintro e w3 ⟨rfl, g4⟩))
    go_ret
    exact ⟨rfl, grown_trans g0 (grown_trans g1 (grown_trans ‹Grown w1 _› (grown_trans g3 (grown_trans g2 g4))))⟩

set_option maxRecDepth 100000 in
theorem lifted (os : Os) (started : os.Started) (H : Type) (enc : TypeId × Value → H) :
    ReturnsInHanded {} Try.checked os 4 .any (Rows.fnExactReaderOkSpec.pre6 enc Try.prog Try.f4 Rows.fnExactReaderOkRow.domain false) (Rows.fnExactReaderOkSpec.post enc Try.prog Try.f4 false true false false) := by
  refine returnsInHanded_of_change (C := Try.checked) own started (by kernel_rfl) Try.func4
    (ChangeSpec.witness6 (enc := enc) (C := Try.checked) false ⟨#[], #[.agg #[.string ByteArray.empty, .bool false]], []⟩ 8 (by kernel_rfl) (by kernel_rfl) (by kernel_rfl) (by kernel_rfl)) ?_
  intro W base args ds gs before hval0 hW hcnd _
  have hval : ∀ (j : Nat) t v, Try.f4.params[j]? = some t → args[j]? = some v → Value.okWide Try.prog W .any base t v := hval0
  have hW' := hW
  obtain ⟨p, q, hA0, hV, rfl, hfz, hnd⟩ := hW
  have hA : DataW.TrodAll enc Try.prog W 0 (fun _ => true) true Try.f4.params.toList args.toList ds p := hA0
  rw [Try.params4] at hA hval
  obtain ⟨v0, vs0, d0, ds0, p0, q0, hargs, rfl, rfl, h0, r0⟩ := trodAll_cons hA
  obtain ⟨rfl, rfl, rfl⟩ := trodAll_nil r0
  obtain rfl : args = #[v0] := by cases args; simp_all
  obtain ⟨rfl, rfl⟩ := trodVars_none hV
  obtain ⟨c0, c1, y0, y1, m, rfl, rfl, rfl, hy0, hy1⟩ := open_agg2 Try.underlying25 (by kernel_rfl) cells25 (hval 0 25 v0 rfl rfl) h0
  obtain ⟨a, e0, rfl, wa⟩ := DataW.trod_string Try.underlying9 hy0
  obtain ⟨b, e1, rfl⟩ := DataW.trod_bool Try.underlying4 hy1
  simp at e0 e1
  subst e0 e1
  clear hA0 hval0
  simp only [List.append_nil] at hW'
  have structReads : ∀ (W' : World) (sp : Nat → Bool), DataW.Trod enc Try.prog W' 0 sp true 25 (.agg #[.string a, .bool b]) (.agg [.lit (.string a.data.toList), .lit (.bool b)]) [] := fun W' sp =>
    shut_agg2 (y0 := (.lit (.string a.data.toList), [])) (y1 := (.lit (.bool b), [])) Try.underlying25 (by kernel_rfl) cells25 ⟨1, by simp [DataW.trod, Try.underlying9, wa]⟩ ⟨1, by simp [DataW.trod, Try.underlying4]⟩
  refine (walk a wa b W).mono fun e W' ⟨he, hg⟩ => ?_
  subst he
  exact ⟨_, rfl, post_of_same (pa := []) (pv := []) hW' (fun _ _ _ => (trodAll_cons_mk (shut_bool Try.underlying4 _) trodAll_mk0)) (fun sp _ => (trodAll_cons_mk (structReads _ sp) trodAll_mk0)) (fun _ _ => rfl) rfl
    (hg.frame _) hg.2.1 (ok_one (by kernel_rfl) rfl (okWide_bool_mk Try.underlying4 _))⟩

theorem over : Rows.fnExactReaderOkRow.holds Try.pinned (OpenSpec.ofChange Rows.fnExactReaderOkSpec) :=
  OpenClaim.holds_of_wide 4 Try.f4 rfl rfl rfl rfl rfl rfl rfl ⟨rfl, rfl, rfl, rfl, rfl⟩ rfl rfl rfl rfl rfl (by kernel_rfl) Try.func4 (by kernel_rfl)
    (of_decide_eq_true (by kernel_rfl)) (by unfold Func.isWrapper; first | (rw [if_pos (by decide +kernel)]; kernel_rfl) | (rw [if_neg (by decide +kernel)]; exact ⟨rfl, rfl⟩))
    (fun os started H enc _ => lifted os started H enc)

/-- ████ THE STATEMENT ████ -/
theorem proved : Rows.FnExactReaderOkSaid :=
  over
#print axioms proved
end Go.Proofs.Ytcggbiohepcloaa.fnExactReaderOk
