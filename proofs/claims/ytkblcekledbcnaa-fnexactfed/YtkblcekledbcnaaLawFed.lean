/-
  The law FnExactFed.
-/
import Derived.Test.YtkblcekledbcnaaFed
import Derived.Test.YtkblcekledbcnaaLift
import Derived.Lib.SmallJoins
namespace Go.Proofs.Ytkblcekledbcnaa
open Go.ChangeShapes Go.WideShapes Go.ChangeAt Go.RowKit Go.Joins
open Go.ChangeMaps (open_string shut_string)
set_option linter.unusedVariables false
set_option maxHeartbeats 4000000

theorem toReader (a : ByteArray) (b : Bool) (w : World) :
    Calls Try.prog 23 #[.agg #[.string a, .bool b]] w fun e w' => e = .returned (.agg #[.string a, .bool b]) ∧ Below w.heap.size w w' := by
  go_enter Try.func23, Try.ntmps23
  go_wp2
  go_returns
  exact ⟨rfl, by go_grown⟩

theorem szReader (a : ByteArray) (ha : a.size ≤ maxLen) (b : Bool) (w : World) :
    Calls Try.prog 22 #[.agg #[.string a, .bool b], .int .i64 1048576] w fun e w' => e = .returned (.int .i64 (if (1048576 : Int) < (a.size : Int) then -1 else 1048576 - (a.size : Int))) ∧ Below w.heap.size w w' := by
  simp only [maxLen] at ha
  by_cases h : (1048576 : Int) < (a.size : Int)
  · rw [if_pos h]
    have hx : (decide (1048576 - (a.size : Int) < 0)) = true := by simp; omega
    go_enter Try.func22, Try.ntmps22
    go_wp2
    go_ret
    exact ⟨rfl, by go_grown⟩
  · rw [if_neg h]
    have hx : (decide (1048576 - (a.size : Int) < 0)) = false := by simp; omega
    go_enter Try.func22, Try.ntmps22
    go_wp2
    go_ret
    exact ⟨rfl, by go_grown⟩

theorem eqReader (a : ByteArray) (b : Bool) (w : World) :
    Calls Try.prog 24 #[.agg #[.string a, .bool b], .agg #[.string a, .bool b]] w fun e w' => e = .returned (.bool true) ∧ Below w.heap.size w w' := by
  go_enter Try.func24, Try.ntmps24
  go_wp2
  go_ret
  exact ⟨rfl, by go_grown⟩

theorem offs_length : ∀ (n : Nat) (s : ByteArray), (offs n s).1.length ≤ n
  | 0, s => by simp [offs]
  | n + 1, s => by
    rw [offs]
    split
    · simp
    · split
      · simp
      · split
        · simp
        · have := offs_length n (s.extract (2 + told s) s.size)
          simp
          omega

theorem fed_length (r : ByteArray) (b : Bool) (c : ByteArray) : (fed r b c).1.length ≤ 1000001 := by
  unfold fed
  split
  · split
    · simp
    · exact offs_length _ _
  · simp

/-- A block behind a call. -/
theorem blk {B : Nat} {w w' : World} (hb : Below B w w') {b : Nat} {o : Obj} (h : w.heap[b]? = some o) (hB : b < B) : w'.heap[b]? = some o := (hb.block b hB).trans h

theorem walkFed (a : ByteArray) (ha : a.size ≤ maxLen) (b : Bool) (c : ByteArray) (w : World) :
    Calls Try.prog 5 #[.agg #[.string a, .bool b], .string c] w fun e w' => e = .returned (.bool true) ∧ Below w.heap.size w w' := by
  have hz := szReader a ha b
  have ht := toReader a b
  have hs := specFed a b c
  have hi := implFed a b c
  have hlen := fed_length a b c
  generalize fed a b c = F at hs hi hlen
  obtain ⟨ts, q, d⟩ := F
  simp only at hs hi hlen
  have he := eqReader q d
  have B0 := heap_alloc_new w (Obj.cells #[Value.string a, Value.bool b] 39)
  have S0 : (w.alloc (Obj.cells #[Value.string a, Value.bool b] 39)).heap.size = w.heap.size + 1 := by simp
  have L0 : Below w.heap.size w (w.alloc (Obj.cells #[Value.string a, Value.bool b] 39)) := by go_grown
  by_cases h0 : (1048576 : Int) < (c.size : Int)
  · clear hz ht hs hi he B0 S0
    go_enter Try.func5, Try.ntmps5
    go_wp2
    go_ret
    exact ⟨rfl, L0⟩
  · by_cases h1 : (1048576 : Int) < (a.size : Int)
    · rw [if_pos h1] at hz
      have HB0 : Hid _ := B0
      clear B0 ht hs hi he
      go_enter Try.func5, Try.ntmps5
      go_wp2_with (go_at_call 22; refine (hz _).mono ?_; rintro e w1 ⟨rfl, b1⟩)
      go_ret
      exact ⟨rfl, L0.trans (b1.mono (by omega))⟩
    · rw [if_neg h1] at hz
      have hx : (decide (1048576 - (a.size : Int) < 0)) = false := by simp; omega
      have HB0 : Hid _ := B0
      clear B0
      go_enter Try.func5, Try.ntmps5
      go_wp2_with fail
      go_at_call 22
      refine (hz _).mono ?_
      rintro e w1 ⟨rfl, b1⟩
      have s1 := b1.size
      rw [S0] at s1
      have B1 : w1.heap[w.heap.size]? = _ := blk b1 HB0.out (by omega)
      obtain ⟨x0, x1, y0, y1⟩ := two_cells B1
      have HB1 : Hid _ := B1
      clear B1
      go_wp2_with fail
      go_at_call 23
      refine (ht _).mono ?_
      rintro e w2 ⟨rfl, b2⟩
      have s2 := b2.size
      go_wp2_with fail
      go_at_call 13
      refine (hs _).mono ?_
      rintro e w3 ⟨v1, rfl, own1, b3⟩
      have s3 := b3.size
      have B3 : w3.heap[w.heap.size]? = _ := blk b3 (blk b2 HB1.out (by omega)) (by omega)
      have z3 : w.heap.size < w3.heap.size := by omega
      obtain ⟨x0, x1, y0, y1⟩ := two_cells B3
      have HB3 : Hid _ := B3
      clear B3
      go_wp2_with fail
      go_at_call 23
      refine (ht _).mono ?_
      rintro e w5 ⟨rfl, b5⟩
      have s5 := b5.size
      rw [show (w3.alloc (Obj.cells #[Value.string q, Value.bool d] 27)).heap.size = w3.heap.size + 1 by simp] at s5
      have HB5 : Hid (w5.heap[w.heap.size]? = _) := blk b5 ((old_block (by omega)).trans HB3.out) (by simp; omega)
      have HA5 : Hid (w5.heap[w3.heap.size]? = _) := blk b5 (heap_alloc_new w3 _) (by simp)
      have own1' : w5.ownsRow w2.heap.size 9 1 v1 ts.length (ts.map .string) := own_kept (own1.alloc _) b5
      have L5 : Below w.heap.size w w5 := L0.trans ((b1.mono (by omega)).trans ((b2.mono (by omega)).trans ((b3.mono (by omega)).trans (Below.trans (Below.alloc (Below.refl _ _) (by omega) _) (b5.mono (by simp; omega))))))
      clear own1 x0 x1 y0 y1
      go_wp2_with fail
      go_at_call 11
      refine (hi _).mono ?_
      rintro e w6 ⟨v2, rfl, own2, b6⟩
      have s6 := b6.size
      have z6 : w3.heap.size < w6.heap.size := by omega
      have HA6 : Hid (w6.heap[w3.heap.size]? = _) := blk b6 HA5.out (by omega)
      obtain ⟨x0, x1, y0, y1⟩ := two_cells HA6.out
      go_wp2_with fail
      go_at_call 24
      refine (he _).mono ?_
      rintro e w8 ⟨rfl, b8⟩
      have s8 := b8.size
      rw [show (w6.alloc (Obj.cells #[Value.string q, Value.bool d] 27)).heap.size = w6.heap.size + 1 by simp] at s8
      have own2' := own_kept (own2.alloc _) b8
      have own1'' : w8.ownsRow w2.heap.size 9 1 v1 ts.length (ts.map .string) := own_kept (World.ownsRow.alloc (own_kept own1' b6) _) b8
      have HB8 : Hid (w8.heap[w.heap.size]? = _) := blk b8 ((old_block (by omega)).trans (blk b6 HB5.out (by omega))) (by simp; omega)
      have HA8 : Hid (w8.heap[w3.heap.size]? = _) := blk b8 ((old_block (by omega)).trans HA6.out) (by simp; omega)
      have L8 : Below w.heap.size w w8 := L5.trans ((b6.mono (by omega)).trans (Below.trans (Below.alloc (Below.refl _ _) (by omega) _) (b8.mono (by simp; omega))))
      clear x0 x1 y0 y1
      go_wp2_with fail
      go_at_call 25
      refine (eqStringS ts _ _ _ (by unfold maxLen; omega) (reads_own own2') (reads_own own1'')).mono ?_
      rintro e w9 ⟨rfl, b9⟩
      have s9 := b9.size
      have hmark := markStringS (ts.map .string) v2 w5.heap.size 1 w9 (by simp; omega) (by omega) (by omega) (by omega) (by simpa using own_kept own2' b9)
      simp only [List.length_map] at hmark
      go_wp2_with fail
      go_at_call 26
      refine hmark.mono ?_
      rintro e w10 ⟨rfl, own10, b10⟩
      have s10 := b10.size
      clear hmark
      have own1_10 : w10.ownsRow w2.heap.size 9 1 v1 ts.length (ts.map .string) := own_below (own_kept own1'' b9) b10 (fun k hk => (own1'.lt k hk).2)
      have HB10 : Hid (w10.heap[w.heap.size]? = _) := blk b10 (blk b9 HB8.out (by omega)) (by omega)
      have HA10 : Hid (w10.heap[w3.heap.size]? = _) := blk b10 (blk b9 HA8.out (by omega)) (by omega)
      have L10 : Below w.heap.size w w10 := L8.trans ((b9.mono (by omega)).trans (b10.mono (by omega)))
      go_wp2_with fail
      go_at_call 27
      refine (heldStringS ts.length v2 1 w10 (by omega) (by omega) (by omega) (reads_own own10)).mono ?_
      rintro e w11 ⟨rfl, b11⟩
      have s11 := b11.size
      have HB11 : Hid (w11.heap[w.heap.size]? = _) := blk b11 HB10.out (by omega)
      have HA11 : Hid (w11.heap[w3.heap.size]? = _) := blk b11 HA10.out (by omega)
      have own1_11 := own_kept own1_10 b11
      have own2_11 := own_kept own10 b11
      have L11 : Below w.heap.size w w11 := L10.trans (b11.mono (by omega))
      obtain ⟨x0, x1, y0, y1⟩ := two_cells HB11.out
      have hq0 : (decide ((1 : Int) + (ts.length : Int) < 0)) = false := by simp; omega
      go_wp2_with fail
      go_at_call 23
      refine (ht _).mono ?_
      rintro e w12 ⟨rfl, b12⟩
      have s12 := b12.size
      have HA12 : Hid (w12.heap[w3.heap.size]? = _) := blk b12 HA11.out (by omega)
      have own1_12 := own_kept own1_11 b12
      have own2_12 := own_kept own2_11 b12
      have L12 : Below w.heap.size w w12 := L11.trans (b12.mono (by omega))
      clear x0 x1 y0 y1
      go_wp2_with fail
      go_at_call 11
      refine (hi _).mono ?_
      rintro e w13 ⟨v3, rfl, own3, b13⟩
      have s13 := b13.size
      have z13 : w3.heap.size < w13.heap.size := by omega
      have HA13 : Hid (w13.heap[w3.heap.size]? = _) := blk b13 HA12.out (by omega)
      obtain ⟨x0, x1, y0, y1⟩ := two_cells HA13.out
      have own1_13 := own_kept own1_12 b13
      have own2_13 := own_kept own2_12 b13
      have L13 : Below w.heap.size w w13 := L12.trans (b13.mono (by omega))
      go_wp2_with fail
      go_at_call 24
      refine (he _).mono ?_
      rintro e w15 ⟨rfl, b15⟩
      have s15 := b15.size
      rw [show (w13.alloc (Obj.cells #[Value.string q, Value.bool d] 27)).heap.size = w13.heap.size + 1 by simp] at s15
      have own1_15 := own_kept (own1_13.alloc _) b15
      have own2_15 := own_kept (own2_13.alloc _) b15
      have own3_15 := own_kept (own3.alloc _) b15
      have L15 : Below w.heap.size w w15 := L13.trans (Below.trans (Below.alloc (Below.refl _ _) (by omega) _) (b15.mono (by simp; omega)))
      clear x0 x1 y0 y1
      go_wp2_with fail
      go_at_call 25
      refine (eqStringS ts _ _ _ (by unfold maxLen; omega) (reads_own own3_15) (reads_own own1_15)).mono ?_
      rintro e w16 ⟨rfl, b16⟩
      have s16 := b16.size
      have own2_16 := own_kept own2_15 b16
      have L16 : Below w.heap.size w w16 := L15.trans (b16.mono (by omega))
      go_wp2_with fail
      go_at_call 27
      refine (heldStringS ts.length v2 1 w16 (by omega) (by omega) (by omega) (reads_own own2_16)).mono ?_
      rintro e w17 ⟨rfl, b17⟩
      go_wp2
      go_ret
      exact ⟨rfl, L16.trans (b17.mono (by omega))⟩

theorem own : ownKnob Try.prog.godebug = none := by kernel_rfl
theorem laidOut : laidOutB Try.prog = true := by kernel_rfl
theorem cellsReader : Try.prog.cellsOf 39 = 2 := by kernel_rfl

set_option maxRecDepth 100000 in
theorem liftedFed (os : Os) (started : os.Started) (H : Type) (enc : TypeId × Value → H) :
    ReturnsInHanded {} Try.checked os 5 .any (Rows.fnExactFedSpec.pre6 enc Try.prog Try.f5 Rows.fnExactFedRow.domain false) (Rows.fnExactFedSpec.post enc Try.prog Try.f5 false true false false) := by
  refine returnsInHanded_of_change (C := Try.checked) own started (by kernel_rfl) Try.func5
    (ChangeSpec.witness6 (enc := enc) (C := Try.checked) false ⟨#[], #[.agg #[.string ByteArray.empty, .bool false], .string ByteArray.empty], []⟩ 8 (by kernel_rfl) (by kernel_rfl) (by kernel_rfl) (by kernel_rfl)) ?_
  intro W base args ds gs before hval0 hW hcnd _
  have hval : ∀ (j : Nat) t v, Try.f5.params[j]? = some t → args[j]? = some v → Value.okWide Try.prog W .any base t v := hval0
  have hW' := hW
  obtain ⟨p, q, hA0, hV, rfl, hfz, hnd⟩ := hW
  have hA : DataW.TrodAll enc Try.prog W 0 (fun _ => true) true Try.f5.params.toList args.toList ds p := hA0
  rw [Try.params5] at hA hval
  obtain ⟨v0, vs0, d0, ds0, p0, q0, hargs, rfl, rfl, h0, r0⟩ := trodAll_cons hA
  obtain ⟨v1, vs1, d1, ds1, p1, q1, rfl, rfl, rfl, h1, r1⟩ := trodAll_cons r0
  obtain ⟨rfl, rfl, rfl⟩ := trodAll_nil r1
  obtain rfl : args = #[v0, v1] := by cases args; simp_all
  obtain ⟨rfl, rfl⟩ := trodVars_none hV
  obtain ⟨c0, c1, y0, y1, m, rfl, rfl, rfl, hy0, hy1⟩ := open_agg2 Try.underlying39 (by kernel_rfl) cellsReader (hval 0 39 v0 rfl rfl) h0
  obtain ⟨a, e0, rfl, wa⟩ := DataW.trod_string Try.underlying9 hy0
  obtain ⟨b, e1, rfl⟩ := DataW.trod_bool Try.underlying4 hy1
  obtain ⟨c, rfl, rfl, rfl, wc⟩ := open_string Try.underlying9 (hval 1 9 v1 rfl rfl) h1
  simp at e0 e1
  subst e0 e1
  refine (walkFed a wa b c W).mono fun e W' ⟨he, hb⟩ => ?_
  subst he
  refine ⟨_, rfl, law_post (tb := 4) laidOut ?_ hW' rfl Try.underlying4 rfl rfl hb⟩
  exact all_readable (P := Try.prog) (by kernel_rfl)

theorem overFed : Rows.fnExactFedRow.holds Try.pinned (OpenSpec.ofChange Rows.fnExactFedSpec) :=
  OpenClaim.holds_of_wide 5 Try.f5 rfl rfl rfl rfl rfl rfl rfl ⟨rfl, rfl, rfl, rfl, rfl⟩ rfl rfl rfl rfl rfl (by kernel_rfl) Try.func5 (by kernel_rfl)
    (of_decide_eq_true (by kernel_rfl)) (by unfold Func.isWrapper; first | (rw [if_pos (by decide +kernel)]; kernel_rfl) | (rw [if_neg (by decide +kernel)]; exact ⟨rfl, rfl⟩))
    (fun os started H enc _ => liftedFed os started H enc)

/-- ████ THE STATEMENT ████ -/
theorem fedHolds : Rows.FnExactFedSaid :=
  overFed
#print axioms fedHolds

end Go.Proofs.Ytkblcekledbcnaa
