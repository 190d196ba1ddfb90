/-
  The law FnExactFedAll.
-/
import Derived.Test.YtkblcekledbcnaaFedAll
import Derived.Test.YtkblcekledbcnaaReaderHelp
import Derived.Test.YtkblcekledbcnaaLift
import Derived.SliceStrings
namespace Go.Proofs.Ytkblcekledbcnaa
open Go.ChangeShapes Go.WideShapes Go.ChangeAt Go.RowKit
set_option linter.unusedVariables false
set_option maxHeartbeats 4000000

theorem walkFedAll (cs : List ByteArray) (v : Value) (w : World) (hl : cs.length ≤ maxLen) (hs : ∀ t ∈ cs, t.size ≤ maxLen) (hv : Reads w v (cs.map .string)) :
    Calls Try.prog 6 #[v] w fun e w' => e = .returned (.bool true) ∧ Below w.heap.size w w' := by
  have hsz := szStringS cs v w hl hs hv
  go_enter Try.func6, Try.ntmps6
  go_wp2_with fail
  go_at_call 28
  refine hsz.mono ?_
  rintro e w1 ⟨r, rfl, hr, b1⟩
  clear hsz
  by_cases h0 : r < 0
  · have hx : (decide (r < 0)) = true := by simpa using h0
    go_wp2
    go_ret
    exact ⟨rfl, b1⟩
  have hx : (decide (r < 0)) = false := by simpa using h0
  have hlen : cs.length ≤ 1048576 := by have := hr (by omega); omega
  clear hr hl hs
  have hlk := fedAll_length cs
  have hsp := specFedAll cs
  have him := implFedAll cs
  have hmul : cs.length * 1000001 ≤ 1048576 * 1000001 := Nat.mul_le_mul_right _ hlen
  generalize fedAll cs = A at hlk hsp him
  obtain ⟨ts, q, d⟩ := A
  simp only at hlk hsp him
  have hts : ts.length ≤ 1099511627776 := by omega
  clear hlk hmul
  have he := eqReader q d
  have s1 := b1.size
  go_wp2_with fail
  go_at_call 29
  refine (toStringS cs _ w1 hlen (reads_below hv b1)).mono ?_
  rintro e w2 ⟨u1, rfl, ownu1, b2⟩
  have s2 := b2.size
  have L2 : Below w.heap.size w w2 := b1.trans (b2.mono s1)
  go_wp2_with fail
  go_at_call 20
  refine (hsp _ w2 hlen (reads_own ownu1)).mono ?_
  rintro e w3 ⟨v1, rfl, own1, b3⟩
  have s3 := b3.size
  have L3 : Below w.heap.size w w3 := L2.trans (b3.mono (by omega))
  have L4 : Below w.heap.size w (w3.alloc (.cells #[.string q, .bool d] 27)) := L3.alloc (by omega) _
  have o1 := own1.alloc (.cells #[.string q, .bool d] 27)
  have s4 : (w3.alloc (.cells #[.string q, .bool d] 27)).heap.size = w3.heap.size + 1 := by simp
  clear ownu1
  go_wp2_with fail
  go_at_call 29
  refine (toStringS cs _ _ hlen (reads_below hv L4)).mono ?_
  rintro e w5 ⟨ux, rfl, ox, b5⟩
  have s5 := b5.size
  rw [s4] at s5 ox
  have L5 : Below w.heap.size w w5 := L4.trans (b5.mono (by omega))
  have HA5 : Hid (w5.heap[w3.heap.size]? = _) := (b5.block _ (by omega)).trans (heap_alloc_new w3 _)
  have o1 := own_kept o1 b5
  go_wp2_with fail
  go_at_call 19
  refine (him _ w5 hlen (reads_own ox)).mono ?_
  rintro e w6 ⟨v2, rfl, o2, b6⟩
  have s6 := b6.size
  have z6 : w3.heap.size < w6.heap.size := by omega
  have L6 : Below w.heap.size w w6 := L5.trans (b6.mono (by omega))
  have HA6 : Hid (w6.heap[w3.heap.size]? = _) := (b6.block _ (by omega)).trans HA5.out
  have o1 := own_kept o1 b6
  have ox' := own_kept ox b6
  obtain ⟨x0, x1, y0, y1⟩ := two_cells HA6.out
  have s7 : (w6.alloc (.cells #[.string q, .bool d] 27)).heap.size = w6.heap.size + 1 := by simp
  go_wp2_with fail
  go_at_call 24
  refine (he _).mono ?_
  rintro e w8 ⟨rfl, b8⟩
  have s8 := b8.size
  rw [s7] at s8
  have L8 : Below w.heap.size w w8 := (L6.alloc (by omega) _).trans (b8.mono (by omega))
  have HA8 : Hid (w8.heap[w3.heap.size]? = _) := (b8.block _ (by omega)).trans ((old_block (by omega)).trans HA6.out)
  have HG8 : Hid (w8.heap[w6.heap.size]? = _) := (b8.block _ (by omega)).trans (heap_alloc_new w6 _)
  have o1 := own_kept (o1.alloc _) b8
  have o2' := own_kept (o2.alloc _) b8
  have ox' := own_kept (ox'.alloc _) b8
  clear x0 x1 y0 y1
  go_wp2_with fail
  go_at_call 25
  refine (eqStringS ts _ _ _ (by unfold maxLen; omega) (reads_own o2') (reads_own o1)).mono ?_
  rintro e w9 ⟨rfl, b9⟩
  have s9 := b9.size
  have L9 : Below w.heap.size w w9 := L8.trans (b9.mono (by omega))
  have HA9 : Hid (w9.heap[w3.heap.size]? = _) := (b9.block _ (by omega)).trans HA8.out
  have HG9 : Hid (w9.heap[w6.heap.size]? = _) := (b9.block _ (by omega)).trans HG8.out
  have o1 := own_kept o1 b9
  have o2' := own_kept o2' b9
  have ox' := own_kept ox' b9
  go_wp2_with fail
  go_at_call 29
  refine (toStringS cs _ _ hlen (reads_below hv L9)).mono ?_
  rintro e w10 ⟨uy, rfl, oy, b10⟩
  have s10 := b10.size
  have L10 : Below w.heap.size w w10 := L9.trans (b10.mono (by omega))
  have HA10 : Hid (w10.heap[w3.heap.size]? = _) := (b10.block _ (by omega)).trans HA9.out
  have HG10 : Hid (w10.heap[w6.heap.size]? = _) := (b10.block _ (by omega)).trans HG9.out
  have o1 := own_kept o1 b10
  have o2' := own_kept o2' b10
  have ox' := own_kept ox' b10
  go_wp2_with fail
  go_at_call 25
  refine (eqStringS cs _ _ _ (by unfold maxLen; omega) (reads_own ox') (reads_own oy)).mono ?_
  rintro e w11 ⟨rfl, b11⟩
  have s11 := b11.size
  have L11 : Below w.heap.size w w11 := L10.trans (b11.mono (by omega))
  have HA11 : Hid (w11.heap[w3.heap.size]? = _) := (b11.block _ (by omega)).trans HA10.out
  have HG11 : Hid (w11.heap[w6.heap.size]? = _) := (b11.block _ (by omega)).trans HG10.out
  have o1 := own_kept o1 b11
  have o2' := own_kept o2' b11
  have ox' := own_kept ox' b11
  have hmx := markStringS (cs.map .string) ux (w3.heap.size + 1) 1 w11 (by simp; omega) (by omega) (by omega) (by omega) (by simpa using ox')
  simp only [List.length_map] at hmx
  go_wp2_with fail
  go_at_call 26
  refine hmx.mono ?_
  rintro e w12 ⟨rfl, _, b12, g12⟩
  have s12 := b12.size
  have uxlt : ∀ k, ux.ownBlock = some k → k < w5.heap.size := fun k hk => (ox.lt k hk).2
  have L12 : Below w.heap.size w w12 := L11.trans (b12.mono (by omega))
  have HA12 : Hid (w12.heap[w3.heap.size]? = _) := (b12.block _ (by omega)).trans HA11.out
  have HG12 : Hid (w12.heap[w6.heap.size]? = _) := (g12.block _ (by omega) (fun e => by have := uxlt _ e.symm; omega)).trans HG11.out
  have v1lt : ∀ k, v1.ownBlock = some k → k < w3.heap.size := fun k hk => (own1.lt k hk).2
  have o1 := own_grown o1 g12 (fun k hk e => by have h1 := v1lt k hk; have h2 := (ox.lt k e).1; omega)
  have o2' := own_grown o2' g12 (fun k hk e => by have h1 := (o2.lt k hk).1; have h2 := uxlt k e; omega)
  have hk0 : (decide ((1 : Int) + (cs.length : Int) < 0)) = false := by simp; omega
  have z12 : w3.heap.size < w12.heap.size := by omega
  have z12' : w6.heap.size < w12.heap.size := by omega
  obtain ⟨x0, x1, y0, y1⟩ := two_cells HA12.out
  obtain ⟨x2, x3, y2, y3⟩ := two_cells HG12.out
  clear hmx
  go_wp2_with fail
  go_at_call 24
  refine (he _).mono ?_
  rintro e w13 ⟨rfl, b13⟩
  have s13 := b13.size
  have L13 : Below w.heap.size w w13 := L12.trans (b13.mono (by omega))
  have HA13 : Hid (w13.heap[w3.heap.size]? = _) := (b13.block _ (by omega)).trans HA12.out
  have o1 := own_kept o1 b13
  have o2' := own_kept o2' b13
  clear x0 x1 y0 y1 x2 x3 y2 y3
  go_wp2_with fail
  go_at_call 25
  refine (eqStringS ts _ _ _ (by unfold maxLen; omega) (reads_own o2') (reads_own o1)).mono ?_
  rintro e w14 ⟨rfl, b14⟩
  have s14 := b14.size
  have L14 : Below w.heap.size w w14 := L13.trans (b14.mono (by omega))
  have HA14 : Hid (w14.heap[w3.heap.size]? = _) := (b14.block _ (by omega)).trans HA13.out
  have o1 := own_kept o1 b14
  have o2' := own_kept o2' b14
  have hmg := markStringS (ts.map .string) v2 w5.heap.size 1 w14 (by simp; omega) (by omega) (by omega) (by omega) (by simpa using o2')
  simp only [List.length_map] at hmg
  go_wp2_with fail
  go_at_call 26
  refine hmg.mono ?_
  rintro e w15 ⟨rfl, m2, b15, _⟩
  have s15 := b15.size
  clear hmg
  have L15 : Below w.heap.size w w15 := L14.trans (b15.mono (by omega))
  have HA15 : Hid (w15.heap[w3.heap.size]? = _) := (b15.block _ (by omega)).trans HA14.out
  have o1 := own_below o1 b15 (fun k hk => by have := v1lt k hk; omega)
  go_wp2_with fail
  go_at_call 27
  refine (heldStringS ts.length v2 1 w15 (by omega) (by omega) (by omega) (reads_own m2)).mono ?_
  rintro e w16 ⟨rfl, b16⟩
  have s16 := b16.size
  have L16 : Below w.heap.size w w16 := L15.trans (b16.mono (by omega))
  have HA16 : Hid (w16.heap[w3.heap.size]? = _) := (b16.block _ (by omega)).trans HA15.out
  have o1 := own_kept o1 b16
  have m2 := own_kept m2 b16
  have hq0 : (decide ((1 : Int) + (ts.length : Int) < 0)) = false := by simp; omega
  go_wp2_with fail
  go_at_call 29
  refine (toStringS cs _ _ hlen (reads_below hv L16)).mono ?_
  rintro e w17 ⟨uz, rfl, oz, b17⟩
  have s17 := b17.size
  have L17 : Below w.heap.size w w17 := L16.trans (b17.mono (by omega))
  have HA17 : Hid (w17.heap[w3.heap.size]? = _) := (b17.block _ (by omega)).trans HA16.out
  have o1 := own_kept o1 b17
  have m2 := own_kept m2 b17
  go_wp2_with fail
  go_at_call 19
  refine (him _ w17 hlen (reads_own oz)).mono ?_
  rintro e w18 ⟨v3, rfl, o3, b18⟩
  have s18 := b18.size
  have z18 : w3.heap.size < w18.heap.size := by omega
  have L18 : Below w.heap.size w w18 := L17.trans (b18.mono (by omega))
  have HA18 : Hid (w18.heap[w3.heap.size]? = _) := (b18.block _ (by omega)).trans HA17.out
  have o1 := own_kept o1 b18
  have m2 := own_kept m2 b18
  obtain ⟨x0, x1, y0, y1⟩ := two_cells HA18.out
  have s19 : (w18.alloc (.cells #[.string q, .bool d] 27)).heap.size = w18.heap.size + 1 := by simp
  go_wp2_with fail
  go_at_call 24
  refine (he _).mono ?_
  rintro e w20 ⟨rfl, b20⟩
  have s20 := b20.size
  rw [s19] at s20
  have L20 : Below w.heap.size w w20 := (L18.alloc (by omega) _).trans (b20.mono (by omega))
  have o1 := own_kept (o1.alloc _) b20
  have m2 := own_kept (m2.alloc _) b20
  have o3 := own_kept (o3.alloc _) b20
  clear x0 x1 y0 y1
  go_wp2_with fail
  go_at_call 25
  refine (eqStringS ts _ _ _ (by unfold maxLen; omega) (reads_own o3) (reads_own o1)).mono ?_
  rintro e w21 ⟨rfl, b21⟩
  have s21 := b21.size
  have L21 : Below w.heap.size w w21 := L20.trans (b21.mono (by omega))
  have m2 := own_kept m2 b21
  go_wp2_with fail
  go_at_call 27
  refine (heldStringS ts.length v2 1 w21 (by omega) (by omega) (by omega) (reads_own m2)).mono ?_
  rintro e w22 ⟨rfl, b22⟩
  go_wp2
  go_ret
  exact ⟨rfl, L21.trans (b22.mono (by omega))⟩

theorem own : ownKnob Try.prog.godebug = none := by kernel_rfl
theorem laidOut : laidOutB Try.prog = true := by kernel_rfl
theorem cellsString : Try.prog.cellsOf 9 = 1 := by kernel_rfl

/-- A slice of texts that came in. -/
theorem open_texts {H : Type} {enc : TypeId × Value → H} {P : Program} {W : World} {base : Nat} {held : Bool} {t e : TypeId} {r : Reach} {b0 : Nat} {v : Value} {d : DataW H} {p : List MemPlace}
    (ht : P.underlying t = some (.slice e)) (he : P.underlying e = some .string) (hc : P.cellsOf e = 1) (hv : Value.okWide P W r b0 t v) (h : DataW.Trod enc P W base (fun _ => true) held t v d p) :
    ∃ cs : List ByteArray, Reads W v (cs.map .string) ∧ cs.length ≤ maxLen ∧ ∀ x ∈ cs, x.size ≤ maxLen := by
  obtain ⟨a0, len, cap, rfl⟩ := okWide_slice ht hv
  obtain ⟨fuel, hf⟩ := h
  rcases open_strings ht he hc hf with ⟨hcs, _⟩ | ⟨a, len', cap', ss, hcs, _, hl, hm, hz, _, hcell, hsz⟩
  · simp [Value.cells] at hcs
    obtain ⟨rfl, rfl, rfl⟩ := hcs
    exact ⟨[], ⟨none, 0, rfl, fun j x hx => by simp at hx⟩, by simp, by simp⟩
  · simp [Value.cells] at hcs
    obtain ⟨rfl, rfl, rfl⟩ := hcs
    simp only [if_true] at hz
    have hlen : (ss.take len).length = len := by simp; omega
    refine ⟨ss.take len, ⟨some a, cap, by rw [List.length_map, hlen], ?_⟩, by omega, fun x hx => hsz x (List.mem_of_mem_take hx)⟩
    intro j x hx
    have hj : j < len := by
      rcases Nat.lt_or_ge j len with h | h
      · exact h
      · rw [List.getElem?_eq_none (by simp; omega)] at hx; simp at hx
    have hcj := hcell j (by omega)
    obtain ⟨b, off, spot⟩ := a
    have hspot : spot = none := by
      have h0 := hcell 0 (by omega)
      simpa [Addr.add] using World.cell?_spot h0
    subst hspot
    refine ⟨b, off, rfl, ?_⟩
    have hadd : (⟨b, off, none⟩ : Addr).add j = ⟨b, off + j, none⟩ := by unfold Addr.add; split <;> simp_all
    rw [hadd] at hcj
    rw [hcj]
    have hjs : j < ss.length := by omega
    simp [hj, List.getElem?_eq_getElem hjs] at hx
    rw [List.getD_eq_getElem?_getD, List.getElem?_eq_getElem hjs]
    simp [hx]

set_option maxRecDepth 100000 in
theorem liftedFedAll (os : Os) (started : os.Started) (H : Type) (enc : TypeId × Value → H) :
    ReturnsInHanded {} Try.checked os 6 .any (Rows.fnExactFedAllSpec.pre6 enc Try.prog Try.f6 Rows.fnExactFedAllRow.domain false) (Rows.fnExactFedAllSpec.post enc Try.prog Try.f6 false true false false) := by
  refine returnsInHanded_of_change (C := Try.checked) own started (by kernel_rfl) Try.func6
    (ChangeSpec.witness6 (enc := enc) (C := Try.checked) false ⟨#[], #[.slice none 0 0], []⟩ 8 (by kernel_rfl) (by kernel_rfl) (by kernel_rfl) (by kernel_rfl)) ?_
  intro W base args ds gs before hval0 hW hcnd _
  have hval : ∀ (j : Nat) t v, Try.f6.params[j]? = some t → args[j]? = some v → Value.okWide Try.prog W .any base t v := hval0
  have hW' := hW
  obtain ⟨p, q, hA0, hV, rfl, hfz, hnd⟩ := hW
  have hA : DataW.TrodAll enc Try.prog W 0 (fun _ => true) true Try.f6.params.toList args.toList ds p := hA0
  rw [Try.params6] at hA hval
  obtain ⟨v0, vs0, d0, ds0, p0, q0, hargs, rfl, rfl, h0, r0⟩ := trodAll_cons hA
  obtain ⟨rfl, rfl, rfl⟩ := trodAll_nil r0
  obtain rfl : args = #[v0] := by cases args; simp_all
  obtain ⟨rfl, rfl⟩ := trodVars_none hV
  obtain ⟨cs, hr, hl, hs⟩ := open_texts Try.underlying30 Try.underlying9 cellsString (hval 0 30 v0 rfl rfl) h0
  refine (walkFedAll cs v0 W hl hs hr).mono fun e W' ⟨he, hb⟩ => ?_
  subst he
  refine ⟨_, rfl, law_post (tb := 4) laidOut ?_ hW' rfl Try.underlying4 rfl rfl hb⟩
  exact all_readable (P := Try.prog) (by kernel_rfl)

theorem overFedAll : Rows.fnExactFedAllRow.holds Try.pinned (OpenSpec.ofChange Rows.fnExactFedAllSpec) :=
  OpenClaim.holds_of_wide 6 Try.f6 rfl rfl rfl rfl rfl rfl rfl ⟨rfl, rfl, rfl, rfl, rfl⟩ rfl rfl rfl rfl rfl (by kernel_rfl) Try.func6 (by kernel_rfl)
    (of_decide_eq_true (by kernel_rfl)) (by unfold Func.isWrapper; first | (rw [if_pos (by decide +kernel)]; kernel_rfl) | (rw [if_neg (by decide +kernel)]; exact ⟨rfl, rfl⟩))
    (fun os started H enc _ => liftedFedAll os started H enc)

/-- ████ THE STATEMENT ████ -/
theorem fedAllHolds : Rows.FnExactFedAllSaid :=
  overFedAll
#print axioms fedAllHolds

end Go.Proofs.Ytkblcekledbcnaa
