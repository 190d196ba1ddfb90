/-
  The law FnEdits: an edit that is undone makes the program again, and what is edited is right.
-/
import Derived.Test.YtoflfeegllpifaaDrawEd2
import Derived.Test.YtoflfeegllpifaaEditsMath
import Derived.Test.YtoflfeegllpifaaLikeProg
import Derived.Test.YtoflfeegllpifaaSpecEd
import Derived.Test.YtoflfeegllpifaaUnd
import Derived.Test.YtoflfeegllpifaaUndS
import Derived.Test.YtoflfeegllpifaaOpenCode
import Derived.Test.YtoflfeegllpifaaG05Progs
namespace Go.Proofs.Ytoflfeegllpifaa
open Go.ChangeShapes Go.WideShapes Go.ChangeAt Go.RowKit
set_option linter.unusedVariables false
set_option linter.unusedSimpArgs false
set_option maxHeartbeats 8000000
set_option maxRecDepth 20000
/-- The boxes of what is drawn. -/
structure FE (w : World) (b : Nat) (v : Value) (k pr a sk sx sy : Int) (W : World) : Prop where
  p : W.heap[b]? = some (.cells #[v] 26 (0, 0))
  e : W.heap[b + 1]? = some (.cells #[.int .i64 k, .int .i64 pr, .int .i64 a, .int .i64 sk, .int .i64 sx, .int .i64 sy] 47 (0, 0))
  below : Below w.heap.size w W
  size : b + 2 ≤ W.heap.size
  base : w.heap.size ≤ b
theorem FE.kept {w : World} {b : Nat} {v : Value} {k pr a sk sx sy : Int} {W W' : World} {B : Nat} (h : FE w b v k pr a sk sx sy W) (hb : Below B W W') (hB : b + 2 ≤ B) : FE w b v k pr a sk sx sy W' :=
  ⟨(hb.block _ (by omega)).trans h.p, (hb.block _ (by omega)).trans h.e, h.below.trans (hb.mono (by have := h.base; omega)), Nat.le_trans h.size hb.size, h.base⟩
theorem six_in {w : World} {b : Nat} {x0 x1 x2 x3 x4 x5 : Value} {T : TypeId} (h : w.heap[b]? = some (.cells #[x0, x1, x2, x3, x4, x5] T (0, 0))) :
    w.cell? ⟨b, 0, none⟩ = some x0 ∧ w.cell? ⟨b, 1, none⟩ = some x1 ∧ w.cell? ⟨b, 2, none⟩ = some x2 ∧ w.cell? ⟨b, 3, none⟩ = some x3 ∧ w.cell? ⟨b, 4, none⟩ = some x4 ∧ w.cell? ⟨b, 5, none⟩ = some x5 := by
  refine ⟨?_, ?_, ?_, ?_, ?_, ?_⟩ <;> simp [World.cell?, h]
theorem undone_none {ps : List (List Stm)} {e : Edt} (h : edited13 ps e.k e.pr e.a e.s = none) : undone13 ps e = none := by
  unfold undone13
  rw [h]
  rfl
theorem undone_kind {ps qs : List (List Stm)} {e : Edt} (h : edited13 ps e.k e.pr e.a e.s = some qs) (hu : undone13 ps e = none) : e.k = 4 ∨ e.k = 3 := by
  have hs : (edited13 ps e.k e.pr e.a e.s).isSome = true := by rw [h]; rfl
  obtain ⟨_, hk, _⟩ := edited13_place hs
  unfold undone13 at hu
  rw [if_pos hs] at hu
  rcases hk with h1 | h1 | h1 | h1
  · rw [if_pos h1] at hu; cases hu
  · rw [if_neg (by omega), if_pos h1] at hu; cases hu
  · exact .inr h1
  · exact .inl h1
theorem drawn_lens13 {ps : List (List Stm)} {L : List Nat} (h : ps.map List.length = L) (h5 : L.length ≤ 5) (h14 : ∀ n ∈ L, n ≤ 14) : ps.length ≤ maxLen ∧ ∀ p ∈ ps, p.length ≤ maxLen := by
  subst h
  refine ⟨by simp at h5; unfold maxLen; omega, fun p hp => ?_⟩
  have := h14 p.length (List.mem_map_of_mem hp)
  unfold maxLen
  omega
theorem right_lens {ps : List (List Stm)} (h : programOk ps = true) : ps.length ≤ 100 ∧ ∀ p ∈ ps, p.length ≤ 100 := by
  obtain ⟨h1, _, h3⟩ := progs13 h
  exact ⟨by omega, fun p hp => by have := (procs13 (h3 p hp)).2.1; omega⟩
theorem walkFnEdits (bs : List Int) (v : Value) (w : World) (hl : bs.length ≤ maxLen) (hv : Reads w v (bs.map (Value.int .u8))) :
    Calls Try.prog 4 #[v] w fun e w' => e = .returned (.bool true) ∧ Below w.heap.size w w' := by
  have hbig := lawBig bs v w hl hv
  by_cases hb : (4096 : Int) < (bs.length : Int)
  · rw [decide_eq_true hb] at hbig
    go_enter Try.func4, Try.ntmps4
    go_wp2_with (go_at_call 5; refine hbig.mono ?_; rintro e w1 ⟨rfl, rfl⟩)
    go_ret
    exact ⟨rfl, Below.refl _ _⟩
  rw [decide_eq_false hb] at hbig
  go_enter Try.func4, Try.ntmps4
  go_wp2_with fail
  go_at_call 5
  refine hbig.mono ?_
  rintro e w1 ⟨rfl, rfl⟩
  clear hbig
  go_wp2_with fail
  go_at_call 24
  refine (drawEdited bs v w (by omega) hv).mono ?_
  rintro r w1 ⟨u, L, e, rfl, h5, h14, pr1, b1⟩
  obtain ⟨ps, rp, hpL⟩ := pr1.reads
  obtain ⟨hps, hpe⟩ := drawn_lens13 hpL h5 h14
  obtain ⟨ua, un, uc, rfl⟩ := pr1.slice
  have him := fun x W => implEdited ps e x W hps hpe
  have hsp := fun x W => specEdited ps e x W hps hpe
  have hiu := fun x W => implUndone ps e x W hps hpe
  have hsu := fun x W => specUndone ps e x W hps hpe
  have HK : Hid _ := @undone_kind ps
  have HN : Hid _ := @undone_none ps e
  have HBK : Hid _ := fun qs u h1 h2 => @undone_back ps qs e u h1 h2
  have HKE : Hid (∀ qs, edited13 ps e.k e.pr e.a e.s = some qs → undone13 ps e = none → e.k = 4 ∨ e.k = 3) := fun qs h1 h2 => undone_kind h1 h2
  have HES : Hid (∀ qs, edited13 ps e.k e.pr e.a e.s = some qs → programOk ps = true ∧ programOk qs = true) := fun qs h => ⟨(edited13_some h).1, (edited13_some h).2.1⟩
  obtain ⟨A, hA⟩ : ∃ A, edited13 ps e.k e.pr e.a e.s = A := ⟨_, rfl⟩
  obtain ⟨U, hU⟩ : ∃ U, undone13 ps e = U := ⟨_, rfl⟩
  rw [hA] at him hsp
  rw [hU] at hiu hsu
  have HA : Hid _ := hA
  have HU : Hid _ := hU
  clear hA hU
  obtain ⟨k, pr, a, ⟨sk, sx, sy⟩⟩ := e
  obtain ⟨⟨k2, pr2, a2, ⟨sk2, sx2, sy2⟩⟩, hUv⟩ : ∃ u : Edt, U.getD zeroE = u := ⟨_, rfl⟩
  have HUV : Hid _ := hUv
  rw [hUv] at hiu hsu
  unfold edV at *
  simp only at him hsp hiu hsu ⊢
  obtain ⟨Q, hQ⟩ : ∃ Q, A.getD [] = Q := ⟨_, rfl⟩
  rw [hQ] at him hsp
  have HQ : Hid _ := hQ
  obtain ⟨bb, hbb⟩ : ∃ x, A.isSome = x := ⟨_, rfl⟩
  rw [hbb] at him hsp
  have HBB : Hid _ := hbb
  obtain ⟨cc, hcc⟩ : ∃ x, U.isSome = x := ⟨_, rfl⟩
  rw [hcc] at hiu hsu
  have HCC : Hid _ := hcc
  clear hUv hQ hbb hcc
  have hQl : Q.length ≤ 100 ∧ ∀ p ∈ Q, p.length ≤ 100 := by
    cases hA : A with
    | none => have := HQ.out; rw [hA] at this; rw [← this]; simp
    | some qs =>
      have h9 := HQ.out
      rw [hA] at h9
      have h8 : qs = Q := h9
      subst h8
      exact right_lens (HES.out qs (HA.out.trans hA)).2
  obtain ⟨W, hW⟩ : ∃ W, (w1.alloc (.cells #[.slice ua un uc] 26)).alloc (.cells #[.int .i64 k, .int .i64 pr, .int .i64 a, .int .i64 sk, .int .i64 sx, .int .i64 sy] 47) = W := ⟨_, rfl⟩
  have bW : Below w1.heap.size w1 W := by rw [← hW]; go_grown
  obtain ⟨b0, hb0⟩ : ∃ n, w1.heap.size = n := ⟨_, rfl⟩
  obtain ⟨w2, hw2⟩ : ∃ x, x = W := ⟨_, rfl⟩
  have HF2 : Hid (FE w b0 (.slice ua un uc) k pr a sk sx sy w2) := by
    show FE _ _ _ _ _ _ _ _ _ _
    rw [hw2]
    refine ⟨?_, ?_, b1.trans (bW.mono b1.size), ?_, by rw [← hb0]; exact b1.size⟩
    · rw [← hb0, ← hW]; exact (old_block (by simp)).trans (heap_alloc_new w1 _)
    · rw [← hb0, ← hW]
      have := heap_alloc_new (w1.alloc (.cells #[.slice ua un uc] 26)) (.cells #[.int .i64 k, .int .i64 pr, .int .i64 a, .int .i64 sk, .int .i64 sx, .int .i64 sy] 47)
      simpa using this
    · rw [← hb0, ← hW]; simp
  have RP2 : Hid (ReadsP w2 (.slice ua un uc) ps) := by
    show ReadsP _ _ _
    rw [hw2]; exact readsP_below rp bW
  subst hw2
  clear rp pr1 b1 bW hpL
  obtain ⟨c0, -⟩ := one_cell HF2.out.p
  obtain ⟨e0, e1, e2, e3, e4, e5⟩ := six_in HF2.out.e
  have hcall := him _ _ (readsP_below RP2.out (Below.refl _ _))
  go_wp2_with fail
  go_at_call 25
  clear hW hb0
  refine hcall.mono ?_
  rintro r w3 ⟨x0, us, rfl, ox, b3⟩
  clear hcall c0 e0 e1 e2 e3 e4 e5
  obtain ⟨xa, xm, xc, rfl⟩ := own_slice ox.row
  have HF3 : Hid (FE w b0 (.slice ua un uc) k pr a sk sx sy w3) := HF2.out.kept b3 HF2.out.size
  have K3 : Hid (Below w2.heap.size w2 w3) := b3
  have RX3 : Hid (ReadsP w3 (.slice xa xm xc) Q) := readsP_own ox.ownP
  clear ox b3
  obtain ⟨w4, hw4⟩ : ∃ W, w3.alloc (.cells #[.slice xa xm xc] 26) = W := ⟨_, rfl⟩
  have b4 : Below w3.heap.size w3 w4 := by rw [← hw4]; go_grown
  obtain ⟨bX, hbX⟩ : ∃ n, w3.heap.size = n := ⟨_, rfl⟩
  have BX4 : Hid (w4.heap[bX]? = some (.cells #[.slice xa xm xc] 26 (0, 0))) := by
    show w4.heap[bX]? = _
    rw [← hw4, ← hbX]; exact heap_alloc_new w3 _
  have HF4 : Hid (FE w b0 (.slice ua un uc) k pr a sk sx sy w4) := HF3.out.kept b4 HF3.out.size
  have RX4 : Hid (ReadsP w4 (.slice xa xm xc) Q) := readsP_below RX3.out b4
  have K4 : Hid (Below w2.heap.size w2 w4) := K3.out.trans (b4.mono K3.out.size)
  clear b4 RX3 K3
  obtain ⟨c0, -⟩ := one_cell HF4.out.p
  obtain ⟨e0, e1, e2, e3, e4, e5⟩ := six_in HF4.out.e
  have hcall := hiu _ _ (readsP_below RP2.out K4.out)
  go_wp2_with fail
  go_at_call 26
  clear hw4 hbX
  refine hcall.mono ?_
  rintro r w5 ⟨rfl, b5⟩
  clear hcall c0 e0 e1 e2 e3 e4 e5
  have HF5 : Hid (FE w b0 (.slice ua un uc) k pr a sk sx sy w5) := HF4.out.kept b5 HF4.out.size
  have BX5 : Hid (w5.heap[bX]? = some (.cells #[.slice xa xm xc] 26 (0, 0))) := (b5.block _ (Array.getElem?_eq_some_iff.1 BX4.out).1).trans BX4.out
  have RX5 : Hid (ReadsP w5 (.slice xa xm xc) Q) := readsP_below RX4.out b5
  have K5 : Hid (Below w2.heap.size w2 w5) := K4.out.trans (b5.mono K4.out.size)
  clear b5 K4
  obtain ⟨w6, hw6⟩ : ∃ W, w5.alloc (.cells #[.int .i64 k2, .int .i64 pr2, .int .i64 a2, .int .i64 sk2, .int .i64 sx2, .int .i64 sy2] 47) = W := ⟨_, rfl⟩
  have b6 : Below w5.heap.size w5 w6 := by rw [← hw6]; go_grown
  obtain ⟨bU, hbU⟩ : ∃ n, w5.heap.size = n := ⟨_, rfl⟩
  have BU6 : Hid (w6.heap[bU]? = some (.cells #[.int .i64 k2, .int .i64 pr2, .int .i64 a2, .int .i64 sk2, .int .i64 sx2, .int .i64 sy2] 47 (0, 0))) := by
    show w6.heap[bU]? = _
    rw [← hw6, ← hbU]; exact heap_alloc_new w5 _
  have HF6 : Hid (FE w b0 (.slice ua un uc) k pr a sk sx sy w6) := HF5.out.kept b6 HF5.out.size
  have BX6 : Hid (w6.heap[bX]? = some (.cells #[.slice xa xm xc] 26 (0, 0))) := (b6.block _ (Array.getElem?_eq_some_iff.1 BX5.out).1).trans BX5.out
  have RX6 : Hid (ReadsP w6 (.slice xa xm xc) Q) := readsP_below RX5.out b6
  have K6 : Hid (Below w2.heap.size w2 w6) := K5.out.trans (b6.mono K5.out.size)
  clear b6 K5
  obtain ⟨c0, -⟩ := one_cell HF6.out.p
  obtain ⟨e0, e1, e2, e3, e4, e5⟩ := six_in HF6.out.e
  have hcall := hsp _ _ (readsP_below RP2.out K6.out)
  go_wp2_with fail
  go_at_call 27
  clear hw6 hbU
  refine hcall.mono ?_
  rintro r w7 ⟨y0, us, rfl, oy, b7⟩
  clear hcall c0 e0 e1 e2 e3 e4 e5
  obtain ⟨ya, ym, yc, rfl⟩ := own_slice oy.row
  have HF7 : Hid (FE w b0 (.slice ua un uc) k pr a sk sx sy w7) := HF6.out.kept b7 HF6.out.size
  have BX7 : Hid (w7.heap[bX]? = some (.cells #[.slice xa xm xc] 26 (0, 0))) := (b7.block _ (Array.getElem?_eq_some_iff.1 BX6.out).1).trans BX6.out
  have RX7 : Hid (ReadsP w7 (.slice xa xm xc) Q) := readsP_below RX6.out b7
  have BU7 : Hid (w7.heap[bU]? = some (.cells #[.int .i64 k2, .int .i64 pr2, .int .i64 a2, .int .i64 sk2, .int .i64 sx2, .int .i64 sy2] 47 (0, 0))) := (b7.block _ (Array.getElem?_eq_some_iff.1 BU6.out).1).trans BU6.out
  have K7 : Hid (Below w2.heap.size w2 w7) := K6.out.trans (b7.mono K6.out.size)
  have RY7 : Hid (ReadsP w7 (.slice ya ym yc) Q) := readsP_own oy.ownP
  clear oy b7 K6
  obtain ⟨w8, hw8⟩ : ∃ W, w7.alloc (.cells #[.slice ya ym yc] 26) = W := ⟨_, rfl⟩
  have b8 : Below w7.heap.size w7 w8 := by rw [← hw8]; go_grown
  obtain ⟨bY, hbY⟩ : ∃ n, w7.heap.size = n := ⟨_, rfl⟩
  have BY8 : Hid (w8.heap[bY]? = some (.cells #[.slice ya ym yc] 26 (0, 0))) := by
    show w8.heap[bY]? = _
    rw [← hw8, ← hbY]; exact heap_alloc_new w7 _
  have HF8 : Hid (FE w b0 (.slice ua un uc) k pr a sk sx sy w8) := HF7.out.kept b8 HF7.out.size
  have BX8 : Hid (w8.heap[bX]? = some (.cells #[.slice xa xm xc] 26 (0, 0))) := (b8.block _ (Array.getElem?_eq_some_iff.1 BX7.out).1).trans BX7.out
  have RX8 : Hid (ReadsP w8 (.slice xa xm xc) Q) := readsP_below RX7.out b8
  have BU8 : Hid (w8.heap[bU]? = some (.cells #[.int .i64 k2, .int .i64 pr2, .int .i64 a2, .int .i64 sk2, .int .i64 sx2, .int .i64 sy2] 47 (0, 0))) := (b8.block _ (Array.getElem?_eq_some_iff.1 BU7.out).1).trans BU7.out
  have RY8 : Hid (ReadsP w8 (.slice ya ym yc) Q) := readsP_below RY7.out b8
  have K8 : Hid (Below w2.heap.size w2 w8) := K7.out.trans (b8.mono K7.out.size)
  clear b8 RY7 K7
  obtain ⟨cX, -⟩ := one_cell BX8.out
  obtain ⟨cY, -⟩ := one_cell BY8.out
  have hnb : (bb != bb) = false := by cases bb <;> rfl
  go_wp2_with fail
  go_at_call 28
  clear hw8 hbY
  refine (likeProgram Q _ _ _ hQl.1 hQl.2 RX8.out RY8.out).mono ?_
  rintro r w9 ⟨rfl, b9⟩
  have HF9 : Hid (FE w b0 (.slice ua un uc) k pr a sk sx sy w9) := HF8.out.kept b9 HF8.out.size
  have BX9 : Hid (w9.heap[bX]? = some (.cells #[.slice xa xm xc] 26 (0, 0))) := (b9.block _ (Array.getElem?_eq_some_iff.1 BX8.out).1).trans BX8.out
  have RX9 : Hid (ReadsP w9 (.slice xa xm xc) Q) := readsP_below RX8.out b9
  have BU9 : Hid (w9.heap[bU]? = some (.cells #[.int .i64 k2, .int .i64 pr2, .int .i64 a2, .int .i64 sk2, .int .i64 sx2, .int .i64 sy2] 47 (0, 0))) := (b9.block _ (Array.getElem?_eq_some_iff.1 BU8.out).1).trans BU8.out
  have K9 : Hid (Below w2.heap.size w2 w9) := K8.out.trans (b9.mono K8.out.size)
  clear b9 K8 cX cY
  obtain ⟨c0, -⟩ := one_cell HF9.out.p
  obtain ⟨e0, e1, e2, e3, e4, e5⟩ := six_in HF9.out.e
  have hcall := hsu _ _ (readsP_below RP2.out K9.out)
  go_wp2_with fail
  go_at_call 29
  refine hcall.mono ?_
  rintro r w10 ⟨rfl, b10⟩
  clear hcall c0 e0 e1 e2 e3 e4 e5
  have HF10 : Hid (FE w b0 (.slice ua un uc) k pr a sk sx sy w10) := HF9.out.kept b10 HF9.out.size
  have BX10 : Hid (w10.heap[bX]? = some (.cells #[.slice xa xm xc] 26 (0, 0))) := (b10.block _ (Array.getElem?_eq_some_iff.1 BX9.out).1).trans BX9.out
  have RX10 : Hid (ReadsP w10 (.slice xa xm xc) Q) := readsP_below RX9.out b10
  have BU10 : Hid (w10.heap[bU]? = some (.cells #[.int .i64 k2, .int .i64 pr2, .int .i64 a2, .int .i64 sk2, .int .i64 sx2, .int .i64 sy2] 47 (0, 0))) := (b10.block _ (Array.getElem?_eq_some_iff.1 BU9.out).1).trans BU9.out
  have K10 : Hid (Below w2.heap.size w2 w10) := K9.out.trans (b10.mono K9.out.size)
  clear b10 K9
  obtain ⟨w11, hw11⟩ : ∃ W, w10.alloc (.cells #[.int .i64 k2, .int .i64 pr2, .int .i64 a2, .int .i64 sk2, .int .i64 sx2, .int .i64 sy2] 47) = W := ⟨_, rfl⟩
  have b11 : Below w10.heap.size w10 w11 := by rw [← hw11]; go_grown
  obtain ⟨bV, hbV⟩ : ∃ n, w10.heap.size = n := ⟨_, rfl⟩
  have BV11 : Hid (w11.heap[bV]? = some (.cells #[.int .i64 k2, .int .i64 pr2, .int .i64 a2, .int .i64 sk2, .int .i64 sx2, .int .i64 sy2] 47 (0, 0))) := by
    show w11.heap[bV]? = _
    rw [← hw11, ← hbV]; exact heap_alloc_new w10 _
  have HF11 : Hid (FE w b0 (.slice ua un uc) k pr a sk sx sy w11) := HF10.out.kept b11 HF10.out.size
  have BX11 : Hid (w11.heap[bX]? = some (.cells #[.slice xa xm xc] 26 (0, 0))) := (b11.block _ (Array.getElem?_eq_some_iff.1 BX10.out).1).trans BX10.out
  have RX11 : Hid (ReadsP w11 (.slice xa xm xc) Q) := readsP_below RX10.out b11
  have BU11 : Hid (w11.heap[bU]? = some (.cells #[.int .i64 k2, .int .i64 pr2, .int .i64 a2, .int .i64 sk2, .int .i64 sx2, .int .i64 sy2] 47 (0, 0))) := (b11.block _ (Array.getElem?_eq_some_iff.1 BU10.out).1).trans BU10.out
  have K11 : Hid (Below w2.heap.size w2 w11) := K10.out.trans (b11.mono K10.out.size)
  clear b11 K10
  obtain ⟨u0, u1, u2, u3, u4, u5⟩ := six_in BU11.out
  obtain ⟨v0, v1, v2, v3, v4, v5⟩ := six_in BV11.out
  have hcb : (cc != cc) = false := by cases cc <;> rfl
  have heq := fun W => equal_edit W k2 pr2 a2 sk2 sx2 sy2 k2 pr2 a2 sk2 sx2 sy2
  simp only [decide_true, Bool.and_true] at heq
  obtain ⟨cX, -⟩ := one_cell BX11.out
  cases hA : A with
  | none =>
    have hb9 : bb = false := by rw [← HBB.out, hA]; rfl
    have hUn : U = none := by rw [← HU.out]; exact HN.out (HA.out.trans hA)
    have hc9 : cc = false := by rw [← HCC.out, hUn]; rfl
    have hQ9 : Q = [] := by rw [← HQ.out, hA]; rfl
    subst hb9
    subst hc9
    have hx0 : xm = 0 := by
      have h9 := RX11.out
      rw [hQ9] at h9
      obtain ⟨_, _, e9, _⟩ := h9
      injection e9 with _ e9 _
    subst hx0
    have HLf : Hid (Below w.heap.size w w11) := HF11.out.below
    clear hUn hQ9 hA him hsp hiu hsu
    go_wp2
    go_ret
    exact ⟨rfl, HLf.out⟩
  | some qs =>
    have hb9 : bb = true := by rw [← HBB.out, hA]; rfl
    have hQ9 : Q = qs := by rw [← HQ.out, hA]; rfl
    subst hb9
    subst hQ9
    have hEd := HA.out.trans hA
    obtain ⟨hoP, hoQ⟩ := HES.out _ hEd
    have hQm1 : Q.length ≤ maxLen := by have := hQl.1; unfold maxLen; omega
    have hQm2 : ∀ p ∈ Q, p.length ≤ maxLen := fun p hp => by have := hQl.2 p hp; unfold maxLen; omega
    have hpk := implProgramOk Q _ w11 hQm1 hQm2 RX11.out
    rw [hoQ] at hpk
    clear hA him hsp hiu hsu
    go_wp2_with fail
    go_at_call 11
    clear hw11 hbV
    refine hpk.mono ?_
    rintro r w12 ⟨rfl, b12⟩
    have HF12 : Hid (FE w b0 (.slice ua un uc) k pr a sk sx sy w12) := HF11.out.kept b12 HF11.out.size
    have BX12 : Hid (w12.heap[bX]? = some (.cells #[.slice xa xm xc] 26 (0, 0))) := (b12.block _ (Array.getElem?_eq_some_iff.1 BX11.out).1).trans BX11.out
    have RX12 : Hid (ReadsP w12 (.slice xa xm xc) Q) := readsP_below RX11.out b12
    have BU12 : Hid (w12.heap[bU]? = some (.cells #[.int .i64 k2, .int .i64 pr2, .int .i64 a2, .int .i64 sk2, .int .i64 sx2, .int .i64 sy2] 47 (0, 0))) := (b12.block _ (Array.getElem?_eq_some_iff.1 BU11.out).1).trans BU11.out
    have K12 : Hid (Below w2.heap.size w2 w12) := K11.out.trans (b12.mono K11.out.size)
    have RPX : Hid (ReadsP w2 (.slice ua un uc) ps) := RP2.out
    clear hpk b12 u0 u1 u2 u3 u4 u5 v0 v1 v2 v3 v4 v5 cX
    cases hUc : U with
    | none =>
      have hc9 : cc = false := by rw [← HCC.out, hUc]; rfl
      subst hc9
      have hk9 := HKE.out _ hEd (HU.out.trans hUc)
      try simp only at hk9
      obtain ⟨e0, e1, e2, e3, e4, e5⟩ := six_in HF12.out.e
      have HLf : Hid (Below w.heap.size w w12) := HF12.out.below
      clear hUc
      by_cases h4 : k = 4
      · subst h4
        go_wp2
        go_ret
        exact ⟨rfl, HLf.out⟩
      · have h3 : k = 3 := by omega
        subst h3
        go_wp2
        go_ret
        exact ⟨rfl, HLf.out⟩
    | some uu =>
      have hc9 : cc = true := by rw [← HCC.out, hUc]; rfl
      subst hc9
      have hu9 : uu = ⟨k2, pr2, a2, ⟨sk2, sx2, sy2⟩⟩ := by rw [← HUV.out, hUc]; rfl
      have hbk := HBK.out _ _ hEd (HU.out.trans hUc)
      rw [hu9] at hbk
      try simp only at hbk
      have him2 := fun x W hx => implEdited Q ⟨k2, pr2, a2, ⟨sk2, sx2, sy2⟩⟩ x W hQm1 hQm2 hx
      unfold edV at him2
      try simp only at him2
      rw [hbk] at him2
      have hcall := him2 _ _ RX12.out
      obtain ⟨cX, -⟩ := one_cell BX12.out
      obtain ⟨u0, u1, u2, u3, u4, u5⟩ := six_in BU12.out
      clear hUc hu9 hbk him2
      go_wp2_with fail
      go_at_call 25
      refine hcall.mono ?_
      rintro r w13 ⟨z0, us, rfl, oz, b13⟩
      obtain ⟨za, zm, zc, rfl⟩ := own_slice oz.row
      have HF13 : Hid (FE w b0 (.slice ua un uc) k pr a sk sx sy w13) := HF12.out.kept b13 HF12.out.size
      have RZ13 : Hid (ReadsP w13 (.slice za zm zc) ps) := readsP_own oz.ownP
      have K13 : Hid (Below w12.heap.size w12 w13) := b13
      clear hcall oz b13 cX u0 u1 u2 u3 u4 u5
      obtain ⟨w14, hw14⟩ : ∃ W, w13.alloc (.cells #[.slice za zm zc] 26) = W := ⟨_, rfl⟩
      have b14 : Below w13.heap.size w13 w14 := by rw [← hw14]; go_grown
      obtain ⟨bZ, hbZ⟩ : ∃ n, w13.heap.size = n := ⟨_, rfl⟩
      have BZ14 : Hid (w14.heap[bZ]? = some (.cells #[.slice za zm zc] 26 (0, 0))) := by
        show w14.heap[bZ]? = _
        rw [← hw14, ← hbZ]; exact heap_alloc_new w13 _
      have HF14 : Hid (FE w b0 (.slice ua un uc) k pr a sk sx sy w14) := HF13.out.kept b14 HF13.out.size
      have RZ14 : Hid (ReadsP w14 (.slice za zm zc) ps) := readsP_below RZ13.out b14
      have RP14 : Hid (ReadsP w14 (.slice ua un uc) ps) := readsP_below RPX.out ((K12.out.trans (K13.out.mono K12.out.size)).trans (b14.mono (Nat.le_trans K12.out.size K13.out.size)))
      obtain ⟨cZ, -⟩ := one_cell BZ14.out
      obtain ⟨c0, -⟩ := one_cell HF14.out.p
      obtain ⟨hp1, hp2⟩ := right_lens hoP
      clear b14
      go_wp2_with fail
      go_at_call 28
      clear hw14 hbZ
      refine (likeProgram ps _ _ _ hp1 hp2 RZ14.out RP14.out).mono ?_
      rintro r w15 ⟨rfl, b15⟩
      have HLf : Hid (Below w.heap.size w w15) := HF14.out.below.trans (b15.mono (by have := HF14.out.base; have := HF14.out.size; omega))
      clear b15
      go_wp2
      go_ret
      exact ⟨rfl, HLf.out⟩

set_option maxRecDepth 100000 in
theorem liftedFnEdits (os : Os) (started : os.Started) (H : Type) (enc : TypeId × Value → H) :
    ReturnsInHanded {} Try.checked os 4 .any (Rows.fnEditsSpec.pre6 enc Try.prog Try.f4 Rows.fnEditsRow.domain false) (Rows.fnEditsSpec.post enc Try.prog Try.f4 false true false false) := by
  refine returnsInHanded_of_change (C := Try.checked) own started (by kernel_rfl) Try.func4
    (ChangeSpec.witness6 (enc := enc) (C := Try.checked) false ⟨#[], #[.slice none 0 0], []⟩ 8 (by kernel_rfl) (by kernel_rfl) (by kernel_rfl) (by kernel_rfl)) ?_
  intro W base args ds gs before hval0 hW hcnd _
  have hval : ∀ (j : Nat) t v, Try.f4.params[j]? = some t → args[j]? = some v → Value.okWide Try.prog W .any base t v := hval0
  have hW' := hW
  obtain ⟨p, q, hA0, hV, rfl, hfz, hnd⟩ := hW
  have hA : DataW.TrodAll enc Try.prog W 0 (fun _ => true) true Try.f4.params.toList args.toList ds p := hA0
  rw [Try.params4] at hA hval
  obtain ⟨v0, vs0, d0, ds0, p0, q0, hargs, rfl, rfl, h0, r0⟩ := trodAll_cons hA
  obtain ⟨rfl, rfl, rfl⟩ := trodAll_nil r0
  obtain rfl : args = #[v0] := by cases args; simp_all
  obtain ⟨rfl, rfl⟩ := trodVars_none hV
  obtain ⟨bs, hr, hl, hs⟩ := open_code Try.underlying22 Try.underlying5 cellsByte (hval 0 22 v0 rfl rfl) h0
  refine (walkFnEdits bs v0 W hl hr).mono fun e W' ⟨he, hb⟩ => ?_
  subst he
  refine ⟨_, rfl, law_post (tb := 4) laidOut ?_ hW' rfl Try.underlying4 rfl rfl hb⟩
  exact all_readable (P := Try.prog) (by kernel_rfl)

theorem overFnEdits : Rows.fnEditsRow.holds Try.pinned (OpenSpec.ofChange Rows.fnEditsSpec) :=
  OpenClaim.holds_of_wide 4 Try.f4 rfl rfl rfl rfl rfl rfl rfl ⟨rfl, rfl, rfl, rfl, rfl⟩ rfl rfl rfl rfl rfl (by kernel_rfl) Try.func4 (by kernel_rfl)
    (of_decide_eq_true (by kernel_rfl)) (by unfold Func.isWrapper; first | (rw [if_pos (by decide +kernel)]; kernel_rfl) | (rw [if_neg (by decide +kernel)]; exact ⟨rfl, rfl⟩))
    (fun os started H enc _ => liftedFnEdits os started H enc)

/-- ████ THE STATEMENT ████ -/
theorem fnEditsHolds : Rows.FnEditsSaid :=
  overFnEdits
#print axioms fnEditsHolds

end Go.Proofs.Ytoflfeegllpifaa
