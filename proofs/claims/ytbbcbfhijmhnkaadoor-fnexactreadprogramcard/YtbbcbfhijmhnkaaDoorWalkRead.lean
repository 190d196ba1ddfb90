/-
  The law FnExactReadProgram: its own walk.
-/
import Derived.Test.YtbbcbfhijmhnkaaDoorImplRd
import Derived.Test.YtbbcbfhijmhnkaaDoorHeldProg
namespace Go.Proofs.YtbbcbfhijmhnkaaDoor
open Go.RowKit
set_option linter.unusedVariables false
set_option linter.unusedSimpArgs false
set_option maxHeartbeats 4000000
set_option maxRecDepth 20000

theorem read_small {D : List UInt8} {ps : List (List Stm)} {b : Bool} (h : IsRead D (if b = true then some ps else none)) (hz : b = false → ps = []) : ps.length ≤ 4 ∧ ∀ p ∈ ps, p.length ≤ 12 := by
  cases b with
  | false => rw [hz rfl]; simp
  | true =>
    have h1 : programOk ps = true := (show IsRead D (some ps) by simpa using h).1
    obtain ⟨h4, _, hp⟩ := progs_allS h1
    exact ⟨h4, fun p hp' => (hp p hp').1⟩

theorem read_one {D : List UInt8} {ps qs : List (List Stm)} {b c : Bool} (h : IsRead D (if b = true then some ps else none)) (hz : b = false → ps = []) (h' : IsRead D (if c = true then some qs else none)) (hz' : c = false → qs = []) : c = b ∧ qs = ps := by
  have e := isRead_uniq h h'
  cases b <;> cases c
  · exact ⟨rfl, by rw [hz rfl, hz' rfl]⟩
  · simp at e
  · simp at e
  · simp at e; exact ⟨rfl, e.symm⟩

theorem ownP_belowR {w w' : World} {B b t : Nat} {v : Value} {ps : List (List Stm)} (h : OwnP w b t v ps) (hb : Below B w w') (hd : t ≤ B) : OwnP w' b t v ps := by
  obtain ⟨us, ho, ht, hu⟩ := h
  refine ⟨us, own_below ho hb (fun k hk => ?_), ht, fun j x p h1 h2 => ⟨own_below (hu j x p h1 h2).1 hb (fun k hk => ?_), (hu j x p h1 h2).2⟩⟩
  · have h1 := ht k hk
    omega
  · have h3 := (hu j x p h1 h2).2 k hk
    omega

theorem walkRead (s : ByteArray) (w : World) (hl : Laid w) (hm : s.size ≤ maxLen) :
    Calls Tryd.prog 3 #[.string s] w fun r w' => r = .returned (.bool true) ∧ Below w.heap.size w w' := by
  by_cases h20 : 1048576 < s.size
  · have h9 : (1048576 : Int) < (s.size : Int) := by omega
    go_enter Tryd.func3, Tryd.ntmps3
    go_wp2
    go_ret
    exact ⟨rfl, Below.refl _ _⟩
  have h9 : ¬ (1048576 : Int) < (s.size : Int) := by omega
  go_enter Tryd.func3, Tryd.ntmps3
  go_wp2_with fail
  go_at_call 4
  refine (specRead s _ (by omega)).mono ?_
  rintro e w1 ⟨u, us, ps, b, rfl, b1, o1, hR, hz⟩
  obtain ⟨ua, um, uc, rfl⟩ := own_slice o1.row
  have HZ : Hid (b = false → ps = []) := fun h => (hz h).2.2
  have HR : Hid _ := hR
  obtain ⟨h4, h12⟩ := read_small HR.out HZ.out
  have hpl : ps.length ≤ maxLen := by unfold maxLen; omega
  have hpp : ∀ p ∈ ps, p.length ≤ maxLen := fun p hp => by have := h12 p hp; unfold maxLen; omega
  have hq1 : ps.length ≤ 1048576 := by omega
  have hq2 : ∀ p ∈ ps, p.length ≤ 1048576 := fun p hp => by have := h12 p hp; omega
  have htl := tot13_le ps hq2
  obtain ⟨w2, hw2⟩ : ∃ w2, w1.alloc (.cells #[.slice ua um uc] 24) = w2 := ⟨_, rfl⟩
  have c2 : Below w1.heap.size w1 w2 := by rw [← hw2]; go_grown
  have A2 : Hid (w2.heap[w1.heap.size]? = some (.cells #[.slice ua um uc] 24 (0, 0))) := by show w2.heap[w1.heap.size]? = _; rw [← hw2]; exact heap_alloc_new _ _
  have B2 : Hid (Below w.heap.size w w2) := b1.trans (c2.mono b1.size)
  have O2 : Hid (OwnP w2 w.heap.size w2.heap.size (.slice ua um uc) ps) := (o1.kept c2).ownP
  have HW2 : Hid _ := hw2
  clear hw2 c2 b1 o1 hR hz
  go_wp2_with fail
  rw [HW2.out]
  clear HW2
  go_at_call 5
  refine (implRead s _ (hl.below B2.out) (by omega)).mono ?_
  rintro e w3 ⟨v, vs, qs, c, rfl, c3, o3, hR3, hz3⟩
  obtain ⟨rfl, rfl⟩ := read_one HR.out HZ.out hR3 (fun h => (hz3 h).2.2)
  obtain ⟨va, vm, vc, rfl⟩ := own_slice o3.row
  obtain ⟨w4, hw4⟩ : ∃ w4, w3.alloc (.cells #[.slice va vm vc] 24) = w4 := ⟨_, rfl⟩
  have c4 : Below w3.heap.size w3 w4 := by rw [← hw4]; go_grown
  have G4 : Hid (w4.heap[w3.heap.size]? = some (.cells #[.slice va vm vc] 24 (0, 0))) := by show w4.heap[w3.heap.size]? = _; rw [← hw4]; exact heap_alloc_new _ _
  have c24 : Below w2.heap.size w2 w4 := c3.trans (c4.mono c3.size)
  have B4 : Hid (Below w.heap.size w w4) := B2.out.trans (c24.mono B2.out.size)
  have A4 : Hid (w4.heap[w1.heap.size]? = some (.cells #[.slice ua um uc] 24 (0, 0))) := (c24.block _ (Array.getElem?_eq_some_iff.1 A2.out).1).trans A2.out
  have O4 : Hid (OwnP w4 w.heap.size w2.heap.size (.slice ua um uc) qs) := ownP_belowR O2.out c24 (Nat.le_refl _)
  have P4 : Hid (Own13 w4 w2.heap.size (.slice va vm vc) vs qs) := o3.kept c4
  have z24 := c24.size
  have zA := (Array.getElem?_eq_some_iff.1 A2.out).1
  have HB2Z : Hid (w.heap.size ≤ w2.heap.size) := B2.out.size
  obtain ⟨x0, -⟩ := one_cell G4.out
  obtain ⟨y0, -⟩ := one_cell A4.out
  clear c4 c3 o3 hR3 hz3 A2 B2 c24
  clear O2
  go_wp2_with fail
  clear hw4
  go_at_call 6
  refine (eqProgram qs _ _ _ hpl hpp (readsP_own P4.out.ownP) (readsP_own O4.out)).mono ?_
  rintro e w5 ⟨rfl, c5⟩
  have z5 := c5.size
  have G5 : Hid (w5.heap[w3.heap.size]? = some (.cells #[.slice va vm vc] 24 (0, 0))) := (c5.block _ (Array.getElem?_eq_some_iff.1 G4.out).1).trans G4.out
  have A5 : Hid (w5.heap[w1.heap.size]? = some (.cells #[.slice ua um uc] 24 (0, 0))) := (c5.block _ (Array.getElem?_eq_some_iff.1 A4.out).1).trans A4.out
  have B5 : Hid (Below w.heap.size w w5) := B4.out.trans (c5.mono B4.out.size)
  have O5 : Hid (OwnP w5 w.heap.size w2.heap.size (.slice ua um uc) qs) := ownP_belowR O4.out c5 z24
  have P5 : Hid (Own13 w5 w2.heap.size (.slice va vm vc) vs qs) := P4.out.kept c5
  clear x0 y0 G4 A4 B4 O4 P4 c5
  obtain ⟨x0, -⟩ := one_cell G5.out
  go_wp2_with fail
  go_at_call 7
  refine (markProgramX qs _ w2.heap.size vs w5 hq1 hq2 P5.out (by omega)).mono ?_
  rintro e w6 ⟨rfl, og6, b6, t6⟩
  have G6 : Hid (w6.heap[w3.heap.size]? = some (.cells #[.slice va vm vc] 24 (0, 0))) := t6 _ _ _ _ G5.out (by decide)
  have A6 : Hid (w6.heap[w1.heap.size]? = some (.cells #[.slice ua um uc] 24 (0, 0))) := t6 _ _ _ _ A5.out (by decide)
  have P6 : Hid (Own13 w6 w2.heap.size (.slice va vm vc) vs (marks13 1 qs)) := og6
  have z6 := b6.size
  have O6 : Hid (OwnP w6 w.heap.size w2.heap.size (.slice ua um uc) qs) := ownP_belowR O5.out b6 (Nat.le_refl _)
  have B6 : Hid (Below w.heap.size w w6) := B5.out.trans (b6.mono HB2Z.out)
  have hk1 : (decide ((1 : Int) + 3 * (tot13 qs : Int) < 0)) = false := by simp; omega
  clear x0 G5 A5 B5 O5 P5 og6 b6 t6
  obtain ⟨x0, -⟩ := one_cell G6.out
  go_wp2_with fail
  go_at_call 8
  refine (heldProgramX qs _ w2.heap.size vs w6 hq1 hq2 P6.out).mono ?_
  rintro e w7 ⟨rfl, c7⟩
  have z7 := c7.size
  have G7 : Hid (w7.heap[w3.heap.size]? = some (.cells #[.slice va vm vc] 24 (0, 0))) := (c7.block _ (Array.getElem?_eq_some_iff.1 G6.out).1).trans G6.out
  have A7 : Hid (w7.heap[w1.heap.size]? = some (.cells #[.slice ua um uc] 24 (0, 0))) := (c7.block _ (Array.getElem?_eq_some_iff.1 A6.out).1).trans A6.out
  have B7 : Hid (Below w.heap.size w w7) := B6.out.trans (c7.mono B6.out.size)
  have O7 : Hid (OwnP w7 w.heap.size w2.heap.size (.slice ua um uc) qs) := ownP_belowR O6.out c7 (by omega)
  have P7 : Hid (Own13 w7 w2.heap.size (.slice va vm vc) vs (marks13 1 qs)) := P6.out.kept c7
  clear x0 G6 A6 B6 O6 P6 c7
  go_wp2_with fail
  go_at_call 5
  refine (implRead s _ (hl.below B7.out) (by omega)).mono ?_
  rintro e w8 ⟨y, ys, rs, d, rfl, c8, o8, hR8, hz8⟩
  obtain ⟨rfl, rfl⟩ := read_one HR.out HZ.out hR8 (fun h => (hz8 h).2.2)
  obtain ⟨ya, ym, yc, rfl⟩ := own_slice o8.row
  obtain ⟨w9, hw9⟩ : ∃ w9, w8.alloc (.cells #[.slice ya ym yc] 24) = w9 := ⟨_, rfl⟩
  have c9 : Below w8.heap.size w8 w9 := by rw [← hw9]; go_grown
  have H9 : Hid (w9.heap[w8.heap.size]? = some (.cells #[.slice ya ym yc] 24 (0, 0))) := by show w9.heap[w8.heap.size]? = _; rw [← hw9]; exact heap_alloc_new _ _
  have c79 : Below w7.heap.size w7 w9 := c8.trans (c9.mono c8.size)
  have z9 := c79.size
  have G9 : Hid (w9.heap[w3.heap.size]? = some (.cells #[.slice va vm vc] 24 (0, 0))) := (c79.block _ (Array.getElem?_eq_some_iff.1 G7.out).1).trans G7.out
  have A9 : Hid (w9.heap[w1.heap.size]? = some (.cells #[.slice ua um uc] 24 (0, 0))) := (c79.block _ (Array.getElem?_eq_some_iff.1 A7.out).1).trans A7.out
  have B9 : Hid (Below w.heap.size w w9) := B7.out.trans (c79.mono B7.out.size)
  have O9 : Hid (OwnP w9 w.heap.size w2.heap.size (.slice ua um uc) rs) := ownP_belowR O7.out c79 (by omega)
  have P9 : Hid (Own13 w9 w2.heap.size (.slice va vm vc) vs (marks13 1 rs)) := P7.out.kept c79
  have Y9 : Hid (Own13 w9 w7.heap.size (.slice ya ym yc) ys rs) := o8.kept c9
  obtain ⟨x9, -⟩ := one_cell H9.out
  obtain ⟨y9, -⟩ := one_cell A9.out
  clear c8 c9 o8 hR8 hz8 G7 A7 B7 O7 P7 c79
  go_wp2_with fail
  clear hw9
  go_at_call 6
  refine (eqProgram rs _ _ _ hpl hpp (readsP_own Y9.out.ownP) (readsP_own O9.out)).mono ?_
  rintro e w10 ⟨rfl, c10⟩
  have G10 : Hid (w10.heap[w3.heap.size]? = some (.cells #[.slice va vm vc] 24 (0, 0))) := (c10.block _ (Array.getElem?_eq_some_iff.1 G9.out).1).trans G9.out
  have B10 : Hid (Below w.heap.size w w10) := B9.out.trans (c10.mono B9.out.size)
  have P10 : Hid (Own13 w10 w2.heap.size (.slice va vm vc) vs (marks13 1 rs)) := P9.out.kept c10
  clear x9 y9 H9 G9 A9 B9 O9 P9 Y9 c10
  obtain ⟨x0, -⟩ := one_cell G10.out
  go_wp2_with fail
  go_at_call 8
  refine (heldProgramX rs _ w2.heap.size vs w10 hq1 hq2 P10.out).mono ?_
  rintro e w11 ⟨rfl, c11⟩
  have B11 : Hid (Below w.heap.size w w11) := B10.out.trans (c11.mono B10.out.size)
  clear x0 G10 B10 P10 c11
  go_wp2
  go_ret
  exact ⟨rfl, B11.out⟩

end Go.Proofs.YtbbcbfhijmhnkaaDoor
