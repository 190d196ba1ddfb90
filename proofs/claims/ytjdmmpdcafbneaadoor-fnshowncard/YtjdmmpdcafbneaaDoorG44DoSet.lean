/-
  Put together out of: ImplRd, DoSet.
-/
import Derived.Test.YtjdmmpdcafbneaaDoorPrgIn
import Derived.Test.YtjdmmpdcafbneaaDoorDo13M
import Derived.BigRegion
/-
  Chapter 13, texts: impl.ReadProgram.
-/
namespace Go.Proofs.YtjdmmpdcafbneaaDoor
open Go.RowKit
set_option linter.unusedVariables false
set_option linter.unusedSimpArgs false
set_option maxHeartbeats 4000000
set_option maxRecDepth 20000

theorem implRead (s : ByteArray) (w : World) (hl : Laid w) (hs : s.size ≤ 1048576) : Calls Tryd.prog 8 #[.string s] w (RpP s w) := by
  have hsz := toL_len s
  have hn := heap_alloc_new w (.cells #[.slice none 0 0] 26)
  obtain ⟨d0, f0⟩ := one_cell hn
  have HB0 : Hid (Below w.heap.size w (w.alloc (.cells #[.slice none 0 0] 26))) := by show Below _ _ _; go_grown
  by_cases h0 : s.size = 0
  · have he : s = ⟨#[]⟩ := by
      cases s with
      | mk d => simp at h0; rw [h0]; rfl
    subst he
    have HN : Hid (IsRead (toL ⟨#[]⟩) none) := isRead_nothing
    clear hsz h0 hn
    go_enter Tryd.func8, Tryd.ntmps8
    go_wp2
    refine bodyPost_ret (v := .tuple #[.agg #[.slice none 0 0], .bool false]) (by simp [results, Tryd.results8, go_sem, d0]) rfl ?_
    exact rp_no HN.out HB0.out
  have p0i : (0 : Int) < (s.size : Int) := by omega
  have hne : toL s ≠ [] := fun e => by rw [e] at hsz; simp at hsz; omega
  have hem : s.toList.isEmpty = false := by
    cases hq : s.toList with
    | nil =>
      have h9 := congrArg List.length hq
      rw [ByteArray.toList_eq] at h9
      exact absurd (hsz.symm.trans h9) h0
    | cons _ _ => rfl
  by_cases h1000 : 1000 < s.size
  · have h9 : (1000 : Int) < (s.size : Int) := by omega
    have HN : Hid (IsRead (toL s) none) := isRead_long (by omega)
    clear hsz h0 hn hne
    go_enter Tryd.func8, Tryd.ntmps8
    go_wp2
    refine bodyPost_ret (v := .tuple #[.agg #[.slice none 0 0], .bool false]) (by simp [results, Tryd.results8, go_sem, d0]) rfl ?_
    exact rp_no HN.out HB0.out
  · have h9 : ¬ (1000 : Int) < (s.size : Int) := by omega
    have HNE : Hid _ := hne
    obtain ⟨W0, hW0⟩ : ∃ W0, w.alloc (.cells #[.slice none 0 0] 26) = W0 := ⟨_, rfl⟩
    rw [hW0] at HB0 hn
    have HW0 : Hid _ := hW0
    clear hsz h0 hne d0 f0 hW0
    go_enter Tryd.func8, Tryd.ntmps8
    go_wp2_with fail
    rw [HW0.out]
    go_at_call 21
    refine (programIn s _ (hl.below HB0.out) (by omega)).mono ?_
    rintro e w1 ⟨u, us, ps, rfl, c1, o1, hps⟩
    obtain ⟨ua, um, uc, rfl⟩ := own_slice o1.row
    have HIS : Hid (IsRead (toL s) (if showA ps = toL s then some ps else none)) := isRead_again HNE.out hps
    have B1 : Below w.heap.size w w1 := HB0.out.trans (c1.mono HB0.out.size)
    have R1 := (c1.block _ (Array.getElem?_eq_some_iff.1 hn).1).trans hn
    obtain ⟨w2, hw2⟩ : ∃ w2, w1.alloc (.cells #[.slice ua um uc] 26) = w2 := ⟨_, rfl⟩
    have c2 : Below w1.heap.size w1 w2 := by rw [← hw2]; go_grown
    have Q2 : w2.heap[w1.heap.size]? = some (.cells #[.slice ua um uc] 26 (0, 0)) := by rw [← hw2]; exact heap_alloc_new _ _
    have B2 : Below w.heap.size w w2 := B1.trans (c2.mono B1.size)
    have R2 := (c2.block _ (Array.getElem?_eq_some_iff.1 R1).1).trans R1
    have o2 := o1.kept c2
    have y2 := (one_cell Q2).1
    obtain ⟨hpl, hpp⟩ := o2.small
    have hsh := implShow ps (.slice ua um uc) w2 hpl hpp (readsP_own o2.ownP)
    have zz := HB0.out.size
    have HW2 : Hid _ := hw2
    have HOZ : Hid (w.heap.size ≤ W0.heap.size) := zz
    clear hw2 c1 o1 hps B1 R1 c2 HW0 hpl hpp zz
    by_cases hEq : showA ps = toL s
    · have hbN : (showA ps == s.toList) = true := by rw [beq_iff_eq, ByteArray.toList_eq]; exact hEq
      have hbM : showA ps = s.toList := by rw [ByteArray.toList_eq]; exact hEq
      have HI2 : Hid (IsRead (toL s) (some ps)) := by have := HIS.out; rw [if_pos hEq] at this; exact this
      clear hEq HIS
      go_wp2_with fail
      rw [HW2.out]
      go_at_call 6
      refine hsh.mono ?_
      rintro e w3 ⟨rfl, c3⟩
      have B3 : Below w.heap.size w w3 := B2.trans (c3.mono B2.size)
      have R3 := (c3.block _ (Array.getElem?_eq_some_iff.1 R2).1).trans R2
      have Q3 := (c3.block _ (Array.getElem?_eq_some_iff.1 Q2).1).trans Q2
      have o3 := o2.kept c3
      have y3 := (one_cell Q3).1
      obtain ⟨e3, f3⟩ := one_cell R3
      have e4 := (one_cell (one_set R3 (.slice ua um uc))).1
      have HB4 : Hid (Below w.heap.size w (w3.setCell ⟨w.heap.size, 0, none⟩ (.slice ua um uc))) := B3.setCell (Nat.le_refl _) _
      have HN0 : Hid (w.heap.size < W0.heap.size) := (Array.getElem?_eq_some_iff.1 hn).1
      have HO4 : Hid (Own13 (w3.setCell ⟨w.heap.size, 0, none⟩ (.slice ua um uc)) w.heap.size (.slice ua um uc) us ps) := (o3.grown (grown_setRow13 _ _ _ _) (fun k hk => .inl (by have := Option.some.inj hk; have := HN0.out; omega))).mono HOZ.out
      clear hsh c3 B2 R2 Q2 o2 B3 R3 Q3 o3 hn HW2
      go_wp2
      refine bodyPost_ret (v := .tuple #[.agg #[.slice ua um uc], .bool true]) (by simp [results, Tryd.results8, go_sem, e4]) rfl ?_
      exact rp_yes HI2.out HB4.out HO4.out
    · have hbN : (showA ps == s.toList) = false := by rw [beq_eq_false_iff_ne, ByteArray.toList_eq]; exact hEq
      have hbM : ¬ showA ps = s.toList := by rw [ByteArray.toList_eq]; exact hEq
      have HI2 : Hid (IsRead (toL s) none) := by have := HIS.out; rw [if_neg hEq] at this; exact this
      clear hEq HIS
      go_wp2_with fail
      rw [HW2.out]
      go_at_call 6
      refine hsh.mono ?_
      rintro e w3 ⟨rfl, c3⟩
      have B3 : Below w.heap.size w w3 := B2.trans (c3.mono B2.size)
      have R3 := (c3.block _ (Array.getElem?_eq_some_iff.1 R2).1).trans R2
      obtain ⟨e3, f3⟩ := one_cell R3
      have e4 := (one_cell (one_set R3 (.slice none 0 0))).1
      have HB4 : Hid (Below w.heap.size w (w3.setCell ⟨w.heap.size, 0, none⟩ (.slice none 0 0))) := B3.setCell (Nat.le_refl _) _
      clear hsh c3 B2 R2 Q2 o2 B3 R3 hn HW2
      go_wp2
      refine bodyPost_ret (v := .tuple #[.agg #[.slice none 0 0], .bool false]) (by simp [results, Tryd.results8, go_sem, e4]) rfl ?_
      exact rp_no HI2.out HB4.out

end Go.Proofs.YtjdmmpdcafbneaaDoor

/-
  spec.l13Do: a statement in place of another.
-/
namespace Go.Proofs.YtjdmmpdcafbneaaDoor
open Go.RowKit
set_option linter.unusedVariables false
set_option linter.unusedSimpArgs false
set_option maxHeartbeats 8000000
set_option maxRecDepth 20000

theorem cells3_set3 : ∀ (L : List Stm) (j : Nat) (k x y : Int), j < L.length → (((cells3 L).set (j * 3) (.int .i64 k)).set (j * 3 + 1) (.int .i64 x)).set (j * 3 + 2) (.int .i64 y) = cells3 (L.set j ⟨k, x, y⟩)
  | [], j, k, x, y, h => by simp at h
  | t :: L, 0, k, x, y, h => rfl
  | t :: L, j + 1, k, x, y, h => by
    have ih := cells3_set3 L j k x y (by simpa using h)
    have e1 : (j + 1) * 3 = j * 3 + 1 + 1 + 1 := by omega
    have e2 : (j + 1) * 3 + 1 = j * 3 + 1 + 1 + 1 + 1 := by omega
    have e3 : (j + 1) * 3 + 2 = j * 3 + 2 + 1 + 1 + 1 := by omega
    rw [e2, e3, e1]
    simp only [cells3, List.set_cons_succ, ih]

theorem edSet_eq (p : List Stm) (j : Nat) (s : Stm) (h : j < p.length) : edSet p j s = p.set j s := by
  unfold edSet
  rw [List.set_eq_take_append_cons_drop, if_pos h]

theorem own_set3 {w : World} {base g m c j : Nat} {p : List Stm} (h : w.ownsRow base 42 3 (.slice (some ⟨g, 0, none⟩) m c) m (cells3 p)) (hm : p.length = m) (hj : j < m) (k x y : Int) :
    (((w.setCell ⟨g, j * 3, none⟩ (.int .i64 k)).setCell ⟨g, j * 3 + 1, none⟩ (.int .i64 x)).setCell ⟨g, j * 3 + 2, none⟩ (.int .i64 y)).ownsRow base 42 3 (.slice (some ⟨g, 0, none⟩) m c) m (cells3 (edSet p j ⟨k, x, y⟩)) := by
  have h3 := (((h.stored (j * 3) (.int .i64 k)).1.stored (j * 3 + 1) (.int .i64 x)).1.stored (j * 3 + 2) (.int .i64 y)).1
  rw [cells3_set3 p j k x y (by omega)] at h3
  rw [edSet_eq _ _ _ (by omega)]
  exact h3

end Go.Proofs.YtjdmmpdcafbneaaDoor
