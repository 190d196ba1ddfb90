/-
  laws.markProgram, laws.heldProgram: the marks of a Program whose rows are apart; laws.toEdit.
-/
import Derived.Test.YtocdcmdllacgnaaSpecEd
import Derived.Test.YtocdcmdllacgnaaMarkProg
namespace Go.Proofs.Ytocdcmdllacgnaa
open Go.RowKit
set_option linter.unusedVariables false
set_option linter.unusedSimpArgs false
set_option maxHeartbeats 2000000
set_option maxRecDepth 20000

/-- Statements that bear the numbers from k on. -/
def markSt : Int → Nat → List Stm
  | _, 0 => []
  | k, n + 1 => ⟨k, k + 1, k + 2⟩ :: markSt (k + 3) n
theorem markSt_length : ∀ (n : Nat) (k : Int), (markSt k n).length = n
  | 0, k => rfl
  | n + 1, k => by simp [markSt, markSt_length n]
theorem markSt_get : ∀ (n : Nat) (k : Int) (j : Nat), j < n → (markSt k n)[j]? = some ⟨k + 3 * j, k + 3 * j + 1, k + 3 * j + 2⟩
  | 0, k, j, h => by omega
  | n + 1, k, 0, h => by simp [markSt]
  | n + 1, k, j + 1, h => by
    simp only [markSt, List.getElem?_cons_succ]
    rw [markSt_get n (k + 3) j (by omega)]
    congr 2 <;> push_cast <;> omega
/-- The first j bear their marks. -/
def markPart (k : Int) (L : List Stm) (j : Nat) : List Stm := (markSt k L.length).take j ++ L.drop j
theorem markPart_zero (k : Int) (L : List Stm) : markPart k L 0 = L := by simp [markPart]
theorem markPart_all (k : Int) (L : List Stm) : markPart k L L.length = markSt k L.length := by
  unfold markPart
  rw [List.take_of_length_le (by rw [markSt_length]; exact Nat.le_refl _)]
  simp
theorem markPart_length (k : Int) (L : List Stm) (j : Nat) (h : j ≤ L.length) : (markPart k L j).length = L.length := by simp [markPart, markSt_length]; omega
theorem markPart_succ (k : Int) (L : List Stm) (j : Nat) (h : j < L.length) : markPart k L (j + 1) = (markPart k L j).set j ⟨k + 3 * j, k + 3 * j + 1, k + 3 * j + 2⟩ := by
  unfold markPart
  have hl : ((markSt k L.length).take j).length = j := by simp [markSt_length]; omega
  have hg := markSt_get L.length k j h
  obtain ⟨hlt, hge⟩ := List.getElem?_eq_some_iff.1 hg
  rw [List.set_append_right _ _ (by omega), hl, Nat.sub_self, List.drop_eq_getElem_cons h, List.set_cons_zero, List.take_succ_eq_append_getElem hlt, hge, List.append_assoc]
  rfl

/-- Programs that bear the numbers from k on. -/
def tot13 : List (List Stm) → Nat
  | [] => 0
  | p :: ps => p.length + tot13 ps
def marks13 : Int → List (List Stm) → List (List Stm)
  | _, [] => []
  | k, p :: ps => markSt k p.length :: marks13 (k + 3 * p.length) ps
theorem marks13_length : ∀ (ps : List (List Stm)) (k : Int), (marks13 k ps).length = ps.length
  | [], k => rfl
  | p :: ps, k => by simp [marks13, marks13_length ps]
theorem tot13_append : ∀ (a b : List (List Stm)), tot13 (a ++ b) = tot13 a + tot13 b
  | [], b => by simp [tot13]
  | x :: a, b => by simp [tot13, tot13_append a b]; omega
theorem tot13_take (ps : List (List Stm)) (j : Nat) (h : j < ps.length) : tot13 (ps.take (j + 1)) = tot13 (ps.take j) + ps[j].length := by
  rw [List.take_succ_eq_append_getElem h, tot13_append]
  simp [tot13]
theorem tot13_le : ∀ (ps : List (List Stm)), (∀ p ∈ ps, p.length ≤ 1048576) → tot13 ps ≤ 1048576 * ps.length
  | [], _ => by simp [tot13]
  | x :: ps, h => by
    have h1 := tot13_le ps (fun y hy => h y (by simp [hy]))
    have h2 := h x (by simp)
    simp only [tot13, List.length_cons]
    omega
theorem marks13_get : ∀ (ps : List (List Stm)) (k : Int) (j : Nat) (h : j < ps.length), (marks13 k ps)[j]? = some (markSt (k + 3 * tot13 (ps.take j)) ps[j].length)
  | [], k, j, h => by simp at h
  | p :: ps, k, 0, h => by simp [marks13, tot13]
  | p :: ps, k, j + 1, h => by
    simp only [marks13, List.getElem?_cons_succ]
    rw [marks13_get ps (k + 3 * p.length) j (by simpa using h)]
    simp only [List.take_succ_cons, tot13, List.getElem_cons_succ]
    congr 2
    push_cast
    omega
/-- The first j bear their marks. -/
def mpart13 (k : Int) (ps : List (List Stm)) (j : Nat) : List (List Stm) := (marks13 k ps).take j ++ ps.drop j
theorem mpart13_zero (k : Int) (ps : List (List Stm)) : mpart13 k ps 0 = ps := by simp [mpart13]
theorem mpart13_all (k : Int) (ps : List (List Stm)) : mpart13 k ps ps.length = marks13 k ps := by
  unfold mpart13
  rw [List.take_of_length_le (by rw [marks13_length]; exact Nat.le_refl _)]
  simp
theorem mpart13_length (k : Int) (ps : List (List Stm)) (j : Nat) (h : j ≤ ps.length) : (mpart13 k ps j).length = ps.length := by simp [mpart13, marks13_length]; omega
theorem mpart13_get (k : Int) (ps : List (List Stm)) (j : Nat) (h : j < ps.length) : (mpart13 k ps j)[j]? = some ps[j] := by
  unfold mpart13
  have hl : ((marks13 k ps).take j).length = j := by simp [marks13_length]; omega
  rw [List.getElem?_append_right (by omega), hl, Nat.sub_self, List.getElem?_drop]
  simp [h]
theorem mpart13_succ (k : Int) (ps : List (List Stm)) (j : Nat) (h : j < ps.length) : mpart13 k ps (j + 1) = (mpart13 k ps j).set j (markSt (k + 3 * tot13 (ps.take j)) ps[j].length) := by
  unfold mpart13
  have hl : ((marks13 k ps).take j).length = j := by simp [marks13_length]; omega
  obtain ⟨hlt, hge⟩ := List.getElem?_eq_some_iff.1 (marks13_get ps k j h)
  rw [List.set_append_right _ _ (by omega), hl, Nat.sub_self, List.drop_eq_getElem_cons h, List.set_cons_zero, List.take_succ_eq_append_getElem hlt, hge, List.append_assoc]
  rfl

/-- A row is another, in the same place, whatever its value. -/
theorem Own13.updV {W w' : World} {base i : Nat} {v x : Value} {us : List Value} {ps : List (List Stm)} {L : List Stm} (h : Own13 W base v us ps) (hi : i < ps.length) (hui : us[i]? = some x) (hg : W.grownBy w' x.ownBlock)
    (ho : w'.ownsRow base 28 3 x L.length (cells3 L)) : Own13 w' base v us (ps.set i L) := by
  obtain ⟨p, hp⟩ : ∃ p, ps[i]? = some p := ⟨ps[i], by simp [hi]⟩
  have hoi := h.each i _ p hui hp
  refine ⟨by rw [List.length_set]; exact own_grown h.row hg (fun k hk e => kind13 hoi h.row (by decide) k e hk), fun j u r h1 h2 => ?_, h.ap⟩
  by_cases e : i = j
  · subst e
    rw [hui] at h1
    rw [List.getElem?_set_self hi] at h2
    cases h1; cases h2
    exact ho
  · rw [List.getElem?_set_ne e] at h2
    have h3 := h.each j u r h1 h2
    exact own_grown h3 hg (fun k hk e' => h.ap j i u _ k (fun e2 => e e2.symm) h1 hui hk e')

/-- Blocks that hold no statements stay. -/
def OtherT (w w' : World) : Prop := ∀ (b : Nat) (C : Array Value) (t : TypeId) (q : Nat × Nat), w.heap[b]? = some (.cells C t q) → t ≠ 28 → w'.heap[b]? = some (.cells C t q)
theorem OtherT.refl (w : World) : OtherT w w := fun _ _ _ _ h _ => h
theorem OtherT.trans {a b c : World} (h : OtherT a b) (k : OtherT b c) : OtherT a c := fun i C t q hi ht => k i C t q (h i C t q hi ht) ht
theorem OtherT.below {a b : World} (h : Below a.heap.size a b) : OtherT a b := fun i C t q hi _ => (h.block i (Array.getElem?_eq_some_iff.1 hi).1).trans hi
theorem OtherT.own {w w' : World} {base n : Nat} {u : Value} {xs : List Value} (h : w.ownsRow base 28 3 u n xs) (hg : w.grownBy w' u.ownBlock) : OtherT w w' := fun i C t q hi ht => by
  refine (hg.block i (Array.getElem?_eq_some_iff.1 hi).1 (fun e => ?_)).trans hi
  rcases h.2 with ⟨rfl, _⟩ | ⟨g, cap, cur, rfl, _, h4, _⟩
  · cases e
  · obtain rfl : i = g := Option.some.inj e
    rw [hi] at h4
    injection h4 with h4
    injection h4 with _ h4
    exact ht h4

theorem six_cells {w : World} {b : Nat} {x0 x1 x2 x3 x4 x5 : Value} {T : TypeId} (h : w.heap[b]? = some (.cells #[x0, x1, x2, x3, x4, x5] T (0, 0))) :
    (w.cell? ⟨b, 0, none⟩ = some x0 ∧ w.cell? ⟨b, 1, none⟩ = some x1 ∧ w.cell? ⟨b, 2, none⟩ = some x2 ∧ w.cell? ⟨b, 3, none⟩ = some x3 ∧ w.cell? ⟨b, 4, none⟩ = some x4 ∧ w.cell? ⟨b, 5, none⟩ = some x5) ∧ ∀ o, w.frozen? ⟨b, o, none⟩ = false := by
  refine ⟨⟨?_, ?_, ?_, ?_, ?_, ?_⟩, fun o => frozen_of_row w b o _ T h⟩ <;> simp [World.cell?, h]

theorem toEdit (e : Edt) (w : World) : Calls Try.prog 15 #[edV e] w fun r w' => r = .returned (edV e) ∧ Below w.heap.size w w' := by
  obtain ⟨k, pr, a, ⟨sk, sx, sy⟩⟩ := e
  unfold edV
  simp only
  go_enter Try.func15, Try.ntmps15
  go_wp2_with fail
  obtain ⟨W0, hW0⟩ : ∃ W0, ((w.alloc (.cells #[.int .i64 k, .int .i64 pr, .int .i64 a, .int .i64 sk, .int .i64 sx, .int .i64 sy] 44)).alloc (.cells #[.int .i64 0, .int .i64 0, .int .i64 0, .int .i64 0, .int .i64 0, .int .i64 0] 30)).alloc (.cells #[.int .i64 k, .int .i64 pr, .int .i64 a, .int .i64 0, .int .i64 0, .int .i64 0] 30) = W0 := ⟨_, rfl⟩
  have b0 : Below w.heap.size w W0 := by rw [← hW0]; go_grown
  have s0 : W0.heap.size = w.heap.size + 3 := by rw [← hW0]; simp
  have H1 : W0.heap[w.heap.size + 1]? = some (.cells #[.int .i64 0, .int .i64 0, .int .i64 0, .int .i64 0, .int .i64 0, .int .i64 0] 30 (0, 0)) := by
    rw [← hW0, old_block (by simp)]
    have := heap_alloc_new (w.alloc (.cells #[.int .i64 k, .int .i64 pr, .int .i64 a, .int .i64 sk, .int .i64 sx, .int .i64 sy] 44)) (.cells #[.int .i64 0, .int .i64 0, .int .i64 0, .int .i64 0, .int .i64 0, .int .i64 0] 30)
    simpa using this
  have H2 : W0.heap[w.heap.size + 1 + 1]? = some (.cells #[.int .i64 k, .int .i64 pr, .int .i64 a, .int .i64 0, .int .i64 0, .int .i64 0] 30 (0, 0)) := by
    rw [← hW0]
    have := heap_alloc_new ((w.alloc (.cells #[.int .i64 k, .int .i64 pr, .int .i64 a, .int .i64 sk, .int .i64 sx, .int .i64 sy] 44)).alloc (.cells #[.int .i64 0, .int .i64 0, .int .i64 0, .int .i64 0, .int .i64 0, .int .i64 0] 30)) (.cells #[.int .i64 k, .int .i64 pr, .int .i64 a, .int .i64 0, .int .i64 0, .int .i64 0] 30)
    simpa using this
  rw [hW0]
  clear hW0
  refine (toStmt sk sx sy W0).mono ?_
  rintro e w1 ⟨rfl, b1⟩
  have B1 : Below w.heap.size w w1 := b0.trans (b1.mono b0.size)
  have R1 := (b1.block _ (by omega)).trans H1
  have O1 := (b1.block _ (by omega)).trans H2
  obtain ⟨⟨_, _, _, o3, o4, o5⟩, fo⟩ := six_cells O1
  have g3 := fo 3
  have g4 := fo 4
  have g5 := fo 5
  have O2 : (((w1.setCell ⟨w.heap.size + 1 + 1, 3, none⟩ (.int .i64 sk)).setCell ⟨w.heap.size + 1 + 1, 4, none⟩ (.int .i64 sx)).setCell ⟨w.heap.size + 1 + 1, 5, none⟩ (.int .i64 sy)).heap[w.heap.size + 1 + 1]? = some (.cells #[.int .i64 k, .int .i64 pr, .int .i64 a, .int .i64 sk, .int .i64 sx, .int .i64 sy] 30 (0, 0)) := by
    have h1 := heap_setCell_same w1 (w.heap.size + 1 + 1) 3 _ _ (.int .i64 sk) O1
    have h2 := heap_setCell_same _ (w.heap.size + 1 + 1) 4 _ _ (.int .i64 sx) h1
    have h3 := heap_setCell_same _ (w.heap.size + 1 + 1) 5 _ _ (.int .i64 sy) h2
    rw [h3]
    simp
  have R2 : (((w1.setCell ⟨w.heap.size + 1 + 1, 3, none⟩ (.int .i64 sk)).setCell ⟨w.heap.size + 1 + 1, 4, none⟩ (.int .i64 sx)).setCell ⟨w.heap.size + 1 + 1, 5, none⟩ (.int .i64 sy)).heap[w.heap.size + 1]? = _ := (Below.heap_setCell _ _ _ _ (by simp)).trans ((Below.heap_setCell _ _ _ _ (by simp)).trans ((Below.heap_setCell _ _ _ _ (by simp)).trans R1))
  have HB2 : Hid (Below w.heap.size w (((w1.setCell ⟨w.heap.size + 1 + 1, 3, none⟩ (.int .i64 sk)).setCell ⟨w.heap.size + 1 + 1, 4, none⟩ (.int .i64 sx)).setCell ⟨w.heap.size + 1 + 1, 5, none⟩ (.int .i64 sy))) := ((B1.setCell (by simp; omega) _).setCell (by simp; omega) _).setCell (by simp; omega) _
  obtain ⟨⟨p0, p1, p2, p3, p4, p5⟩, fp⟩ := six_cells O2
  obtain ⟨⟨r0, r1, r2, r3, r4, r5⟩, fr⟩ := six_cells R2
  have HR2 : Hid _ := R2
  have x0 := fr 0
  have x1 := fr 1
  have x2 := fr 2
  have x3 := fr 3
  have x4 := fr 4
  have x5 := fr 5
  clear R1 O1 O2 R2 fo fp fr H1 H2 b0 b1 B1 s0
  generalize hw2 : ((w1.setCell ⟨w.heap.size + 1 + 1, 3, none⟩ (.int .i64 sk)).setCell ⟨w.heap.size + 1 + 1, 4, none⟩ (.int .i64 sx)).setCell ⟨w.heap.size + 1 + 1, 5, none⟩ (.int .i64 sy) = w2 at *
  go_wp2
  have R3 : ((((((w2.setCell ⟨w.heap.size + 1, 0, none⟩ (.int .i64 k)).setCell ⟨w.heap.size + 1, 1, none⟩ (.int .i64 pr)).setCell ⟨w.heap.size + 1, 2, none⟩ (.int .i64 a)).setCell ⟨w.heap.size + 1, 3, none⟩ (.int .i64 sk)).setCell ⟨w.heap.size + 1, 4, none⟩ (.int .i64 sx)).setCell ⟨w.heap.size + 1, 5, none⟩ (.int .i64 sy)).heap[w.heap.size + 1]? = some (.cells #[.int .i64 k, .int .i64 pr, .int .i64 a, .int .i64 sk, .int .i64 sx, .int .i64 sy] 30 (0, 0)) := by
    have h0 := heap_setCell_same w2 (w.heap.size + 1) 0 _ _ (.int .i64 k) HR2.out
    have h1 := heap_setCell_same _ (w.heap.size + 1) 1 _ _ (.int .i64 pr) h0
    have h2 := heap_setCell_same _ (w.heap.size + 1) 2 _ _ (.int .i64 a) h1
    have h3 := heap_setCell_same _ (w.heap.size + 1) 3 _ _ (.int .i64 sk) h2
    have h4 := heap_setCell_same _ (w.heap.size + 1) 4 _ _ (.int .i64 sx) h3
    have h5 := heap_setCell_same _ (w.heap.size + 1) 5 _ _ (.int .i64 sy) h4
    rw [h5]
    simp
  obtain ⟨⟨y0, y1, y2, y3, y4, y5⟩, _⟩ := six_cells R3
  refine bodyPost_ret (v := .agg #[.int .i64 k, .int .i64 pr, .int .i64 a, .int .i64 sk, .int .i64 sx, .int .i64 sy]) (by simp [results, Try.results15, go_sem, y0, y1, y2, y3, y4, y5]) rfl ?_
  exact ⟨rfl, (((((HB2.out.setCell (by simp) _).setCell (by simp) _).setCell (by simp) _).setCell (by simp) _).setCell (by simp) _).setCell (by simp) _⟩

end Go.Proofs.Ytocdcmdllacgnaa
