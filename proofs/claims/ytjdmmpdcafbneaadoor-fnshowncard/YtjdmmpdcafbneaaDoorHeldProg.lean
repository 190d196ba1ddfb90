/-
  laws.markProgram, laws.heldProgram: the marks of a Program whose rows are apart; laws.toEdit.
-/
import Derived.Test.YtjdmmpdcafbneaaDoorG45MarkProg
namespace Go.Proofs.YtjdmmpdcafbneaaDoor
open Go.RowKit
set_option linter.unusedVariables false
set_option linter.unusedSimpArgs false
set_option maxHeartbeats 2000000
set_option maxRecDepth 20000

/-- Statements that bear the numbers from k on. -/
def markSt : Int → Nat → List Stm
  | _, 0 => []
  | k, n + 1 => ⟨k, k + 1, k + 2⟩ :: markSt (k + 3) n
theorem markSt_length : ∀ (n : Nat) (k : Int), (markSt k n).length = n
  | 0, k => rfl
  | n + 1, k => by simp [markSt, markSt_length n]
theorem markSt_get : ∀ (n : Nat) (k : Int) (j : Nat), j < n → (markSt k n)[j]? = some ⟨k + 3 * j, k + 3 * j + 1, k + 3 * j + 2⟩
  | 0, k, j, h => by omega
  | n + 1, k, 0, h => by simp [markSt]
  | n + 1, k, j + 1, h => by
    simp only [markSt, List.getElem?_cons_succ]
    rw [markSt_get n (k + 3) j (by omega)]
    congr 2 <;> push_cast <;> omega
/-- The first j bear their marks. -/
def markPart (k : Int) (L : List Stm) (j : Nat) : List Stm := (markSt k L.length).take j ++ L.drop j
theorem markPart_zero (k : Int) (L : List Stm) : markPart k L 0 = L := by simp [markPart]
theorem markPart_all (k : Int) (L : List Stm) : markPart k L L.length = markSt k L.length := by
  unfold markPart
  rw [List.take_of_length_le (by rw [markSt_length]; exact Nat.le_refl _)]
  simp
theorem markPart_length (k : Int) (L : List Stm) (j : Nat) (h : j ≤ L.length) : (markPart k L j).length = L.length := by simp [markPart, markSt_length]; omega
theorem markPart_succ (k : Int) (L : List Stm) (j : Nat) (h : j < L.length) : markPart k L (j + 1) = (markPart k L j).set j ⟨k + 3 * j, k + 3 * j + 1, k + 3 * j + 2⟩ := by
  unfold markPart
  have hl : ((markSt k L.length).take j).length = j := by simp [markSt_length]; omega
  have hg := markSt_get L.length k j h
  obtain ⟨hlt, hge⟩ := List.getElem?_eq_some_iff.1 hg
  rw [List.set_append_right _ _ (by omega), hl, Nat.sub_self, List.drop_eq_getElem_cons h, List.set_cons_zero, List.take_succ_eq_append_getElem hlt, hge, List.append_assoc]
  rfl

/-- Programs that bear the numbers from k on. -/
def tot13 : List (List Stm) → Nat
  | [] => 0
  | p :: ps => p.length + tot13 ps
def marks13 : Int → List (List Stm) → List (List Stm)
  | _, [] => []
  | k, p :: ps => markSt k p.length :: marks13 (k + 3 * p.length) ps
theorem marks13_length : ∀ (ps : List (List Stm)) (k : Int), (marks13 k ps).length = ps.length
  | [], k => rfl
  | p :: ps, k => by simp [marks13, marks13_length ps]
theorem tot13_append : ∀ (a b : List (List Stm)), tot13 (a ++ b) = tot13 a + tot13 b
  | [], b => by simp [tot13]
  | x :: a, b => by simp [tot13, tot13_append a b]; omega
theorem tot13_take (ps : List (List Stm)) (j : Nat) (h : j < ps.length) : tot13 (ps.take (j + 1)) = tot13 (ps.take j) + ps[j].length := by
  rw [List.take_succ_eq_append_getElem h, tot13_append]
  simp [tot13]
theorem tot13_le : ∀ (ps : List (List Stm)), (∀ p ∈ ps, p.length ≤ 1048576) → tot13 ps ≤ 1048576 * ps.length
  | [], _ => by simp [tot13]
  | x :: ps, h => by
    have h1 := tot13_le ps (fun y hy => h y (by simp [hy]))
    have h2 := h x (by simp)
    simp only [tot13, List.length_cons]
    omega
theorem marks13_get : ∀ (ps : List (List Stm)) (k : Int) (j : Nat) (h : j < ps.length), (marks13 k ps)[j]? = some (markSt (k + 3 * tot13 (ps.take j)) ps[j].length)
  | [], k, j, h => by simp at h
  | p :: ps, k, 0, h => by simp [marks13, tot13]
  | p :: ps, k, j + 1, h => by
    simp only [marks13, List.getElem?_cons_succ]
    rw [marks13_get ps (k + 3 * p.length) j (by simpa using h)]
    simp only [List.take_succ_cons, tot13, List.getElem_cons_succ]
    congr 2
    push_cast
    omega
/-- The first j bear their marks. -/
def mpart13 (k : Int) (ps : List (List Stm)) (j : Nat) : List (List Stm) := (marks13 k ps).take j ++ ps.drop j
theorem mpart13_zero (k : Int) (ps : List (List Stm)) : mpart13 k ps 0 = ps := by simp [mpart13]
theorem mpart13_all (k : Int) (ps : List (List Stm)) : mpart13 k ps ps.length = marks13 k ps := by
  unfold mpart13
  rw [List.take_of_length_le (by rw [marks13_length]; exact Nat.le_refl _)]
  simp
theorem mpart13_length (k : Int) (ps : List (List Stm)) (j : Nat) (h : j ≤ ps.length) : (mpart13 k ps j).length = ps.length := by simp [mpart13, marks13_length]; omega
theorem mpart13_get (k : Int) (ps : List (List Stm)) (j : Nat) (h : j < ps.length) : (mpart13 k ps j)[j]? = some ps[j] := by
  unfold mpart13
  have hl : ((marks13 k ps).take j).length = j := by simp [marks13_length]; omega
  rw [List.getElem?_append_right (by omega), hl, Nat.sub_self, List.getElem?_drop]
  simp [h]
theorem mpart13_succ (k : Int) (ps : List (List Stm)) (j : Nat) (h : j < ps.length) : mpart13 k ps (j + 1) = (mpart13 k ps j).set j (markSt (k + 3 * tot13 (ps.take j)) ps[j].length) := by
  unfold mpart13
  have hl : ((marks13 k ps).take j).length = j := by simp [marks13_length]; omega
  obtain ⟨hlt, hge⟩ := List.getElem?_eq_some_iff.1 (marks13_get ps k j h)
  rw [List.set_append_right _ _ (by omega), hl, Nat.sub_self, List.drop_eq_getElem_cons h, List.set_cons_zero, List.take_succ_eq_append_getElem hlt, hge, List.append_assoc]
  rfl

/-- A row is another, in the same place, whatever its value. -/
theorem Own13.updV {W w' : World} {base i : Nat} {v x : Value} {us : List Value} {ps : List (List Stm)} {L : List Stm} (h : Own13 W base v us ps) (hi : i < ps.length) (hui : us[i]? = some x) (hg : W.grownBy w' x.ownBlock)
    (ho : w'.ownsRow base 42 3 x L.length (cells3 L)) : Own13 w' base v us (ps.set i L) := by
  obtain ⟨p, hp⟩ : ∃ p, ps[i]? = some p := ⟨ps[i], by simp [hi]⟩
  have hoi := h.each i _ p hui hp
  refine ⟨by rw [List.length_set]; exact own_grown h.row hg (fun k hk e => kind13 hoi h.row (by decide) k e hk), fun j u r h1 h2 => ?_, h.ap⟩
  by_cases e : i = j
  · subst e
    rw [hui] at h1
    rw [List.getElem?_set_self hi] at h2
    cases h1; cases h2
    exact ho
  · rw [List.getElem?_set_ne e] at h2
    have h3 := h.each j u r h1 h2
    exact own_grown h3 hg (fun k hk e' => h.ap j i u _ k (fun e2 => e e2.symm) h1 hui hk e')

/-- Blocks that hold no statements stay. -/
def OtherT (w w' : World) : Prop := ∀ (b : Nat) (C : Array Value) (t : TypeId) (q : Nat × Nat), w.heap[b]? = some (.cells C t q) → t ≠ 42 → w'.heap[b]? = some (.cells C t q)
theorem OtherT.refl (w : World) : OtherT w w := fun _ _ _ _ h _ => h
theorem OtherT.trans {a b c : World} (h : OtherT a b) (k : OtherT b c) : OtherT a c := fun i C t q hi ht => k i C t q (h i C t q hi ht) ht
theorem OtherT.below {a b : World} (h : Below a.heap.size a b) : OtherT a b := fun i C t q hi _ => (h.block i (Array.getElem?_eq_some_iff.1 hi).1).trans hi
theorem OtherT.own {w w' : World} {base n : Nat} {u : Value} {xs : List Value} (h : w.ownsRow base 42 3 u n xs) (hg : w.grownBy w' u.ownBlock) : OtherT w w' := fun i C t q hi ht => by
  refine (hg.block i (Array.getElem?_eq_some_iff.1 hi).1 (fun e => ?_)).trans hi
  rcases h.2 with ⟨rfl, _⟩ | ⟨g, cap, cur, rfl, _, h4, _⟩
  · cases e
  · obtain rfl : i = g := Option.some.inj e
    rw [hi] at h4
    injection h4 with h4
    injection h4 with _ h4
    exact ht h4

theorem six_cells {w : World} {b : Nat} {x0 x1 x2 x3 x4 x5 : Value} {T : TypeId} (h : w.heap[b]? = some (.cells #[x0, x1, x2, x3, x4, x5] T (0, 0))) :
    (w.cell? ⟨b, 0, none⟩ = some x0 ∧ w.cell? ⟨b, 1, none⟩ = some x1 ∧ w.cell? ⟨b, 2, none⟩ = some x2 ∧ w.cell? ⟨b, 3, none⟩ = some x3 ∧ w.cell? ⟨b, 4, none⟩ = some x4 ∧ w.cell? ⟨b, 5, none⟩ = some x5) ∧ ∀ o, w.frozen? ⟨b, o, none⟩ = false := by
  refine ⟨⟨?_, ?_, ?_, ?_, ?_, ?_⟩, fun o => frozen_of_row w b o _ T h⟩ <;> simp [World.cell?, h]

end Go.Proofs.YtjdmmpdcafbneaaDoor
