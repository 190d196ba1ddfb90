/-
  Chapter 13, the mathematics: what an Edit makes of a Program.
-/
import Derived.Test.YtbbcbfhijmhnkaaDoorProgOk
namespace Go.Proofs.YtbbcbfhijmhnkaaDoor
open Go.RowKit
set_option linter.unusedVariables false

/-- A jump to b or behind goes d farther. -/
def jmp (b d : Int) (s : Stm) : Stm := if s.k = 7 ∧ b ≤ s.y then ⟨s.k, s.x, s.y + d⟩ else s
def mv (b d : Int) (p : List Stm) : List Stm := p.map (jmp b d)
def part13 (b d : Int) (p : List Stm) (j : Nat) : List Stm := (p.take j).map (jmp b d) ++ p.drop j

theorem part13_zero (b d : Int) (p : List Stm) : part13 b d p 0 = p := by simp [part13]
theorem part13_all (b d : Int) (p : List Stm) : part13 b d p p.length = mv b d p := by simp [part13, mv]
theorem part13_length (b d : Int) (p : List Stm) (j : Nat) (h : j ≤ p.length) : (part13 b d p j).length = p.length := by simp [part13]; omega
theorem part13_get (b d : Int) (p : List Stm) (j : Nat) (h : j < p.length) : (part13 b d p j)[j]? = some p[j] := by
  unfold part13
  rw [List.getElem?_append_right (by simp; omega)]
  simp
  have : j - min j p.length = 0 := by omega
  rw [this]
  simp [h]
theorem part13_succ (b d : Int) (p : List Stm) (j : Nat) (h : j < p.length) : part13 b d p (j + 1) = (part13 b d p j).set j (jmp b d p[j]) := by
  unfold part13
  have hj : (List.map (jmp b d) (p.take j)).length = j := by simp; omega
  rw [List.set_append_right _ _ (by omega), hj, Nat.sub_self, List.drop_eq_getElem_cons h, List.set_cons_zero, List.take_succ_eq_append_getElem h, List.map_append, List.append_assoc]
  rfl
theorem part13_same (b d : Int) (p : List Stm) (j : Nat) (h : j < p.length) (hj : jmp b d p[j] = p[j]) : part13 b d p (j + 1) = part13 b d p j := by
  rw [part13_succ b d p j h, hj]
  refine List.ext_getElem? (fun i => ?_)
  by_cases e : j = i
  · subst e
    rw [List.getElem?_set_self (by rw [part13_length _ _ _ _ (by omega)]; exact h), part13_get b d p j h]
  · rw [List.getElem?_set_ne e]

theorem cells3_setY : ∀ (L : List Stm) (j : Nat) (s : Stm) (y : Int), L[j]? = some s → (cells3 L).set (j * 3 + 2) (.int .i64 y) = cells3 (L.set j ⟨s.k, s.x, y⟩)
  | [], j, s, y, h => by simp at h
  | t :: L, 0, s, y, h => by simp at h; subst h; rfl
  | t :: L, j + 1, s, y, h => by
    have ih := cells3_setY L j s y (by simpa using h)
    have e : (j + 1) * 3 + 2 = j * 3 + 2 + 1 + 1 + 1 := by omega
    rw [e]
    simp only [cells3, List.set_cons_succ, ih]

theorem jmp_yes {b d : Int} {s : Stm} (h : s.k = 7) (h2 : b ≤ s.y) : jmp b d s = ⟨s.k, s.x, s.y + d⟩ := if_pos ⟨h, h2⟩
theorem jmp_no {b d : Int} {s : Stm} (h : ¬ (s.k = 7 ∧ b ≤ s.y)) : jmp b d s = s := if_neg h
theorem jmp_zero (b : Int) (s : Stm) : jmp b 0 s = s := by
  unfold jmp
  split
  · cases s; simp
  · rfl
theorem mv_zero (b : Int) (p : List Stm) : mv b 0 p = p := by
  unfold mv
  have : jmp b 0 = id := by funext s; exact jmp_zero b s
  rw [this, List.map_id]
theorem mv_length (b d : Int) (p : List Stm) : (mv b d p).length = p.length := by simp [mv]

/-- One statement in place of another; ahead of another; gone. -/
def edSet (p : List Stm) (a : Nat) (s : Stm) : List Stm := p.take a ++ s :: p.drop (a + 1)
def edAdd (p : List Stm) (a : Nat) (s : Stm) : List Stm := (mv a 1 p).take a ++ s :: (mv a 1 p).drop a
def edDrop (p : List Stm) (a : Nat) : List Stm := (mv (a + 1) (-1) p).take a ++ (mv (a + 1) (-1) p).drop (a + 1)

def zeroS (s : Stm) : Bool := decide (s.k = 0) && decide (s.x = 0) && decide (s.y = 0)

/-- What is made, right or not. -/
def made13 (ps : List (List Stm)) (k pr at_ : Int) (s : Stm) : Option (List (List Stm)) :=
  if k = 4 then (if pr = 0 ∧ at_ = 0 ∧ zeroS s = true then some (ps ++ [[⟨9, 0, 0⟩]]) else none)
  else if wiB pr ps.length && wiB at_ (ps.getD pr.toNat []).length then
    (if k = 1 then some (ps.set pr.toNat (edSet (ps.getD pr.toNat []) at_.toNat s))
     else if k = 2 then some (ps.set pr.toNat (edAdd (ps.getD pr.toNat []) at_.toNat s))
     else if k = 3 then (if zeroS s then some (ps.set pr.toNat (edDrop (ps.getD pr.toNat []) at_.toNat)) else none)
     else none)
  else none

/-- What Edited answers; none: false. -/
def edited13 (ps : List (List Stm)) (k pr at_ : Int) (s : Stm) : Option (List (List Stm)) :=
  if programOk ps then (match made13 ps k pr at_ s with
    | some qs => if programOk qs then some qs else none
    | none => none) else none

theorem split_at (p : List Stm) (a : Nat) (h : a < p.length) : p = p.take a ++ p[a] :: p.drop (a + 1) := by
  rw [← List.drop_eq_getElem_cons h, List.take_append_drop]

/-- Blocks of the inner rows: no two are one. -/
def Apart13 (us : List Value) : Prop := ∀ (i j : Nat) (a b : Value) (k : Nat), i ≠ j → us[i]? = some a → us[j]? = some b → a.ownBlock = some k → b.ownBlock ≠ some k

/-- A Program in rows of its own that are apart. -/
structure Own13 (w : World) (base : Nat) (v : Value) (us : List Value) (ps : List (List Stm)) : Prop where
  row : w.ownsRow base 34 1 v ps.length us
  each : ∀ (j : Nat) (u : Value) (p : List Stm), us[j]? = some u → ps[j]? = some p → w.ownsRow base 36 3 u p.length (cells3 p)
  ap : Apart13 us

theorem Own13.len {w : World} {base : Nat} {v : Value} {us : List Value} {ps : List (List Stm)} (h : Own13 w base v us ps) : us.length = ps.length := by
  have := h.row.1
  simpa using this

theorem Own13.ownP {w : World} {base : Nat} {v : Value} {us : List Value} {ps : List (List Stm)} (h : Own13 w base v us ps) : OwnP w base w.heap.size v ps :=
  ⟨us, h.row, fun k hk => (h.row.lt k hk).2, fun j u p h1 h2 => ⟨h.each j u p h1 h2, fun k hk => ((h.each j u p h1 h2).lt k hk).2⟩⟩

theorem Own13.kept {w w' : World} {base : Nat} {v : Value} {us : List Value} {ps : List (List Stm)} (h : Own13 w base v us ps) (hb : Below w.heap.size w w') : Own13 w' base v us ps :=
  ⟨own_kept h.row hb, fun j u p h1 h2 => own_kept (h.each j u p h1 h2) hb, h.ap⟩

theorem Own13.mono {w : World} {base base' : Nat} {v : Value} {us : List Value} {ps : List (List Stm)} (h : Own13 w base v us ps) (hb : base' ≤ base) : Own13 w base' v us ps :=
  ⟨own_mono h.row hb, fun j u p h1 h2 => own_mono (h.each j u p h1 h2) hb, h.ap⟩

/-- A block that is of neither kind, or lies below. -/
theorem Own13.grown {w w' : World} {base : Nat} {v : Value} {us : List Value} {ps : List (List Stm)} {row : Option Nat} (h : Own13 w base v us ps) (hg : w.grownBy w' row) (hr : ∀ k, row = some k → k < base ∨ ∃ C t q, w.heap[k]? = some (.cells C t q) ∧ t ≠ 34 ∧ t ≠ 36) : Own13 w' base v us ps := by
  have ne : ∀ {e : TypeId} {s n : Nat} {x : Value} {xs : List Value}, w.ownsRow base e s x n xs → (e = 34 ∨ e = 36) → ∀ k, x.ownBlock = some k → row ≠ some k := by
    intro e s n x xs hx he k hk hrow
    rcases hr k hrow with h1 | ⟨C, t, q, h1, h2, h3⟩
    · have := (hx.lt k hk).1; omega
    · rcases hx.2 with ⟨rfl, _⟩ | ⟨g', cap', cur, rfl, _, h4, _⟩
      · cases hk
      · cases hk
        rw [h1] at h4
        injection h4 with h4
        injection h4 with _ h4
        rcases he with rfl | rfl
        · exact h2 h4
        · exact h3 h4
  exact ⟨own_grown h.row hg (ne h.row (.inl rfl)), fun j u p h1 h2 => own_grown (h.each j u p h1 h2) hg (ne (h.each j u p h1 h2) (.inr rfl)), h.ap⟩

end Go.Proofs.YtbbcbfhijmhnkaaDoor
