/-
  Put together out of: Repl, Ins, EditM.
-/
import Derived.Test.YtjdmmpdcafbneaaDoorCopyS
import Derived.BigRegion
import Derived.Deep.RegionHeld3
import Derived.Lib.AppendZerosOnto
import Derived.Lib.Overlaps
import Derived.Test.YtjdmmpdcafbneaaDoorProgOk
/-
  slices.Replace over statements: one in place of one, one that goes.
-/
namespace Go.Proofs.YtjdmmpdcafbneaaDoor
open Go.RowKit
set_option linter.unusedVariables false
set_option linter.unusedSimpArgs false
set_option maxHeartbeats 4000000
set_option maxRecDepth 20000

theorem lit_cells {w : World} {b : Nat} {k x y : Int} (h : w.heap[b]? = some (.cells #[.int .i64 k, .int .i64 x, .int .i64 y] 42 (0, 0))) : ∀ j u, (cells3 [⟨k, x, y⟩])[j]? = some u → w.cell? ((⟨b, 0, none⟩ : Addr).add j) = some u := by
  intro j u hj
  rw [Addr.add_lit, Nat.zero_add, cell_of_row w b j _ _ (0, 0) h, ← hj]
  simp [cells3]

theorem lit_kept {w w' : World} {b g : Nat} {o : Obj} (h : w.heap[b]? = some o) (hg : w.grownBy w' (some g)) (hne : b ≠ g) : w'.heap[b]? = some o :=
  (hg.block b (Array.getElem?_eq_some_iff.1 h).1 (fun e => hne (Option.some.inj e))).trans h

theorem clear0 (x : Option Addr) (c : Nat) (ty : TypeId) (W : World) : (Builtin.clear_ #[37] ty #[.slice x 0 c]).run Tryd.prog W = .ok (.tuple #[]) W := by
  cases x <;> simp [Builtin.clear_, run_underlying Tryd.underlying37]

theorem zero_stmt (W : World) : (zeroValue 42).run Tryd.prog W = .ok (.agg #[.int .i64 0, .int .i64 0, .int .i64 0]) W := by
  obtain ⟨i0, hi, hz0, hz1, hz2⟩ := info_parts infoStmt
  simp [zeroValue, typeInfo, hi, hz0]

end Go.Proofs.YtjdmmpdcafbneaaDoor

/-
  slices.Insert over statements: one ahead of another.
-/
namespace Go.Proofs.YtjdmmpdcafbneaaDoor
open Go.RowKit
set_option linter.unusedVariables false
set_option linter.unusedSimpArgs false
set_option maxHeartbeats 4000000
set_option maxRecDepth 20000

/-- append(s, make(S, k)...) where there is no room. -/
theorem wpList_appZ {P : Program} {w : World} {ops : Array Oper} {rest : List Oper} {o : Oper} {a : Act} {Q : Exit → Act → World → Prop} (hgd : o.guard = none) (s x : Operand) (t tn : TypeId)
    (ho : o.op = .call { callee := .builtin .append, args := #[s, x], argTypes := #[t, tn] }) (e : TypeId) (i : TypeInfo) (z : Value) (size bytes : Nat) (ht : P.underlying t = some (.slice e)) (htn : P.underlying tn = some (.int .i64)) (hi : P.info? e = some i) (hz : i.zero = some z)
    (hsize : i.size = size) (hby : i.bytes = bytes) (hzs : z.cells.size = size) (hsz : 0 < size) (hb24 : bytes ≤ 100)
    (g n cap : Nat) (hs : a.eval s = .slice (some ⟨g, 0, none⟩) n cap) (olds : List Value) (hol : olds.length = n * size) (hold : ∀ j u, olds[j]? = some u → w.cell? ⟨g, j, none⟩ = some u)
    (k : Nat) (hx : a.eval x = .int .i64 (k : Int)) (hk : 0 < k) (hroom : cap < n + k) (hsm : n + k ≤ 1000)
    (h : ∀ cap' Z w', Hid (w'.heap[w.heap.size]? = some (.cells (olds ++ Z).toArray e (0, 0))) → Hid (Z.length = (cap' - n) * size ∧ n + k ≤ cap' ∧ cap' ≤ maxLen) → Below w.heap.size w w' → wpList P ops Q rest (a.put o.dst (.slice (some ⟨w.heap.size, 0, none⟩) (n + k) cap')) w') : wpList P ops Q (o :: rest) a w := by
  refine wpList_plain hgd fun _ hK => ?_
  subst hsize hby
  have hfc : (Builtin.firstCells i.size n (.slice (some ⟨g, 0, none⟩) n cap)).run P w.drew = .ok olds.toArray w.drew := run_firstCells_some (P := P) w.drew i.size n ⟨g, 0, none⟩ n cap olds hol (fun j u hj => by rw [Addr.add_lit, Nat.zero_add]; exact hold j u hj)
  have hr := Lib.run_append_grow_zeros (P := P) w t tn o.type e i z .i64 .i64 ht htn hi hz (some ⟨g, 0, none⟩) n cap olds hfc k hk hsz hroom (by omega) (by
      have : k * i.bytes ≤ 1000 * 100 := Nat.mul_le_mul (by omega) hb24
      omega) (growslice_fits hroom (by
      have : (n + k) * i.bytes ≤ 1000 * 100 := Nat.mul_le_mul hsm hb24
      omega))
  have hge := grownCap_ge w (n + k) cap e
  have hcm : grownCap w (n + k) cap e ≤ maxLen := grownCap_le_maxLen w (n + k) cap e (by unfold maxLen; omega)
  unfold Oper.wp
  simp only [execOp, ho, resolve, invoke, builtin, Sem.run_bind, Sem.run_pure, Result.andThen_ok, List.map_toArray, List.map_cons, List.map_nil, hs, hx, hr]
  refine hK _ _ (h _ (Builtin.zeroCells z.cells k ++ Builtin.zeroCells z.cells (grownCap w (n + k) cap e - (n + k))).toList _ ?_ ⟨?_, hge, hcm⟩ ?_)
  · show _ = _
    have h3 := heap_alloc_new w.drew (.cells (olds.toArray ++ Builtin.zeroCells z.cells k ++ Builtin.zeroCells z.cells (grownCap w (n + k) cap e - (n + k))) e)
    have h4 : w.drew.heap.size = w.heap.size := rfl
    rw [h4] at h3
    rw [h3]
    simp
  · rw [Array.length_toList, Array.size_append, size_zeroCells, size_zeroCells, hzs, ← Nat.add_mul]
    congr 1
    omega
  · exact ⟨rfl, rfl, rfl, by simp, fun q hq => old_block (w := w.drew) hq⟩

def Stop13 (p : Prop) : Prop := p
theorem stop13 {p : Prop} (h : Stop13 p) : p := h

end Go.Proofs.YtjdmmpdcafbneaaDoor

/-
  Chapter 13, the mathematics: what an Edit makes of a Program.
-/
namespace Go.Proofs.YtjdmmpdcafbneaaDoor
open Go.RowKit
set_option linter.unusedVariables false

/-- A jump to b or behind goes d farther. -/
def jmp (b d : Int) (s : Stm) : Stm := if s.k = 7 ∧ b ≤ s.y then ⟨s.k, s.x, s.y + d⟩ else s
def mv (b d : Int) (p : List Stm) : List Stm := p.map (jmp b d)
def part13 (b d : Int) (p : List Stm) (j : Nat) : List Stm := (p.take j).map (jmp b d) ++ p.drop j

theorem part13_zero (b d : Int) (p : List Stm) : part13 b d p 0 = p := by simp [part13]
theorem part13_all (b d : Int) (p : List Stm) : part13 b d p p.length = mv b d p := by simp [part13, mv]
theorem part13_length (b d : Int) (p : List Stm) (j : Nat) (h : j ≤ p.length) : (part13 b d p j).length = p.length := by simp [part13]; omega
theorem part13_get (b d : Int) (p : List Stm) (j : Nat) (h : j < p.length) : (part13 b d p j)[j]? = some p[j] := by
  unfold part13
  rw [List.getElem?_append_right (by simp; omega)]
  simp
  have : j - min j p.length = 0 := by omega
  rw [this]
  simp [h]
theorem part13_succ (b d : Int) (p : List Stm) (j : Nat) (h : j < p.length) : part13 b d p (j + 1) = (part13 b d p j).set j (jmp b d p[j]) := by
  unfold part13
  have hj : (List.map (jmp b d) (p.take j)).length = j := by simp; omega
  rw [List.set_append_right _ _ (by omega), hj, Nat.sub_self, List.drop_eq_getElem_cons h, List.set_cons_zero, List.take_succ_eq_append_getElem h, List.map_append, List.append_assoc]
  rfl
theorem part13_same (b d : Int) (p : List Stm) (j : Nat) (h : j < p.length) (hj : jmp b d p[j] = p[j]) : part13 b d p (j + 1) = part13 b d p j := by
  rw [part13_succ b d p j h, hj]
  refine List.ext_getElem? (fun i => ?_)
  by_cases e : j = i
  · subst e
    rw [List.getElem?_set_self (by rw [part13_length _ _ _ _ (by omega)]; exact h), part13_get b d p j h]
  · rw [List.getElem?_set_ne e]

theorem cells3_setY : ∀ (L : List Stm) (j : Nat) (s : Stm) (y : Int), L[j]? = some s → (cells3 L).set (j * 3 + 2) (.int .i64 y) = cells3 (L.set j ⟨s.k, s.x, y⟩)
  | [], j, s, y, h => by simp at h
  | t :: L, 0, s, y, h => by simp at h; subst h; rfl
  | t :: L, j + 1, s, y, h => by
    have ih := cells3_setY L j s y (by simpa using h)
    have e : (j + 1) * 3 + 2 = j * 3 + 2 + 1 + 1 + 1 := by omega
    rw [e]
    simp only [cells3, List.set_cons_succ, ih]

theorem jmp_yes {b d : Int} {s : Stm} (h : s.k = 7) (h2 : b ≤ s.y) : jmp b d s = ⟨s.k, s.x, s.y + d⟩ := if_pos ⟨h, h2⟩
theorem jmp_no {b d : Int} {s : Stm} (h : ¬ (s.k = 7 ∧ b ≤ s.y)) : jmp b d s = s := if_neg h
theorem jmp_zero (b : Int) (s : Stm) : jmp b 0 s = s := by
  unfold jmp
  split
  · cases s; simp
  · rfl
theorem mv_zero (b : Int) (p : List Stm) : mv b 0 p = p := by
  unfold mv
  have : jmp b 0 = id := by funext s; exact jmp_zero b s
  rw [this, List.map_id]
theorem mv_length (b d : Int) (p : List Stm) : (mv b d p).length = p.length := by simp [mv]

/-- One statement in place of another; ahead of another; gone. -/
def edSet (p : List Stm) (a : Nat) (s : Stm) : List Stm := p.take a ++ s :: p.drop (a + 1)
def edAdd (p : List Stm) (a : Nat) (s : Stm) : List Stm := (mv a 1 p).take a ++ s :: (mv a 1 p).drop a
def edDrop (p : List Stm) (a : Nat) : List Stm := (mv (a + 1) (-1) p).take a ++ (mv (a + 1) (-1) p).drop (a + 1)

def zeroS (s : Stm) : Bool := decide (s.k = 0) && decide (s.x = 0) && decide (s.y = 0)

/-- What is made, right or not. -/
def made13 (ps : List (List Stm)) (k pr at_ : Int) (s : Stm) : Option (List (List Stm)) :=
  if k = 4 then (if pr = 0 ∧ at_ = 0 ∧ zeroS s = true then some (ps ++ [[⟨9, 0, 0⟩]]) else none)
  else if wiB pr ps.length && wiB at_ (ps.getD pr.toNat []).length then
    (if k = 1 then some (ps.set pr.toNat (edSet (ps.getD pr.toNat []) at_.toNat s))
     else if k = 2 then some (ps.set pr.toNat (edAdd (ps.getD pr.toNat []) at_.toNat s))
     else if k = 3 then (if zeroS s then some (ps.set pr.toNat (edDrop (ps.getD pr.toNat []) at_.toNat)) else none)
     else none)
  else none

/-- What Edited answers; none: false. -/
def edited13 (ps : List (List Stm)) (k pr at_ : Int) (s : Stm) : Option (List (List Stm)) :=
  if programOk ps then (match made13 ps k pr at_ s with
    | some qs => if programOk qs then some qs else none
    | none => none) else none

theorem split_at (p : List Stm) (a : Nat) (h : a < p.length) : p = p.take a ++ p[a] :: p.drop (a + 1) := by
  rw [← List.drop_eq_getElem_cons h, List.take_append_drop]

/-- Blocks of the inner rows: no two are one. -/
def Apart13 (us : List Value) : Prop := ∀ (i j : Nat) (a b : Value) (k : Nat), i ≠ j → us[i]? = some a → us[j]? = some b → a.ownBlock = some k → b.ownBlock ≠ some k

/-- A Program in rows of its own that are apart. -/
structure Own13 (w : World) (base : Nat) (v : Value) (us : List Value) (ps : List (List Stm)) : Prop where
  row : w.ownsRow base 39 1 v ps.length us
  each : ∀ (j : Nat) (u : Value) (p : List Stm), us[j]? = some u → ps[j]? = some p → w.ownsRow base 42 3 u p.length (cells3 p)
  ap : Apart13 us

theorem Own13.len {w : World} {base : Nat} {v : Value} {us : List Value} {ps : List (List Stm)} (h : Own13 w base v us ps) : us.length = ps.length := by
  have := h.row.1
  simpa using this

theorem Own13.ownP {w : World} {base : Nat} {v : Value} {us : List Value} {ps : List (List Stm)} (h : Own13 w base v us ps) : OwnP w base w.heap.size v ps :=
  ⟨us, h.row, fun k hk => (h.row.lt k hk).2, fun j u p h1 h2 => ⟨h.each j u p h1 h2, fun k hk => ((h.each j u p h1 h2).lt k hk).2⟩⟩

theorem Own13.kept {w w' : World} {base : Nat} {v : Value} {us : List Value} {ps : List (List Stm)} (h : Own13 w base v us ps) (hb : Below w.heap.size w w') : Own13 w' base v us ps :=
  ⟨own_kept h.row hb, fun j u p h1 h2 => own_kept (h.each j u p h1 h2) hb, h.ap⟩

theorem Own13.mono {w : World} {base base' : Nat} {v : Value} {us : List Value} {ps : List (List Stm)} (h : Own13 w base v us ps) (hb : base' ≤ base) : Own13 w base' v us ps :=
  ⟨own_mono h.row hb, fun j u p h1 h2 => own_mono (h.each j u p h1 h2) hb, h.ap⟩

/-- A block that is of neither kind, or lies below. -/
theorem Own13.grown {w w' : World} {base : Nat} {v : Value} {us : List Value} {ps : List (List Stm)} {row : Option Nat} (h : Own13 w base v us ps) (hg : w.grownBy w' row) (hr : ∀ k, row = some k → k < base ∨ ∃ C t q, w.heap[k]? = some (.cells C t q) ∧ t ≠ 39 ∧ t ≠ 42) : Own13 w' base v us ps := by
  have ne : ∀ {e : TypeId} {s n : Nat} {x : Value} {xs : List Value}, w.ownsRow base e s x n xs → (e = 39 ∨ e = 42) → ∀ k, x.ownBlock = some k → row ≠ some k := by
    intro e s n x xs hx he k hk hrow
    rcases hr k hrow with h1 | ⟨C, t, q, h1, h2, h3⟩
    · have := (hx.lt k hk).1; omega
    · rcases hx.2 with ⟨rfl, _⟩ | ⟨g', cap', cur, rfl, _, h4, _⟩
      · cases hk
      · cases hk
        rw [h1] at h4
        injection h4 with h4
        injection h4 with _ h4
        rcases he with rfl | rfl
        · exact h2 h4
        · exact h3 h4
  exact ⟨own_grown h.row hg (ne h.row (.inl rfl)), fun j u p h1 h2 => own_grown (h.each j u p h1 h2) hg (ne (h.each j u p h1 h2) (.inr rfl)), h.ap⟩

end Go.Proofs.YtjdmmpdcafbneaaDoor
