/-
  Put together out of: Stmt, Stmts, DrawKit.
-/
import Derived.Test.YtjdmmpdcafbneaaDoorG00Draw
import Derived.Lib.QuietBelow
/-
  Chapter 3: l1In, within, toStmt, spec.StmtOk, impl.StmtOk: what both answer of a statement.
-/
namespace Go.Proofs.YtjdmmpdcafbneaaDoor
open Go.RowKit
set_option linter.unusedVariables false
set_option maxHeartbeats 4000000

/-- Is it from lo to hi? -/
def inB (x lo hi : Int) : Bool := decide (lo ≤ x) && decide (x ≤ hi)

theorem l1In (x lo hi : Int) (w : World) :
    Calls Tryd.prog 51 #[.int .i64 x, .int .i64 lo, .int .i64 hi] w fun e w' => e = .returned (.bool (inB x lo hi)) ∧ w = w' := by
  unfold inB
  by_cases h : lo ≤ x
  · have h' : decide (lo ≤ x) = true := by simpa using h
    go_enter Tryd.func51, Tryd.ntmps51
    go_wp2
    go_ret
    exact ⟨by simp [h], rfl⟩
  · have h' : decide (lo ≤ x) = false := by simpa using h
    go_enter Tryd.func51, Tryd.ntmps51
    go_wp2
    go_ret
    exact ⟨by simp, rfl⟩

/-- Is it below n, and not below 0? -/
def wiB (x n : Int) : Bool := decide (0 ≤ x) && decide (x < n)

theorem within (x n : Int) (w : World) :
    Calls Tryd.prog 42 #[.int .i64 x, .int .i64 n] w fun e w' => e = .returned (.bool (wiB x n)) ∧ w = w' := by
  unfold wiB
  by_cases h : 0 ≤ x
  · have h' : decide (0 ≤ x) = true := by simpa using h
    go_enter Tryd.func42, Tryd.ntmps42
    go_wp2
    go_ret
    exact ⟨by simp [h], rfl⟩
  · have h' : decide (0 ≤ x) = false := by simpa using h
    go_enter Tryd.func42, Tryd.ntmps42
    go_wp2
    go_ret
    exact ⟨by simp, rfl⟩


/-- What both answer of a statement. -/
def stmtOk (k x y : Int) : Bool :=
  if k = 1 ∨ k = 9 then inB x 0 0 && inB y 0 0
  else if k = 2 ∨ k = 3 then inB x 0 5 && inB y 0 5
  else if k = 4 ∨ k = 5 ∨ k = 6 then inB x 0 5 && inB y 0 0
  else if k = 7 then inB x 0 0 && inB y 0 11
  else if k = 8 then inB x 0 0 && inB y 0 3
  else false

theorem inB_nil (x : Int) : inB x 0 0 = (x == 0) := by
  unfold inB
  rw [Bool.eq_iff_iff]
  simp
  omega

theorem inB_wi (x n : Int) : inB x 0 n = wiB x (n + 1) := by
  unfold inB wiB
  rw [Bool.eq_iff_iff]
  simp
  omega

theorem kinds (k : Int) : k = 1 ∨ k = 2 ∨ k = 3 ∨ k = 4 ∨ k = 5 ∨ k = 6 ∨ k = 7 ∨ k = 8 ∨ k = 9 ∨ (k ≠ 1 ∧ k ≠ 2 ∧ k ≠ 3 ∧ k ≠ 4 ∧ k ≠ 5 ∧ k ≠ 6 ∧ k ≠ 7 ∧ k ≠ 8 ∧ k ≠ 9) := by omega

theorem specStmtOk (k x y : Int) (w : World) :
    Calls Tryd.prog 38 #[.agg #[.int .i64 k, .int .i64 x, .int .i64 y]] w fun e w' => e = .returned (.bool (stmtOk k x y)) ∧ Below w.heap.size w w' := by
  unfold stmtOk
  rw [inB_nil, inB_nil]
  rcases kinds k with rfl | rfl | rfl | rfl | rfl | rfl | rfl | rfl | rfl | ⟨h1, h2, h3, h4, h5, h6, h7, h8, h9⟩
  all_goals
    simp only [Int.reduceEq, or_false, or_true, or_self, if_true, if_false, *]
    first
      | cases hx : inB x 0 5
      | skip
    all_goals
      go_enter Tryd.func38, Tryd.ntmps38
      go_wp2_with (first | (go_at_call 51; refine (l1In _ _ _ _).mono ?_; rintro e w' ⟨rfl, rfl⟩))
      all_goals
        go_ret
        exact ⟨by simp [*], by go_grown⟩

theorem implStmtOk (k x y : Int) (w : World) :
    Calls Tryd.prog 41 #[.agg #[.int .i64 k, .int .i64 x, .int .i64 y]] w fun e w' => e = .returned (.bool (stmtOk k x y)) ∧ Below w.heap.size w w' := by
  unfold stmtOk
  rw [inB_wi, inB_wi, inB_wi, inB_wi, inB_wi, inB_wi]
  rcases kinds k with rfl | rfl | rfl | rfl | rfl | rfl | rfl | rfl | rfl | ⟨h1, h2, h3, h4, h5, h6, h7, h8, h9⟩
  all_goals
    simp only [Int.reduceEq, or_false, or_true, or_self, if_true, if_false, Int.reduceAdd, Int.zero_add, *]
    first
      | (cases hx : wiB x 1)
      | (cases hx : wiB x 6)
      | skip
    all_goals
      go_enter Tryd.func41, Tryd.ntmps41
      go_wp2_with (first | (go_at_call 42; refine (within _ _ _).mono ?_; rintro e w' ⟨rfl, rfl⟩))
      all_goals
        go_ret
        exact ⟨by simp [*], by go_grown⟩

end Go.Proofs.YtjdmmpdcafbneaaDoor

/-
  Slices of statements as they lie in memory (three cells each): toStmtS, szStmtS, eqStmt, eqStmtS.
-/
namespace Go.Proofs.YtjdmmpdcafbneaaDoor
open Go.RowKit
set_option linter.unusedVariables false
set_option maxHeartbeats 4000000

/-- A statement's three numbers. -/
structure Stm where
  k : Int
  x : Int
  y : Int

/-- The cells of statements. -/
def cells3 : List Stm → List Value
  | [] => []
  | s :: ss => .int .i64 s.k :: .int .i64 s.x :: .int .i64 s.y :: cells3 ss

theorem cells3_length : ∀ ss : List Stm, (cells3 ss).length = ss.length * 3
  | [] => rfl
  | s :: ss => by simp [cells3, cells3_length ss]; omega

theorem cells3_get : ∀ (ss : List Stm) (j : Nat) (s : Stm), ss[j]? = some s →
    (cells3 ss)[j * 3]? = some (.int .i64 s.k) ∧ (cells3 ss)[j * 3 + 1]? = some (.int .i64 s.x) ∧ (cells3 ss)[j * 3 + 2]? = some (.int .i64 s.y)
  | [], j, s, h => by simp at h
  | t :: ss, 0, s, h => by simp at h; subst h; simp [cells3]
  | t :: ss, j + 1, s, h => by
    have := cells3_get ss j s (by simpa using h)
    have e : (j + 1) * 3 = j * 3 + 1 + 1 + 1 := by omega
    simp only [e, cells3]
    exact this

theorem cells3_append : ∀ (a b : List Stm), cells3 (a ++ b) = cells3 a ++ cells3 b
  | [], b => rfl
  | s :: a, b => by simp [cells3, cells3_append a b]

/-- The slice v holds the statements ss. -/
def Reads3 (w : World) (v : Value) (ss : List Stm) : Prop :=
  ∃ ao cap, v = .slice ao ss.length cap ∧ ∀ j s, ss[j]? = some s → ∃ g off, ao = some ⟨g, off, none⟩ ∧
    w.cell? ⟨g, off + j * 3, none⟩ = some (.int .i64 s.k) ∧ w.cell? ⟨g, off + j * 3 + 1, none⟩ = some (.int .i64 s.x) ∧ w.cell? ⟨g, off + j * 3 + 2, none⟩ = some (.int .i64 s.y)

theorem reads3_below {w w' : World} {v : Value} {ss : List Stm} (h : Reads3 w v ss) (hb : Below w.heap.size w w') : Reads3 w' v ss := by
  obtain ⟨ao, cap, rfl, hc⟩ := h
  refine ⟨ao, cap, rfl, fun j s hs => ?_⟩
  obtain ⟨g, off, hg, c0, c1, c2⟩ := hc j s hs
  have hB := World.block_lt_of_cell? w _ c0
  exact ⟨g, off, hg, (hb.cell hB).trans c0, (hb.cell (p := ⟨g, off + j * 3 + 1, none⟩) hB).trans c1, (hb.cell (p := ⟨g, off + j * 3 + 2, none⟩) hB).trans c2⟩

theorem reads3_own {w : World} {base : Nat} {e : TypeId} {v : Value} {ss : List Stm} (h : w.ownsRow base e 3 v ss.length (cells3 ss)) : Reads3 w v ss := by
  rcases h.2 with ⟨rfl, hn⟩ | ⟨g, cap, cur, rfl, hr⟩
  · exact ⟨none, 0, by rw [hn], fun j s hs => by rw [List.eq_nil_of_length_eq_zero hn] at hs; simp at hs⟩
  · refine ⟨some ⟨g, 0, none⟩, cap, rfl, fun j s hs => ⟨g, 0, rfl, ?_⟩⟩
    have hj : j < ss.length := by
      rcases Nat.lt_or_ge j ss.length with h | h
      · exact h
      · rw [List.getElem?_eq_none h] at hs; simp at hs
    obtain ⟨a0, a1, a2⟩ := cells3_get ss j s hs
    have hl := cells3_length ss
    simp only [Nat.zero_add]
    rw [h.cellAt (j * 3) (by omega), h.cellAt (j * 3 + 1) (by omega), h.cellAt (j * 3 + 2) (by omega)]
    exact ⟨a0, a1, a2⟩



theorem infoStmt : (Tryd.prog.info? 42).map (fun i => (i.zero, i.size, i.bytes)) = some (some (.agg #[.int .i64 0, .int .i64 0, .int .i64 0]), 3, 24) := by kernel_rfl

/-- A row of n cells, the first k of them those of xs. -/
def filled (xs zs : List Value) (k : Nat) : List Value := xs.take k ++ zs.drop k

theorem filled_length (xs zs : List Value) (k : Nat) (hl : xs.length = zs.length) (h : k ≤ xs.length) : (filled xs zs k).length = xs.length := by
  simp [filled]; omega

theorem filled_set (xs zs : List Value) (k : Nat) (x : Value) (hl : xs.length = zs.length) (h : xs[k]? = some x) : (filled xs zs k).set k x = filled xs zs (k + 1) := by
  obtain ⟨hk, rfl⟩ := List.getElem?_eq_some_iff.1 h
  unfold filled
  have hk' : (xs.take k).length = k := by simp; omega
  rw [List.set_append_right _ _ (by simp; omega), hk', Nat.sub_self, List.drop_eq_getElem_cons (by omega), List.set_cons_zero, List.take_succ_eq_append_getElem hk]
  exact (List.append_assoc (xs.take k) [xs[k]] (zs.drop (k + 1))).symm

theorem filled_all (xs zs : List Value) (k : Nat) (hl : xs.length = zs.length) (h : k = xs.length) : filled xs zs k = xs := by
  rw [filled, List.take_of_length_le (by omega), List.drop_of_length_le (by omega), List.append_nil]

/-- A cell of a row that is owned: it is there. -/
theorem own_cell {w : World} {base : Nat} {e : TypeId} {s n g cap : Nat} {xs : List Value} (h : w.ownsRow base e s (.slice (some ⟨g, 0, none⟩) n cap) n xs) (j : Nat) (hj : j < n * s) : ∃ x, w.cell? ⟨g, j, none⟩ = some x := by
  have h1 := h.cellAt j hj
  have h2 := h.1
  exact ⟨xs[j]'(by omega), by rw [h1]; simp⟩



end Go.Proofs.YtjdmmpdcafbneaaDoor

/-
  Small laws over cursors and worlds that grow, for the draws of programs.
-/
namespace Go.Proofs.YtjdmmpdcafbneaaDoor
open Go.RowKit
set_option linter.unusedVariables false

theorem curLt {w : World} {g : Nat} {bs : List Int} (h : Cur w g bs) : g < w.heap.size := by
  obtain ⟨ao, cap, i, h, hh, _⟩ := h
  exact (Array.getElem?_eq_some_iff.1 hh).1

theorem curAlloc {w : World} {g : Nat} {bs : List Int} (h : Cur w g bs) (o : Obj) : Cur (w.alloc o) g bs := cur_below h (Below.alloc (Below.refl _ _) (Nat.le_refl _) o)

theorem grownAlloc {a w : World} {row : Option Nat} (h : a.grownBy w row) (o : Obj) : a.grownBy (w.alloc o) row := grown_trans h (World.grownBy_alloc w o row)

/-- A store into a block that was not there. -/
theorem grownSet {a w : World} {row : Option Nat} (h : a.grownBy w row) {b o : Nat} (hb : a.heap.size ≤ b) (u : Value) : a.grownBy (w.setCell ⟨b, o, none⟩ u) row :=
  ⟨h.os, h.tape, h.output, by simpa [World.setCell] using h.size, fun k hk hr => (Below.heap_setCell _ _ _ _ (by simp; omega)).trans (h.block k hk hr)⟩

theorem blockGrown {wr wr' : World} {g b : Nat} {o : Obj} (h : wr.heap[b]? = some o) (hg : wr.grownBy wr' (some g)) (hb : g < b) : wr'.heap[b]? = some o := by
  rw [hg.block b (Array.getElem?_eq_some_iff.1 h).1 (by simp; omega)]; exact h

theorem curSet {w : World} {g : Nat} {bs : List Int} (h : Cur w g bs) {b o : Nat} (hb : g < b) (u : Value) : Cur (w.setCell ⟨b, o, none⟩ u) g bs :=
  cur_grown h (grown_setCell w b o u) (by simp; omega)

theorem threeCells {w : World} {b : Nat} {x0 x1 x2 : Value} {T : TypeId} (h : w.heap[b]? = some (.cells #[x0, x1, x2] T (0, 0))) :
    w.cell? ⟨b, 0, none⟩ = some x0 ∧ w.cell? ⟨b, 1, none⟩ = some x1 ∧ w.cell? ⟨b, 2, none⟩ = some x2 ∧
      w.frozen? ⟨b, 0, none⟩ = false ∧ w.frozen? ⟨b, 1, none⟩ = false ∧ w.frozen? ⟨b, 2, none⟩ = false := by
  refine ⟨?_, ?_, ?_, ?_, ?_, ?_⟩ <;> simp [World.cell?, World.frozen?, h]

theorem threeSet {w : World} {b : Nat} {p0 p1 p2 : Value} {t : TypeId} (h : w.heap[b]? = some (.cells #[p0, p1, p2] t (0, 0))) (x0 x1 x2 : Value) :
    (((w.setCell ⟨b, 0, none⟩ x0).setCell ⟨b, 1, none⟩ x1).setCell ⟨b, 2, none⟩ x2).heap[b]? = some (.cells #[x0, x1, x2] t (0, 0)) := by
  have h1 := heap_setCell_same w b 0 _ t x0 h
  have h2 := heap_setCell_same _ b 1 _ t x1 h1
  have h3 := heap_setCell_same _ b 2 _ t x2 h2
  simpa using h3

end Go.Proofs.YtjdmmpdcafbneaaDoor
