/-
  Put together out of: Base, Stmt, Stmts, IntS, Put, RelOk, RelM, SpecRel, RelA.
-/
import Derived.Test.YtciccbbgamklbaaRows
import Derived.WalkKit
import Derived.ProofKit
import Derived.OpenShut
import Derived.ShutString
import Derived.Handy
import Derived.Laws.BytesArg
import Derived.Deep.QuietTactic
import Derived.BigQuiet
import Derived.Deep.RegionWith
import Derived.Lib.QuietBelow
import Derived.Laws.AppendOwnNone
import Derived.Laws.BitsAllLaws
import Derived.Deep.AppendLies
import Derived.Deep.RegionHeld3
import Derived.Deep.WholeRow
import Derived.Deep.MidRow
import Derived.ChangeKeysEq
import Derived.Laws.Cover3
/-
  Lemmas of the verifier's own that speak of no dump: slices of texts as they lie in memory, worlds that grow.
-/
namespace Go.Proofs.Ytciccbbgamklbaa
open Go.RowKit

/-- The slice v holds the cells xs (one cell each). -/
def Reads (w : World) (v : Value) (xs : List Value) : Prop :=
  ∃ ao cap, v = .slice ao xs.length cap ∧ ∀ j x, xs[j]? = some x → ∃ g off, ao = some ⟨g, off, none⟩ ∧ w.cell? ⟨g, off + j, none⟩ = some x

theorem reads_own {w : World} {base : Nat} {e : TypeId} {v : Value} {n : Nat} {xs : List Value} (h : w.ownsRow base e 1 v n xs) : Reads w v xs := by
  have hl := h.1
  simp only [Nat.mul_one] at hl
  subst hl
  rcases h.2 with ⟨rfl, hn⟩ | ⟨g, cap, cur, rfl, hr⟩
  · exact ⟨none, 0, by rw [hn], fun j x hx => by rw [List.eq_nil_of_length_eq_zero hn] at hx; simp at hx⟩
  · refine ⟨some ⟨g, 0, none⟩, cap, rfl, fun j x hx => ⟨g, 0, rfl, ?_⟩⟩
    have hj : j < xs.length := by
      rcases Nat.lt_or_ge j xs.length with h | h
      · exact h
      · rw [List.getElem?_eq_none h] at hx; simp at hx
    have := h.cellAt j (by omega)
    rw [Nat.zero_add, this, hx]

theorem reads_below {w w' : World} {v : Value} {xs : List Value} (h : Reads w v xs) (hb : Below w.heap.size w w') : Reads w' v xs := by
  obtain ⟨ao, cap, rfl, hc⟩ := h
  refine ⟨ao, cap, rfl, fun j x hx => ?_⟩
  obtain ⟨g, off, hg, hcell⟩ := hc j x hx
  exact ⟨g, off, hg, (hb.cell (World.block_lt_of_cell? w _ hcell)).trans hcell⟩

theorem own_below {w w' : World} {base : Nat} {e : TypeId} {s : Nat} {v : Value} {n : Nat} {xs : List Value} (h : w.ownsRow base e s v n xs) {B : Nat} (hb : Below B w w')
    (hB : ∀ k, v.ownBlock = some k → k < B) : w'.ownsRow base e s v n xs := by
  refine ⟨h.1, ?_⟩
  rcases h.2 with hn | ⟨g, cap, cur, rfl, hbg, hg, r⟩
  · exact .inl hn
  · exact .inr ⟨g, cap, cur, rfl, hbg, by rw [hb.block g (hB g rfl)]; exact hg, r⟩

theorem own_kept {w w' : World} {base : Nat} {e : TypeId} {s : Nat} {v : Value} {n : Nat} {xs : List Value} (h : w.ownsRow base e s v n xs) (hb : Below w.heap.size w w') : w'.ownsRow base e s v n xs :=
  own_below h hb (fun k hk => (h.lt k hk).2)

theorem own_mono {w : World} {base base' : Nat} {e : TypeId} {s : Nat} {v : Value} {n : Nat} {xs : List Value} (h : w.ownsRow base e s v n xs) (hB : base' ≤ base) : w.ownsRow base' e s v n xs := by
  refine ⟨h.1, ?_⟩
  rcases h.2 with hn | ⟨g, cap, cur, rfl, hbg, r⟩
  · exact .inl hn
  · exact .inr ⟨g, cap, cur, rfl, Nat.le_trans hB hbg, r⟩

/-- All cells and marks of what was there read as before. -/
theorem bcell {W w1 : World} (hb : Below W.heap.size W w1) : (∀ b o, b < W.heap.size → w1.cell? ⟨b, o, none⟩ = W.cell? ⟨b, o, none⟩) ∧ (∀ b o, b < W.heap.size → w1.frozen? ⟨b, o, none⟩ = W.frozen? ⟨b, o, none⟩) :=
  ⟨fun b o h => hb.cell (p := ⟨b, o, none⟩) h, fun b o h => hb.frozen (p := ⟨b, o, none⟩) h⟩

theorem below_drewN {B : Nat} {a w : World} (h : Below B a w) (n : Nat) : Below B a (w.drewN n) := ⟨h.os, h.tape, h.output, h.size, h.block⟩

theorem grown_trans {a b c : World} {row : Option Nat} (h : a.grownBy b row) (k : b.grownBy c row) : a.grownBy c row :=
  ⟨k.os.trans h.os, k.tape.trans h.tape, k.output.trans h.output, Nat.le_trans h.size k.size, fun i hi hr => (k.block i (Nat.lt_of_lt_of_le hi h.size) hr).trans (h.block i hi hr)⟩

theorem grown_of_below {w w' : World} (h : Below w.heap.size w w') (row : Option Nat) : w.grownBy w' row := ⟨h.os, h.tape, h.output, h.size, fun i hi _ => h.block i hi⟩

theorem own_grown {w w' : World} {base : Nat} {e : TypeId} {s : Nat} {v : Value} {n : Nat} {xs : List Value} {row : Option Nat} (h : w.ownsRow base e s v n xs) (hg : w.grownBy w' row)
    (hne : ∀ k, v.ownBlock = some k → row ≠ some k) : w'.ownsRow base e s v n xs := by
  refine h.kept hg ?_
  cases hv : v.ownBlock with
  | none => exact .inl rfl
  | some k => exact .inr (fun e => hne k hv e.symm)

theorem old_block {w : World} {o : Obj} {i : Nat} (h : i < w.heap.size) : (w.alloc o).heap[i]? = w.heap[i]? := by
  show (w.heap.push o)[i]? = w.heap[i]?
  rw [Array.getElem?_push, if_neg (Nat.ne_of_lt h)]

theorem ret_int {k : IntKind} {a b : Int} (h : a = b) : Ending.returned (.int k a) = .returned (.int k b) := by rw [h]

end Go.Proofs.Ytciccbbgamklbaa

/-
  Chapter 3: l1In, within, toStmt, spec.StmtOk, impl.StmtOk: what both answer of a statement.
-/
namespace Go.Proofs.Ytciccbbgamklbaa
open Go.RowKit
set_option linter.unusedVariables false
set_option maxHeartbeats 4000000

/-- Is it from lo to hi? -/
def inB (x lo hi : Int) : Bool := decide (lo ≤ x) && decide (x ≤ hi)

theorem l1In (x lo hi : Int) (w : World) :
    Calls Try.prog 24 #[.int .i64 x, .int .i64 lo, .int .i64 hi] w fun e w' => e = .returned (.bool (inB x lo hi)) ∧ w = w' := by
  unfold inB
  by_cases h : lo ≤ x
  · have h' : decide (lo ≤ x) = true := by simpa using h
    go_enter Try.func24, Try.ntmps24
    go_wp2
    go_ret
    exact ⟨by simp [h], rfl⟩
  · have h' : decide (lo ≤ x) = false := by simpa using h
    go_enter Try.func24, Try.ntmps24
    go_wp2
    go_ret
    exact ⟨by simp, rfl⟩

/-- Is it below n, and not below 0? -/
def wiB (x n : Int) : Bool := decide (0 ≤ x) && decide (x < n)

theorem within (x n : Int) (w : World) :
    Calls Try.prog 31 #[.int .i64 x, .int .i64 n] w fun e w' => e = .returned (.bool (wiB x n)) ∧ w = w' := by
  unfold wiB
  by_cases h : 0 ≤ x
  · have h' : decide (0 ≤ x) = true := by simpa using h
    go_enter Try.func31, Try.ntmps31
    go_wp2
    go_ret
    exact ⟨by simp [h], rfl⟩
  · have h' : decide (0 ≤ x) = false := by simpa using h
    go_enter Try.func31, Try.ntmps31
    go_wp2
    go_ret
    exact ⟨by simp, rfl⟩

theorem toStmt (k x y : Int) (w : World) :
    Calls Try.prog 50 #[.agg #[.int .i64 k, .int .i64 x, .int .i64 y]] w fun e w' => e = .returned (.agg #[.int .i64 k, .int .i64 x, .int .i64 y]) ∧ Below w.heap.size w w' := by
  go_enter Try.func50, Try.ntmps50
  go_wp2
  go_returns
  exact ⟨rfl, by go_grown⟩

/-- What both answer of a statement. -/
def stmtOk (k x y : Int) : Bool :=
  if k = 1 ∨ k = 9 then inB x 0 0 && inB y 0 0
  else if k = 2 ∨ k = 3 then inB x 0 5 && inB y 0 5
  else if k = 4 ∨ k = 5 ∨ k = 6 then inB x 0 5 && inB y 0 0
  else if k = 7 then inB x 0 0 && inB y 0 11
  else if k = 8 then inB x 0 0 && inB y 0 3
  else false

theorem inB_nil (x : Int) : inB x 0 0 = (x == 0) := by
  unfold inB
  rw [Bool.eq_iff_iff]
  simp
  omega

theorem inB_wi (x n : Int) : inB x 0 n = wiB x (n + 1) := by
  unfold inB wiB
  rw [Bool.eq_iff_iff]
  simp
  omega

theorem kinds (k : Int) : k = 1 ∨ k = 2 ∨ k = 3 ∨ k = 4 ∨ k = 5 ∨ k = 6 ∨ k = 7 ∨ k = 8 ∨ k = 9 ∨ (k ≠ 1 ∧ k ≠ 2 ∧ k ≠ 3 ∧ k ≠ 4 ∧ k ≠ 5 ∧ k ≠ 6 ∧ k ≠ 7 ∧ k ≠ 8 ∧ k ≠ 9) := by omega

theorem specStmtOk (k x y : Int) (w : World) :
    Calls Try.prog 69 #[.agg #[.int .i64 k, .int .i64 x, .int .i64 y]] w fun e w' => e = .returned (.bool (stmtOk k x y)) ∧ Below w.heap.size w w' := by
  unfold stmtOk
  rw [inB_nil, inB_nil]
  rcases kinds k with rfl | rfl | rfl | rfl | rfl | rfl | rfl | rfl | rfl | ⟨h1, h2, h3, h4, h5, h6, h7, h8, h9⟩
  all_goals
    simp only [Int.reduceEq, or_false, or_true, or_self, if_true, if_false, *]
    first
      | cases hx : inB x 0 5
      | skip
    all_goals
      go_enter Try.func69, Try.ntmps69
      go_wp2_with (first | (go_at_call 24; refine (l1In _ _ _ _).mono ?_; rintro e w' ⟨rfl, rfl⟩))
      all_goals
        go_ret
        exact ⟨by simp [*], by go_grown⟩

theorem implStmtOk (k x y : Int) (w : World) :
    Calls Try.prog 67 #[.agg #[.int .i64 k, .int .i64 x, .int .i64 y]] w fun e w' => e = .returned (.bool (stmtOk k x y)) ∧ Below w.heap.size w w' := by
  unfold stmtOk
  rw [inB_wi, inB_wi, inB_wi, inB_wi, inB_wi, inB_wi]
  rcases kinds k with rfl | rfl | rfl | rfl | rfl | rfl | rfl | rfl | rfl | ⟨h1, h2, h3, h4, h5, h6, h7, h8, h9⟩
  all_goals
    simp only [Int.reduceEq, or_false, or_true, or_self, if_true, if_false, Int.reduceAdd, Int.zero_add, *]
    first
      | (cases hx : wiB x 1)
      | (cases hx : wiB x 6)
      | skip
    all_goals
      go_enter Try.func67, Try.ntmps67
      go_wp2_with (first | (go_at_call 31; refine (within _ _ _).mono ?_; rintro e w' ⟨rfl, rfl⟩))
      all_goals
        go_ret
        exact ⟨by simp [*], by go_grown⟩

end Go.Proofs.Ytciccbbgamklbaa

/-
  Slices of statements as they lie in memory (three cells each): toStmtS, szStmtS, eqStmt, eqStmtS.
-/
namespace Go.Proofs.Ytciccbbgamklbaa
open Go.RowKit
set_option linter.unusedVariables false
set_option maxHeartbeats 4000000

/-- A statement's three numbers. -/
structure Stm where
  k : Int
  x : Int
  y : Int

/-- The cells of statements. -/
def cells3 : List Stm → List Value
  | [] => []
  | s :: ss => .int .i64 s.k :: .int .i64 s.x :: .int .i64 s.y :: cells3 ss

theorem cells3_length : ∀ ss : List Stm, (cells3 ss).length = ss.length * 3
  | [] => rfl
  | s :: ss => by simp [cells3, cells3_length ss]; omega

theorem cells3_get : ∀ (ss : List Stm) (j : Nat) (s : Stm), ss[j]? = some s →
    (cells3 ss)[j * 3]? = some (.int .i64 s.k) ∧ (cells3 ss)[j * 3 + 1]? = some (.int .i64 s.x) ∧ (cells3 ss)[j * 3 + 2]? = some (.int .i64 s.y)
  | [], j, s, h => by simp at h
  | t :: ss, 0, s, h => by simp at h; subst h; simp [cells3]
  | t :: ss, j + 1, s, h => by
    have := cells3_get ss j s (by simpa using h)
    have e : (j + 1) * 3 = j * 3 + 1 + 1 + 1 := by omega
    simp only [e, cells3]
    exact this

theorem cells3_append : ∀ (a b : List Stm), cells3 (a ++ b) = cells3 a ++ cells3 b
  | [], b => rfl
  | s :: a, b => by simp [cells3, cells3_append a b]

/-- The slice v holds the statements ss. -/
def Reads3 (w : World) (v : Value) (ss : List Stm) : Prop :=
  ∃ ao cap, v = .slice ao ss.length cap ∧ ∀ j s, ss[j]? = some s → ∃ g off, ao = some ⟨g, off, none⟩ ∧
    w.cell? ⟨g, off + j * 3, none⟩ = some (.int .i64 s.k) ∧ w.cell? ⟨g, off + j * 3 + 1, none⟩ = some (.int .i64 s.x) ∧ w.cell? ⟨g, off + j * 3 + 2, none⟩ = some (.int .i64 s.y)

theorem reads3_below {w w' : World} {v : Value} {ss : List Stm} (h : Reads3 w v ss) (hb : Below w.heap.size w w') : Reads3 w' v ss := by
  obtain ⟨ao, cap, rfl, hc⟩ := h
  refine ⟨ao, cap, rfl, fun j s hs => ?_⟩
  obtain ⟨g, off, hg, c0, c1, c2⟩ := hc j s hs
  have hB := World.block_lt_of_cell? w _ c0
  exact ⟨g, off, hg, (hb.cell hB).trans c0, (hb.cell (p := ⟨g, off + j * 3 + 1, none⟩) hB).trans c1, (hb.cell (p := ⟨g, off + j * 3 + 2, none⟩) hB).trans c2⟩

theorem reads3_own {w : World} {base : Nat} {e : TypeId} {v : Value} {ss : List Stm} (h : w.ownsRow base e 3 v ss.length (cells3 ss)) : Reads3 w v ss := by
  rcases h.2 with ⟨rfl, hn⟩ | ⟨g, cap, cur, rfl, hr⟩
  · exact ⟨none, 0, by rw [hn], fun j s hs => by rw [List.eq_nil_of_length_eq_zero hn] at hs; simp at hs⟩
  · refine ⟨some ⟨g, 0, none⟩, cap, rfl, fun j s hs => ⟨g, 0, rfl, ?_⟩⟩
    have hj : j < ss.length := by
      rcases Nat.lt_or_ge j ss.length with h | h
      · exact h
      · rw [List.getElem?_eq_none h] at hs; simp at hs
    obtain ⟨a0, a1, a2⟩ := cells3_get ss j s hs
    have hl := cells3_length ss
    simp only [Nat.zero_add]
    rw [h.cellAt (j * 3) (by omega), h.cellAt (j * 3 + 1) (by omega), h.cellAt (j * 3 + 2) (by omega)]
    exact ⟨a0, a1, a2⟩

theorem eqStmt (k x y : Int) (w : World) :
    Calls Try.prog 57 #[.agg #[.int .i64 k, .int .i64 x, .int .i64 y], .agg #[.int .i64 k, .int .i64 x, .int .i64 y]] w fun e w' => e = .returned (.bool true) ∧ Below w.heap.size w w' := by
  go_enter Try.func57, Try.ntmps57
  go_wp2
  go_ret
  exact ⟨rfl, by go_grown⟩

theorem eqStmtS (ss : List Stm) (v u : Value) (w : World) (hl : ss.length ≤ maxLen) (hv : Reads3 w v ss) (hu : Reads3 w u ss) :
    Calls Try.prog 35 #[v, u] w fun e w' => e = .returned (.bool true) ∧ Below w.heap.size w w' := by
  unfold maxLen at hl
  obtain ⟨ao, cap, rfl, hc⟩ := hv
  obtain ⟨bo, cap', rfl, hd⟩ := hu
  go_enter Try.func35, Try.ntmps35
  go_wp2
  go_loopw [5] (fun i wr => ∃ k : Nat, k ≤ ss.length ∧ i = .int .i64 k ∧ Below w.heap.size w wr) (fun i _ => ss.length - (intOf i).toNat)
  case atStart => exact ⟨0, Nat.zero_le _, rfl, Below.refl _ _⟩
  case round =>
    obtain ⟨k, hk, rfl, hb⟩ := hrel
    by_cases hlt : k < ss.length
    · obtain ⟨g, off, rfl, p0, p1, p2⟩ := hc k ss[k] (by simp [hlt])
      obtain ⟨g', off', rfl, q0, q1, q2⟩ := hd k ss[k] (by simp [hlt])
      have pB := World.block_lt_of_cell? w _ p0
      have qB := World.block_lt_of_cell? w _ q0
      have p0 := cell_regrown ((hb.cell pB).trans p0)
      have p1 := cell_regrown ((hb.cell (p := ⟨g, off + k * 3 + 1, none⟩) pB).trans p1)
      have p2 := cell_regrown ((hb.cell (p := ⟨g, off + k * 3 + 2, none⟩) pB).trans p2)
      have q0 := cell_regrown ((hb.cell qB).trans q0)
      have q1 := cell_regrown ((hb.cell (p := ⟨g', off' + k * 3 + 1, none⟩) qB).trans q1)
      have q2 := cell_regrown ((hb.cell (p := ⟨g', off' + k * 3 + 2, none⟩) qB).trans q2)
      have hlt' : (k : Int) < (ss.length : Int) := by omega
      have he : ∀ d os, _ := fun d os => Calls.regrown_of (w := wr) (d := d) (os := os) (eqStmt ss[k].k ss[k].x ss[k].y _)
      clear hc hd
      generalize ss[k] = s at *
      go_wp2
      refine wp_region_quiet_below (by kernel_rfl) (by kernel_rfl) ?_
      repeat (go_big_quiet_step (exact he _ _))
      refine wpQuiet_nil ?_
      intro _ hw'
      obtain ⟨⟨dq, osq⟩, hw''⟩ := hw'
      subst hw''
      have hb' := hb.trans ((below_regrown wr dq osq).mono hb.size)
      go_wp2
      go_roundw
      case rel => exact ⟨k + 1, by omega, by go_num, hb'⟩
      case measure => simp [intOf]; omega
    · go_wp2
      go_ret
      exact ⟨rfl, hb⟩

theorem infoStmt : (Try.prog.info? 54).map (fun i => (i.zero, i.size, i.bytes)) = some (some (.agg #[.int .i64 0, .int .i64 0, .int .i64 0]), 3, 24) := by kernel_rfl

/-- A row of n cells, the first k of them those of xs. -/
def filled (xs zs : List Value) (k : Nat) : List Value := xs.take k ++ zs.drop k

theorem filled_length (xs zs : List Value) (k : Nat) (hl : xs.length = zs.length) (h : k ≤ xs.length) : (filled xs zs k).length = xs.length := by
  simp [filled]; omega

theorem filled_set (xs zs : List Value) (k : Nat) (x : Value) (hl : xs.length = zs.length) (h : xs[k]? = some x) : (filled xs zs k).set k x = filled xs zs (k + 1) := by
  obtain ⟨hk, rfl⟩ := List.getElem?_eq_some_iff.1 h
  unfold filled
  have hk' : (xs.take k).length = k := by simp; omega
  rw [List.set_append_right _ _ (by simp; omega), hk', Nat.sub_self, List.drop_eq_getElem_cons (by omega), List.set_cons_zero, List.take_succ_eq_append_getElem hk]
  exact (List.append_assoc (xs.take k) [xs[k]] (zs.drop (k + 1))).symm

theorem filled_all (xs zs : List Value) (k : Nat) (hl : xs.length = zs.length) (h : k = xs.length) : filled xs zs k = xs := by
  rw [filled, List.take_of_length_le (by omega), List.drop_of_length_le (by omega), List.append_nil]

/-- A cell of a row that is owned: it is there. -/
theorem own_cell {w : World} {base : Nat} {e : TypeId} {s n g cap : Nat} {xs : List Value} (h : w.ownsRow base e s (.slice (some ⟨g, 0, none⟩) n cap) n xs) (j : Nat) (hj : j < n * s) : ∃ x, w.cell? ⟨g, j, none⟩ = some x := by
  have h1 := h.cellAt j hj
  have h2 := h.1
  exact ⟨xs[j]'(by omega), by rw [h1]; simp⟩

theorem toStmtS (ss : List Stm) (v : Value) (w : World) (hl : ss.length ≤ 1048576) (hv : Reads3 w v ss) :
    Calls Try.prog 29 #[v] w fun e w' => ∃ u, e = .returned u ∧ w'.ownsRow w.heap.size 54 3 u ss.length (cells3 ss) ∧ Below w.heap.size w w' := by
  obtain ⟨i0, hi, hz0, hz1, hz2⟩ := info_parts infoStmt
  obtain ⟨ao, cap, rfl, hc⟩ := hv
  have cl := cells3_length ss
  go_enter Try.func29, Try.ntmps29
  go_wp2_with (refine wpList_make_full _ rfl (.tmp 6) (.tmp 6) 28 rfl w.heap.size 54 i0 (.agg #[.int .i64 0, .int .i64 0, .int .i64 0]) 3 Try.underlying28 hi hz0 hz1 .i64 .i64 _ _ ss.length rfl rfl rfl rfl (by rw [hz2]; omega) (by unfold maxLen; omega) (Nat.le_refl _) ?_; intro w1 own1 grow1)
  have zl : (madeCells (Value.agg #[.int .i64 0, .int .i64 0, .int .i64 0]).cells (ss.length * 3)).toList.length = ss.length * 3 := by simpa using own1.1
  generalize (madeCells (Value.agg #[.int .i64 0, .int .i64 0, .int .i64 0]).cells (ss.length * 3)).toList = zs at own1 zl
  have hb1 : Below w.heap.size w w1 := (Below.refl _ _).grown grow1 (Nat.le_refl _) (by simp)
  go_loopw [4] (fun i wr => ∃ k : Nat, k ≤ ss.length ∧ i = .int .i64 k ∧ wr.ownsRow w.heap.size 54 3 (.slice (some ⟨w.heap.size, 0, none⟩) ss.length ss.length) ss.length (filled (cells3 ss) zs (k * 3)) ∧ Below w.heap.size w wr) (fun i _ => ss.length - (intOf i).toNat)
  case atStart => exact ⟨0, Nat.zero_le _, rfl, by simpa [filled] using own1, hb1⟩
  case round =>
    obtain ⟨k, hk, rfl, hown, hb⟩ := hrel
    by_cases hlt : k < ss.length
    · have hsk : ss[k]? = some ss[k] := by simp [hlt]
      obtain ⟨g, off, rfl, p0, p1, p2⟩ := hc k ss[k] hsk
      obtain ⟨a0, a1, a2⟩ := cells3_get ss k ss[k] hsk
      have pB := World.block_lt_of_cell? w _ p0
      have p0 := (hb.cell pB).trans p0
      have p1 := (hb.cell (p := ⟨g, off + k * 3 + 1, none⟩) pB).trans p1
      have p2 := (hb.cell (p := ⟨g, off + k * 3 + 2, none⟩) pB).trans p2
      have hlt' : (k : Int) < (ss.length : Int) := by omega
      have he := toStmt ss[k].k ss[k].x ss[k].y
      have e1 := filled_set (cells3 ss) zs (k * 3) _ (by omega) a0
      have e2 := filled_set (cells3 ss) zs (k * 3 + 1) _ (by omega) a1
      have e3 := filled_set (cells3 ss) zs (k * 3 + 2) _ (by omega) a2
      clear hc hsk a0 a1 a2
      generalize ss[k] = s at *
      go_wp2_with fail
      go_at_call 50
      refine (he wr).mono ?_
      rintro e w2 ⟨rfl, b2⟩
      have own2 := own_kept hown b2
      have hb2 := hb.trans (b2.mono hb.size)
      have f0 := own2.frozenAt (k * 3)
      have f1 := own2.frozenAt (k * 3 + 1)
      have f2 := own2.frozenAt (k * 3 + 2)
      obtain ⟨y0, c0⟩ := own_cell own2 (k * 3) (by omega)
      obtain ⟨y1, c1⟩ := own_cell own2 (k * 3 + 1) (by omega)
      obtain ⟨y2, c2⟩ := own_cell own2 (k * 3 + 2) (by omega)
      have HO : Hid (((((w2.setCell ⟨w.heap.size, k * 3, none⟩ (.int .i64 s.k)).setCell ⟨w.heap.size, k * 3 + 1, none⟩ (.int .i64 s.x)).setCell ⟨w.heap.size, k * 3 + 2, none⟩ (.int .i64 s.y))).ownsRow w.heap.size 54 3 (.slice (some ⟨w.heap.size, 0, none⟩) ss.length ss.length) ss.length (filled (cells3 ss) zs ((k + 1) * 3))) := by
        have h3 := (((own2.stored (k * 3) (.int .i64 s.k)).1.stored (k * 3 + 1) (.int .i64 s.x)).1.stored (k * 3 + 2) (.int .i64 s.y)).1
        rw [e1, e2, e3] at h3
        have : (k + 1) * 3 = k * 3 + 2 + 1 := by omega
        rw [this]
        exact h3
      clear e1 e2 e3
      go_wp2
      go_roundw
      case rel => exact ⟨k + 1, by omega, by go_num, HO.out, ((hb2.setCell (Nat.le_refl _) _).setCell (Nat.le_refl _) _).setCell (Nat.le_refl _) _⟩
      case measure => simp [intOf]; omega
    · have hkk : k = ss.length := by omega
      subst hkk
      go_wp2
      go_ret
      refine ⟨_, rfl, ?_, hb⟩
      rw [filled_all _ _ _ (by omega) (by omega)] at hown
      exact hown

/-- What is left of the purse: all but the length, -1 where it is too long. -/
theorem szStmtS (n : Nat) (a : Option Addr) (cap : Nat) (l : Int) (w : World) (hn : n ≤ maxLen) (h0 : 0 ≤ l) (hl : l ≤ 1048576) :
    Calls Try.prog 21 #[.slice a n cap, .int .i64 l] w fun e w' => e = .returned (.int .i64 (if l < n then -1 else l - n)) ∧ w = w' := by
  unfold maxLen at hn
  by_cases h : l < (n : Int)
  · rw [if_pos h]
    have hx : (decide (l - (n : Int) < 0)) = true := by simp; omega
    go_enter Try.func21, Try.ntmps21
    go_wp2
    go_ret
    exact ⟨rfl, rfl⟩
  · rw [if_neg h]
    have hx : (decide (l - (n : Int) < 0)) = false := by simp; omega
    go_enter Try.func21, Try.ntmps21
    go_wp2
    go_ret
    exact ⟨rfl, rfl⟩

end Go.Proofs.Ytciccbbgamklbaa

/-
  Slices of int64: eqInt64S, markInt64S, heldInt64S, l1Has, l1Put.
-/
namespace Go.Proofs.Ytciccbbgamklbaa
open Go.RowKit
set_option linter.unusedVariables false
set_option maxHeartbeats 1000000

def ints (xs : List Int) : List Value := xs.map (.int .i64)

theorem ints_length (xs : List Int) : (ints xs).length = xs.length := by simp [ints]

theorem eqInt64S (xs : List Int) (v u : Value) (w : World) (hl : xs.length ≤ maxLen) (hv : Reads w v (ints xs)) (hu : Reads w u (ints xs)) :
    Calls Try.prog 9 #[v, u] w fun e w' => e = .returned (.bool true) ∧ Below w.heap.size w w' := by
  unfold maxLen at hl
  obtain ⟨ao, cap, rfl, hc⟩ := hv
  obtain ⟨bo, cap', rfl, hd⟩ := hu
  simp only [ints_length]
  go_enter Try.func9, Try.ntmps9
  go_wp2
  go_loopw [5] (fun i wr => ∃ k : Nat, k ≤ xs.length ∧ i = .int .i64 k ∧ Below w.heap.size w wr) (fun i _ => xs.length - (intOf i).toNat)
  case atStart => exact ⟨0, Nat.zero_le _, rfl, Below.refl _ _⟩
  case round =>
    obtain ⟨k, hk, rfl, hb⟩ := hrel
    by_cases hlt : k < xs.length
    · obtain ⟨g, off, rfl, hg⟩ := hc k (.int .i64 xs[k]) (by simp [ints, hlt])
      obtain ⟨g', off', rfl, hg'⟩ := hd k (.int .i64 xs[k]) (by simp [ints, hlt])
      have hg := (hb.cell (World.block_lt_of_cell? w _ hg)).trans hg
      have hg' := (hb.cell (World.block_lt_of_cell? w _ hg')).trans hg'
      have hlt' : (k : Int) < (xs.length : Int) := by omega
      clear hc hd
      generalize xs[k] = x at *
      go_wp2
      go_quiet (fail)
      go_wp2
      go_roundw
      case rel => exact ⟨k + 1, by omega, by go_num, below_drewN hb _⟩
      case measure => simp [intOf]; omega
    · go_wp2
      go_ret
      exact ⟨rfl, hb⟩

/-- The marks that markInt64S lays from k on. -/
def markI (k : Int) : Nat → List Value
  | 0 => []
  | n + 1 => .int .i64 k :: markI (k + 1) n

theorem markI_length : ∀ (n : Nat) (k : Int), (markI k n).length = n
  | 0, _ => rfl
  | n + 1, k => by simp [markI, markI_length n]

theorem markI_get : ∀ (n : Nat) (k : Int) (j : Nat), j < n → (markI k n)[j]? = some (.int .i64 (k + j))
  | 0, _, _, h => absurd h (by omega)
  | n + 1, k, 0, _ => by simp [markI]
  | n + 1, k, j + 1, h => by
    rw [markI, List.getElem?_cons_succ, markI_get n (k + 1) j (by omega)]
    congr 2
    push_cast
    omega

theorem markInt64S {te : TypeId} (xs : List Value) (v : Value) (base : Nat) (k : Int) (w : World) (hl : xs.length ≤ 1099511627776) (h1 : 1 ≤ k) (h2 : k ≤ 1099511627776) (hbase : base ≤ w.heap.size)
    (hv : w.ownsRow base te 1 v xs.length xs) :
    Calls Try.prog 12 #[v, .int .i64 k] w fun e w' => e = .returned (.int .i64 (k + xs.length)) ∧ w'.ownsRow base te 1 v xs.length (markI k xs.length) ∧ Below base w w' ∧ w.grownBy w' v.ownBlock := by
  rcases hv.2 with ⟨rfl, hn⟩ | ⟨g, cap, cur, rfl, hbg, hg, hcap⟩
  · have hx : xs = [] := List.eq_nil_of_length_eq_zero hn
    subst hx
    go_enter Try.func12, Try.ntmps12
    go_wp2
    refine wp_loop_rounds 1 ?_
    rw [rounds_succ]
    go_wp2
    go_ret
    exact ⟨ret_int (by simp), hv, Below.refl _ _, World.grownBy.refl _ _⟩
  · clear hcap
    have ml := markI_length xs.length k
    go_enter Try.func12, Try.ntmps12
    go_wp2
    go_loopw [1, 5] (fun q i wr => ∃ j : Nat, j ≤ xs.length ∧ i = .int .i64 j ∧ q = .int .i64 (k + j) ∧ wr.ownsRow base te 1 (.slice (some ⟨g, 0, none⟩) xs.length cap) xs.length (filled (markI k xs.length) xs j) ∧ Below base w wr ∧ w.grownBy wr (some g)) (fun _ i _ => xs.length - (intOf i).toNat)
    case atStart => exact ⟨0, Nat.zero_le _, rfl, by simp, by simpa [filled] using hv, Below.refl _ _, World.grownBy.refl _ _⟩
    case round =>
      obtain ⟨j, hj, rfl, rfl, hown, hb, hgr⟩ := hrel
      by_cases hlt : j < xs.length
      · have hlt' : (j : Int) < (xs.length : Int) := by omega
        have hfr := hown.frozenAt j
        obtain ⟨x, hcl⟩ := own_cell hown j (by omega)
        have hst := hown.stored j (.int .i64 (k + j))
        have hset := filled_set (markI k xs.length) xs j _ ml (markI_get _ k j hlt)
        rw [hset] at hst
        have HST : Hid ((wr.setCell ⟨g, j, none⟩ (.int .i64 (k + j))).ownsRow base te 1 (.slice (some ⟨g, 0, none⟩) xs.length cap) xs.length (filled (markI k xs.length) xs (j + 1)) ∧ wr.grownBy (wr.setCell ⟨g, j, none⟩ (.int .i64 (k + j))) (some g)) := hst
        clear hst hset ml
        go_wp2
        go_roundw
        case rel => exact ⟨j + 1, by omega, by go_num, by go_num, HST.out.1, hb.setCell hbg _, grown_trans hgr HST.out.2⟩
        case measure => simp [intOf]; omega
      · have hjj : j = xs.length := by omega
        subst hjj
        rw [filled_all _ _ _ ml ml.symm] at hown
        go_wp2
        go_ret
        exact ⟨rfl, hown, hb, hgr⟩

theorem heldInt64S (n : Nat) (v : Value) (k : Int) (w : World) (hl : n ≤ 1099511627776) (h1 : 1 ≤ k) (h2 : k ≤ 1099511627776) (hv : Reads w v (markI k n)) :
    Calls Try.prog 13 #[v, .int .i64 k] w fun e w' => e = .returned (.int .i64 (k + n)) ∧ Below w.heap.size w w' := by
  obtain ⟨ao, cap, rfl, hc⟩ := hv
  rw [markI_length]
  go_enter Try.func13, Try.ntmps13
  go_wp2
  go_loopw [1, 5] (fun q i wr => ∃ j : Nat, j ≤ n ∧ i = .int .i64 j ∧ q = .int .i64 (k + j) ∧ w = wr) (fun _ i _ => n - (intOf i).toNat)
  case atStart => exact ⟨0, Nat.zero_le _, rfl, by simp, rfl⟩
  case round =>
    obtain ⟨j, hj, rfl, rfl, rfl⟩ := hrel
    by_cases hlt : j < n
    · have hlt' : (j : Int) < (n : Int) := by omega
      obtain ⟨g, off, rfl, hg⟩ := hc j _ (markI_get n k j hlt)
      clear hc
      go_wp2
      go_roundw
      case rel => exact ⟨j + 1, by omega, by go_num, by go_num, by trivial⟩
      case measure => simp [intOf]; omega
    · have hjj : j = n := by omega
      subst hjj
      go_wp2
      go_ret
      exact ⟨rfl, Below.refl _ _⟩

end Go.Proofs.Ytciccbbgamklbaa

/-
  spec.l1Has, spec.l1Put: a number into a list that rises, once.
-/
namespace Go.Proofs.Ytciccbbgamklbaa
open Go.RowKit
set_option linter.unusedVariables false
set_option maxHeartbeats 1000000


/-- n into the list that rises. -/
def ins (n : Int) : List Int → List Int
  | [] => [n]
  | x :: xs => if x < n then x :: ins n xs else if x = n then x :: xs else n :: x :: xs

theorem ins_there (n : Int) : ∀ (xs : List Int) (k : Nat), (∀ (j : Nat) (x : Int), j < k → xs[j]? = some x → x < n) → xs[k]? = some n → ins n xs = xs
  | [], k, _, h => by simp at h
  | x :: xs, 0, _, h => by simp at h; subst h; simp [ins]
  | x :: xs, k + 1, ha, h => by
    have h0 := ha 0 x (by omega) rfl
    rw [ins, if_pos h0, ins_there n xs k (fun j y hj hy => ha (j + 1) y (by omega) (by simpa using hy)) (by simpa using h)]

theorem ins_new (n : Int) : ∀ (xs : List Int) (k : Nat), k ≤ xs.length → (∀ (j : Nat) (x : Int), j < k → xs[j]? = some x → x < n) → (∀ x, xs[k]? = some x → n < x) → ins n xs = xs.take k ++ [n] ++ xs.drop k
  | [], 0, _, _, _ => by simp [ins]
  | [], k + 1, h, _, _ => by simp at h
  | x :: xs, 0, _, _, h => by
    have := h x rfl
    rw [ins, if_neg (by omega), if_neg (by omega)]
    simp
  | x :: xs, k + 1, hk, ha, h => by
    have h0 := ha 0 x (by omega) rfl
    rw [ins, if_pos h0, ins_new n xs k (by simpa using hk) (fun j y hj hy => ha (j + 1) y (by omega) (by simpa using hy)) (fun y hy => h y (by simpa using hy))]
    simp

theorem infoInt : (Try.prog.info? 2).map (fun i => (i.zero, i.size, i.bytes)) = some (some (.int .i64 0), 1, 8) := by kernel_rfl

theorem ints_oneCell (xs : List Int) : ∀ y ∈ ints xs, y.oneCell' = true := by
  intro y hy
  obtain ⟨t, _, rfl⟩ := List.mem_map.1 hy
  rfl

/-- The source of an append: nil, or a row. -/
theorem own_shape {w : World} {base : Nat} {e : TypeId} {v : Value} {n : Nat} {xs : List Value} (h : w.ownsRow base e 1 v n xs) :
    (v = .slice none 0 0 ∧ n = 0 ∧ xs = []) ∨ ∃ g cap, v = .slice (some ⟨g, 0, none⟩) n cap ∧ xs.length = n ∧ (∀ j u, xs[j]? = some u → w.cell? ((⟨g, 0, none⟩ : Addr).add j) = some u) := by
  have hl := h.1
  simp only [Nat.mul_one] at hl
  rcases h.2 with ⟨rfl, rfl⟩ | ⟨g, cap, cur, rfl, _⟩
  · exact .inl ⟨rfl, rfl, List.eq_nil_of_length_eq_zero hl⟩
  · exact .inr ⟨g, cap, rfl, hl, h.cells rfl⟩

/-- append(out, l...), out the call's own, l a row of the call's own or nil. -/
theorem wpList_append_rows {P : Program} (w : World) {ops : Array Oper} {rest : List Oper} {o : Oper} {a : Act} {Q : Exit → Act → World → Prop} (hgd : o.guard = none) (s x : Operand) (t : TypeId)
    (ho : o.op = .call { callee := .builtin .append, args := #[s, x], argTypes := #[t, t] })
    (base : Nat) (e : TypeId) (i : TypeInfo) (z : Value) (bytes : Nat) (ht : P.underlying t = some (.slice e)) (hi : P.info? e = some i) (hz : i.zero = some z)
    (hsize : i.size = 1) (hby : i.bytes = bytes) (hzs : z.cells.size = 1)
    (v : Value) (n : Nat) (xs : List Value) (hs : a.eval s = v) (hown : w.ownsRow base e 1 v n xs)
    (u : Value) (base' m : Nat) (ys : List Value) (hx : a.eval x = u) (hsrc : w.ownsRow base' e 1 u m ys) (h1 : ∀ y ∈ ys, y.oneCell' = true)
    (h63 : n + m ≤ maxLen) (hbytes : (n + m) * bytes ≤ 140737488355328) (hbase : base ≤ w.heap.size)
    (h : ∀ v' w', w'.ownsRow base e 1 v' (n + m) (xs ++ ys) → w.grownBy w' v.ownBlock → wpList P ops Q rest (a.put o.dst v') w') : wpList P ops Q (o :: rest) a w := by
  rcases own_shape hsrc with ⟨rfl, rfl, rfl⟩ | ⟨g, cap, rfl, hl, hc⟩
  · exact wpList_append_own_none hgd s x t ho base e i 1 ht hi v n xs hs hown hx (h v w (by simpa using hown) (World.grownBy.refl _ _))
  · exact wpList_append_own w hgd s x t ho base e i z 1 bytes ht hi hz hsize hby hzs (by decide) v n xs hs hown ⟨g, 0, none⟩ m cap ys hx (by simpa using hl) hc h1 h63 hbytes hbase (fun v' w' a1 a2 _ => h v' w' a1 a2)

theorem below_app {w W w1 : World} {row : Option Nat} (hW : Below w.heap.size w W) (hg : W.grownBy w1 row) (hrow : ∀ k, row = some k → w.heap.size ≤ k) : Below w.heap.size w w1 := hW.grown hg hW.size hrow

theorem cells_drop {w W : World} {g k : Nat} {xs : List Int} (hW : Below w.heap.size w W) (hc : ∀ (j : Nat) (x : Int), xs[j]? = some x → w.cell? ⟨g, j, none⟩ = some (.int .i64 x)) :
    ∀ j u, ((ints xs).drop k)[j]? = some u → W.cell? ((⟨g, k, none⟩ : Addr).add j) = some u := by
  intro j u h
  rw [List.getElem?_drop] at h
  simp only [ints, List.getElem?_map, Option.map_eq_some_iff] at h
  obtain ⟨x, hx, rfl⟩ := h
  have h1 := hc _ x hx
  have : (⟨g, k, none⟩ : Addr).add j = ⟨g, k + j, none⟩ := by unfold Addr.add; split <;> simp_all
  rw [this, hW.cell (World.block_lt_of_cell? w _ h1)]
  exact h1

theorem cells_take {w W : World} {g k : Nat} {xs : List Int} (hW : Below w.heap.size w W) (hc : ∀ (j : Nat) (x : Int), xs[j]? = some x → w.cell? ⟨g, j, none⟩ = some (.int .i64 x)) :
    ∀ j u, ((ints xs).take k)[j]? = some u → W.cell? ((⟨g, 0, none⟩ : Addr).add j) = some u := by
  intro j u h
  have hj : j < k := by
    rcases Nat.lt_or_ge j k with h' | h'
    · exact h'
    · rw [List.getElem?_take, if_neg (by omega)] at h; cases h
  rw [List.getElem?_take, if_pos hj] at h
  simp only [ints, List.getElem?_map, Option.map_eq_some_iff] at h
  obtain ⟨x, hx, rfl⟩ := h
  have h1 := hc _ x hx
  have : (⟨g, 0, none⟩ : Addr).add j = ⟨g, j, none⟩ := by unfold Addr.add; split <;> simp_all
  rw [this, hW.cell (World.block_lt_of_cell? w _ h1)]
  exact h1

theorem oneCell_take {xs : List Int} (k : Nat) : ∀ y ∈ (ints xs).take k, y.oneCell' = true := fun y hy => ints_oneCell xs y (List.mem_of_mem_take hy)
theorem oneCell_drop {xs : List Int} (k : Nat) : ∀ y ∈ (ints xs).drop k, y.oneCell' = true := fun y hy => ints_oneCell xs y (List.mem_of_mem_drop hy)

theorem made0 (w : World) : (w.alloc (.cells #[] 2)).ownsRow w.heap.size 2 1 (.slice (some ⟨w.heap.size, 0, none⟩) 0 0) 0 [] :=
  World.ownsRow_made w #[] 0 (Nat.le_refl _) (by decide) (by simp)

theorem cell_one (w : World) (n : Int) : ∀ (j : Nat) (u : Value), [Value.int .i64 n][j]? = some u → (w.alloc (.cells #[.int .i64 n] 2)).cell? ((⟨w.heap.size, 0, none⟩ : Addr).add j) = some u := by
  intro j u h
  cases j with
  | zero => simp at h; subst h; simp [Addr.add]
  | succ j => simp at h

theorem nil_cells {zs : List Value} (hz : zs = []) {W : World} (ad : Addr) : ∀ j u, zs[j]? = some u → W.cell? (ad.add j) = some u := by
  intro j u h
  rw [hz] at h
  simp at h

theorem le_alloc {w1 w2 : World} {o o' : Obj} (h : (w1.alloc o).heap.size ≤ w2.heap.size) : w1.heap.size ≤ (w2.alloc o').heap.size := by
  simp at h ⊢; omega

theorem le_alloc2 {w1 w2 w3 : World} {o o' : Obj} (h : (w1.alloc o).heap.size ≤ w2.heap.size) (k : (w2.alloc o').heap.size ≤ w3.heap.size) : w1.heap.size ≤ w3.heap.size := by
  simp at h k; omega

theorem oneCell_drop0 {xs : List Int} (k : Nat) : ∀ y ∈ [] ++ (ints xs).drop k, y.oneCell' = true := by
  rw [List.nil_append]
  exact oneCell_drop k

theorem put_end {w w4 : World} {base b1 k n4 : Nat} {n : Int} {xs R : List Int} {v4 : Value} {zs : List Value} (hz : zs = (ints xs).drop k) (hR : ins n xs = R) (hi : ins n xs = xs.take k ++ [n] ++ xs.drop k)
    (own4 : w4.ownsRow b1 2 1 v4 n4 (([] ++ (ints xs).take k) ++ [.int .i64 n] ++ ([] ++ zs))) (L4 : Below w.heap.size w w4) (hb : base ≤ b1) (hb1 : w.heap.size ≤ b1) (g : Nat) :
    ∃ g' cap', Ending.returned v4 = .returned (.slice (some ⟨g', 0, none⟩) R.length cap') ∧ w4.ownsRow base 2 1 (.slice (some ⟨g', 0, none⟩) R.length cap') R.length (ints R) ∧ Below w.heap.size w w4 ∧ (g' = g ∨ w.heap.size ≤ g') := by
  have e : ([] ++ (ints xs).take k) ++ [Value.int .i64 n] ++ ([] ++ zs) = ints R := by
    rw [hz, ← hR, hi]
    simp [ints, List.map_append, List.map_take, List.map_drop]
  rw [e] at own4
  have hl := own4.1
  rw [ints_length] at hl
  have hR1 : 1 ≤ R.length := by
    rw [← hR, hi]
    simp; omega
  obtain rfl : n4 = R.length := by omega
  rcases own4.2 with ⟨_, h0⟩ | ⟨g', cap', cur, rfl, _⟩
  · omega
  · exact ⟨g', cap', rfl, own_mono own4 hb, L4, .inr (Nat.le_trans hb1 (own4.lt g' rfl).1)⟩

theorem l1PutAt (xs : List Int) (n : Int) (g cap base : Nat) (w : World) (hl : xs.length ≤ 1000000) (hbase : base ≤ w.heap.size)
    (hv : w.ownsRow base 2 1 (.slice (some ⟨g, 0, none⟩) xs.length cap) xs.length (ints xs)) :
    Calls Try.prog 49 #[.slice (some ⟨g, 0, none⟩) xs.length cap, .int .i64 n] w fun e w' =>
      ∃ g' cap', e = .returned (.slice (some ⟨g', 0, none⟩) (ins n xs).length cap') ∧ w'.ownsRow base 2 1 (.slice (some ⟨g', 0, none⟩) (ins n xs).length cap') (ins n xs).length (ints (ins n xs)) ∧ Below w.heap.size w w' ∧ (g' = g ∨ w.heap.size ≤ g') := by
  obtain ⟨i0, hi, hz0, hz1, hz2⟩ := info_parts infoInt
  have hcell : ∀ (k : Nat) (x : Int), xs[k]? = some x → w.cell? ⟨g, k, none⟩ = some (.int .i64 x) := fun k x hx => by
    have hk : k < xs.length := (List.getElem?_eq_some_iff.1 hx).1
    rw [hv.cellAt k (by omega)]
    simp [ints, hx]
  have hcap : xs.length ≤ cap ∧ cap ≤ maxLen := by
    rcases hv.2 with ⟨h, _⟩ | ⟨g', cap', cur, h, _, _, h1, h2, _⟩
    · cases h
    · simp only [Value.slice.injEq] at h
      obtain ⟨_, _, rfl⟩ := h
      exact ⟨h1, h2⟩
  obtain ⟨hcap, hcap2⟩ := hcap
  unfold maxLen at hcap2
  obtain ⟨R, hR⟩ : ∃ R, ins n xs = R := ⟨_, rfl⟩
  rw [hR]
  have HR : Hid _ := hR
  clear hR
  go_enter Try.func49, Try.ntmps49
  go_wp2
  go_loopw [5] (fun i wr => ∃ k : Nat, k ≤ xs.length ∧ i = .int .i64 k ∧ w = wr ∧ ∀ (j : Nat) (x : Int), j < k → xs[j]? = some x → x < n) (fun i _ => xs.length - (intOf i).toNat)
  case atStart => exact ⟨0, Nat.zero_le _, rfl, rfl, fun j x h => by omega⟩
  case round =>
    obtain ⟨k, hk, rfl, rfl, hno⟩ := hrel
    have HNO : Hid _ := hno
    clear hno
    have HV : Hid (w.ownsRow base 2 1 (.slice (some ⟨g, 0, none⟩) xs.length cap) xs.length (ints xs)) := hv
    have HC : Hid _ := hcell
    by_cases hlt : k < xs.length
    · have hlt' : (k : Int) < (xs.length : Int) := by omega
      have hkx : xs[k]? = some xs[k] := by simp [hlt]
      have hc0 := hcell k xs[k] hkx
      have HX : Hid _ := hkx
      clear hkx hcell
      generalize xs[k] = x at *
      by_cases hx : x < n
      · clear hv
        go_wp2
        go_roundw
        case rel =>
          refine ⟨k + 1, by omega, by go_num, by trivial, fun j y hj hy => ?_⟩
          by_cases hjk : j < k
          · exact HNO.out j y hjk hy
          · obtain rfl : j = k := by omega
            rw [HX.out] at hy
            obtain rfl := Option.some.inj hy
            exact hx
        case measure => simp [intOf]; omega
      · by_cases hxn : x = n
        · subst hxn
          clear hv
          go_wp2
          go_ret
          have he := ins_there x xs k HNO.out HX.out
          rw [HR.out] at he
          subst he
          exact ⟨g, cap, rfl, HV.out, Below.refl _ _, .inl rfl⟩
        · have hx1 : decide (x < n) = false := by simpa using hx
          have hx2 : (x == n) = false := by simpa using hxn
          have NX : Hid (∀ x, xs[k]? = some x → n < x) := by
            intro y hy
            rw [HX.out] at hy
            obtain rfl := Option.some.inj hy
            omega
          have B0 : Hid (Below w.heap.size w (w.alloc (.cells #[] 2))) := by
            show Below w.heap.size w (w.alloc (.cells #[] 2))
            go_grown
          have D1 : Hid (((ints xs).drop k).length = (xs.length - k) * 1) := by
            show ((ints xs).drop k).length = (xs.length - k) * 1
            simp [ints_length]
          have D2 : Hid (((ints xs).take k).length = k * 1) := by
            show ((ints xs).take k).length = k * 1
            simp [ints_length]; omega
          have hck : ¬ cap = k := by omega
          clear hv
          go_wp2_with (first
            | (at_builtin; refine wpList_append_own _ rfl (.tmp 34) (.tmp 37) 26 rfl w.heap.size 2 i0 (.int .i64 0) 1 8 Try.underlying26 hi hz0 hz1 hz2 rfl (by decide) _ 0 [] rfl (made0 w) ⟨g, k, none⟩ (xs.length - k) _ ((ints xs).drop k) rfl D1.out (cells_drop B0.out HC.out) (oneCell_drop k) (by unfold maxLen; omega) (by omega) (by simp) ?_; intro v1 w1 own1 grow1 _; have L1 := below_app B0.out grow1 (fun q hq => Nat.le_of_eq (Option.some.inj (show some w.heap.size = some q from hq))); have sz1 := L1.size; have B1 : Below w.heap.size w (w1.alloc (.cells #[] 2)) := L1.alloc sz1 _)
            | (at_builtin; refine wpList_append_own _ rfl (.tmp 39) (.tmp 42) 26 rfl w1.heap.size 2 i0 (.int .i64 0) 1 8 Try.underlying26 hi hz0 hz1 hz2 rfl (by decide) _ 0 [] rfl (made0 w1) ⟨g, 0, none⟩ k _ ((ints xs).take k) rfl D2.out (cells_take B1 HC.out) (oneCell_take k) (by unfold maxLen; omega) (by omega) (by simp) ?_; intro v2 w2 own2 grow2 _; have t2 := own_grown (own1.alloc (.cells #[] 2)) grow2 (fun q hq e => Nat.ne_of_gt (own1.lt q hq).2 (Option.some.inj (show some w1.heap.size = some q from e))); have L2 := below_app B1 grow2 (fun q hq => Nat.le_trans sz1 (Nat.le_of_eq (Option.some.inj (show some w1.heap.size = some q from hq)))); have sz2 := L2.size; have B2 : Below w.heap.size w (w2.alloc (.cells #[.int .i64 n] 2)) := L2.alloc sz2 _; have g2s := grow2.size)
            | (at_builtin; refine wpList_append_own _ rfl (.tmp 43) (.tmp 45) 26 rfl w1.heap.size 2 i0 (.int .i64 0) 1 8 Try.underlying26 hi hz0 hz1 hz2 rfl (by decide) _ _ _ rfl (own2.alloc _) ⟨w2.heap.size, 0, none⟩ 1 _ [.int .i64 n] rfl rfl (cell_one w2 n) (ints_oneCell [n]) (by unfold maxLen; omega) (by omega) (le_alloc g2s) ?_; intro v3 w3 own3 grow3 _; have t3 := own_grown (t2.alloc (.cells #[.int .i64 n] 2)) grow3 (fun q hq e => by have h1 := (own1.lt q hq).2; have h2 := (own2.lt q e).1; omega); have L3 := below_app B2 grow3 (fun q hq => by have := (own2.lt q hq).1; omega); have sz3 := L3.size; have g3s := grow3.size)
            | (at_builtin; refine wpList_append_rows _ rfl (.tmp 46) (.tmp 47) 26 rfl w1.heap.size 2 i0 (.int .i64 0) 8 Try.underlying26 hi hz0 hz1 hz2 rfl _ _ _ rfl own3 _ w.heap.size _ _ rfl t3 (oneCell_drop0 k) (by unfold maxLen; omega) (by omega) (le_alloc2 g2s g3s) ?_; intro v4 w4 own4 grow4; have L4 := below_app L3 grow4 (fun q hq => by have := (own3.lt q hq).1; omega))
            | go_in)
          go_ret
          exact put_end rfl HR.out (ins_new n xs k hk HNO.out NX.out) own4 L4 (by omega) (by omega) g
    · obtain rfl : k = xs.length := by omega
      have NX : Hid (∀ x, xs[xs.length]? = some x → n < x) := by
        intro y hy
        rw [List.getElem?_eq_none (by omega)] at hy
        cases hy
      have B0 : Hid (Below w.heap.size w (w.alloc (.cells #[] 2))) := by
        show Below w.heap.size w (w.alloc (.cells #[] 2))
        go_grown
      have D2 : Hid (((ints xs).take xs.length).length = xs.length * 1) := by
        show ((ints xs).take xs.length).length = xs.length * 1
        simp [ints_length]
      have DN : Hid ((ints xs).drop xs.length = []) := by
        show (ints xs).drop xs.length = []
        rw [List.drop_of_length_le (by rw [ints_length]; omega)]
      clear hv
      by_cases hck : cap = xs.length
      · go_wp2_with (first
          | (at_builtin; refine wpList_append_own _ rfl (.tmp 34) (.tmp 37) 26 rfl w.heap.size 2 i0 (.int .i64 0) 1 8 Try.underlying26 hi hz0 hz1 hz2 rfl (by decide) _ 0 [] rfl (made0 w) _ 0 _ [] rfl rfl (nil_cells rfl _) (by simp) (by unfold maxLen; omega) (by omega) (by simp) ?_; intro v1 w1 own1 grow1 _; have L1 := below_app B0.out grow1 (fun q hq => Nat.le_of_eq (Option.some.inj (show some w.heap.size = some q from hq))); have sz1 := L1.size; have B1 : Below w.heap.size w (w1.alloc (.cells #[] 2)) := L1.alloc sz1 _)
          | (at_builtin; refine wpList_append_own _ rfl (.tmp 39) (.tmp 42) 26 rfl w1.heap.size 2 i0 (.int .i64 0) 1 8 Try.underlying26 hi hz0 hz1 hz2 rfl (by decide) _ 0 [] rfl (made0 w1) ⟨g, 0, none⟩ xs.length _ ((ints xs).take xs.length) rfl D2.out (cells_take B1 HC.out) (oneCell_take xs.length) (by unfold maxLen; omega) (by omega) (by simp) ?_; intro v2 w2 own2 grow2 _; have t2 := own_grown (own1.alloc (.cells #[] 2)) grow2 (fun q hq e => Nat.ne_of_gt (own1.lt q hq).2 (Option.some.inj (show some w1.heap.size = some q from e))); have L2 := below_app B1 grow2 (fun q hq => Nat.le_trans sz1 (Nat.le_of_eq (Option.some.inj (show some w1.heap.size = some q from hq)))); have sz2 := L2.size; have B2 : Below w.heap.size w (w2.alloc (.cells #[.int .i64 n] 2)) := L2.alloc sz2 _; have g2s := grow2.size)
          | (at_builtin; refine wpList_append_own _ rfl (.tmp 43) (.tmp 45) 26 rfl w1.heap.size 2 i0 (.int .i64 0) 1 8 Try.underlying26 hi hz0 hz1 hz2 rfl (by decide) _ _ _ rfl (own2.alloc _) ⟨w2.heap.size, 0, none⟩ 1 _ [.int .i64 n] rfl rfl (cell_one w2 n) (ints_oneCell [n]) (by unfold maxLen; omega) (by omega) (le_alloc g2s) ?_; intro v3 w3 own3 grow3 _; have t3 := own_grown (t2.alloc (.cells #[.int .i64 n] 2)) grow3 (fun q hq e => by have h1 := (own1.lt q hq).2; have h2 := (own2.lt q e).1; omega); have L3 := below_app B2 grow3 (fun q hq => by have := (own2.lt q hq).1; omega); have sz3 := L3.size; have g3s := grow3.size)
          | (at_builtin; refine wpList_append_rows _ rfl (.tmp 46) (.tmp 47) 26 rfl w1.heap.size 2 i0 (.int .i64 0) 8 Try.underlying26 hi hz0 hz1 hz2 rfl _ _ _ rfl own3 _ w.heap.size _ _ rfl t3 (by simp) (by unfold maxLen; omega) (by omega) (le_alloc2 g2s g3s) ?_; intro v4 w4 own4 grow4; have L4 := below_app L3 grow4 (fun q hq => by have := (own3.lt q hq).1; omega))
          | go_in)
        go_ret
        exact put_end DN.out.symm HR.out (ins_new n xs xs.length hk HNO.out NX.out) own4 L4 (by omega) (by omega) g
      · go_wp2_with (first
          | (at_builtin; refine wpList_append_own _ rfl (.tmp 34) (.tmp 37) 26 rfl w.heap.size 2 i0 (.int .i64 0) 1 8 Try.underlying26 hi hz0 hz1 hz2 rfl (by decide) _ 0 [] rfl (made0 w) _ 0 _ [] rfl rfl (nil_cells rfl _) (by simp) (by unfold maxLen; omega) (by omega) (by simp) ?_; intro v1 w1 own1 grow1 _; have L1 := below_app B0.out grow1 (fun q hq => Nat.le_of_eq (Option.some.inj (show some w.heap.size = some q from hq))); have sz1 := L1.size; have B1 : Below w.heap.size w (w1.alloc (.cells #[] 2)) := L1.alloc sz1 _)
          | (at_builtin; refine wpList_append_own _ rfl (.tmp 39) (.tmp 42) 26 rfl w1.heap.size 2 i0 (.int .i64 0) 1 8 Try.underlying26 hi hz0 hz1 hz2 rfl (by decide) _ 0 [] rfl (made0 w1) ⟨g, 0, none⟩ xs.length _ ((ints xs).take xs.length) rfl D2.out (cells_take B1 HC.out) (oneCell_take xs.length) (by unfold maxLen; omega) (by omega) (by simp) ?_; intro v2 w2 own2 grow2 _; have t2 := own_grown (own1.alloc (.cells #[] 2)) grow2 (fun q hq e => Nat.ne_of_gt (own1.lt q hq).2 (Option.some.inj (show some w1.heap.size = some q from e))); have L2 := below_app B1 grow2 (fun q hq => Nat.le_trans sz1 (Nat.le_of_eq (Option.some.inj (show some w1.heap.size = some q from hq)))); have sz2 := L2.size; have B2 : Below w.heap.size w (w2.alloc (.cells #[.int .i64 n] 2)) := L2.alloc sz2 _; have g2s := grow2.size)
          | (at_builtin; refine wpList_append_own _ rfl (.tmp 43) (.tmp 45) 26 rfl w1.heap.size 2 i0 (.int .i64 0) 1 8 Try.underlying26 hi hz0 hz1 hz2 rfl (by decide) _ _ _ rfl (own2.alloc _) ⟨w2.heap.size, 0, none⟩ 1 _ [.int .i64 n] rfl rfl (cell_one w2 n) (ints_oneCell [n]) (by unfold maxLen; omega) (by omega) (le_alloc g2s) ?_; intro v3 w3 own3 grow3 _; have t3 := own_grown (t2.alloc (.cells #[.int .i64 n] 2)) grow3 (fun q hq e => by have h1 := (own1.lt q hq).2; have h2 := (own2.lt q e).1; omega); have L3 := below_app B2 grow3 (fun q hq => by have := (own2.lt q hq).1; omega); have sz3 := L3.size; have g3s := grow3.size)
          | (at_builtin; refine wpList_append_rows _ rfl (.tmp 46) (.tmp 47) 26 rfl w1.heap.size 2 i0 (.int .i64 0) 8 Try.underlying26 hi hz0 hz1 hz2 rfl _ _ _ rfl own3 _ w.heap.size _ _ rfl t3 (by simp) (by unfold maxLen; omega) (by omega) (le_alloc2 g2s g3s) ?_; intro v4 w4 own4 grow4; have L4 := below_app L3 grow4 (fun q hq => by have := (own3.lt q hq).1; omega))
          | go_in)
        go_ret
        exact put_end DN.out.symm HR.out (ins_new n xs xs.length hk HNO.out NX.out) own4 L4 (by omega) (by omega) g

theorem l1Put (xs : List Int) (n : Int) (g cap base : Nat) (w : World) (hl : xs.length ≤ 1000000) (hbase : base ≤ w.heap.size)
    (hv : w.ownsRow base 2 1 (.slice (some ⟨g, 0, none⟩) xs.length cap) xs.length (ints xs)) :
    Calls Try.prog 49 #[.slice (some ⟨g, 0, none⟩) xs.length cap, .int .i64 n] w fun e w' =>
      ∃ g' cap', e = .returned (.slice (some ⟨g', 0, none⟩) (ins n xs).length cap') ∧ w'.ownsRow base 2 1 (.slice (some ⟨g', 0, none⟩) (ins n xs).length cap') (ins n xs).length (ints (ins n xs)) ∧ Below w.heap.size w w' :=
  (l1PutAt xs n g cap base w hl hbase hv).mono (fun _ _ ⟨g', cap', h1, h2, h3, _⟩ => ⟨g', cap', h1, h2, h3⟩)

end Go.Proofs.Ytciccbbgamklbaa

/-
  Chapter 6: RelOk, both sides.
-/
namespace Go.Proofs.Ytciccbbgamklbaa
open Go.RowKit
set_option linter.unusedVariables false
set_option maxHeartbeats 1000000

/-- Is it a relation: seven sets, each from 0 to 127? -/
def relOk (xs : List Int) : Bool := xs.all (fun x => inB x 0 127) && decide (xs.length = 7)

theorem wiB_inB (x : Int) : wiB x 128 = inB x 0 127 := by
  unfold wiB inB
  congr 1
  simp only [decide_eq_decide]
  omega

theorem take_all {xs : List Int} {k : Nat} (hk : k < xs.length) (h : (xs.take k).all (fun x => inB x 0 127) = true) (hx : inB xs[k] 0 127 = true) : (xs.take (k + 1)).all (fun x => inB x 0 127) = true := by
  rw [List.take_add_one, List.getElem?_eq_getElem hk]
  simp only [Option.toList_some, List.all_append, h, List.all_cons, hx, List.all_nil, Bool.and_self]

theorem all_not {xs : List Int} {k : Nat} (hk : k < xs.length) (hx : inB xs[k] 0 127 = false) : xs.all (fun x => inB x 0 127) = false := by
  rw [List.all_eq_false]
  exact ⟨xs[k], List.getElem_mem hk, by simp [hx]⟩



end Go.Proofs.Ytciccbbgamklbaa

/-
  Chapter 6, mathematics: relations as lists of seven sets; what they make, composed and joined, bit by bit.
-/
namespace Go.Proofs.Ytciccbbgamklbaa
open Go.RowKit
set_option linter.unusedVariables false

/-- Both sets together. -/
def lor (a b : Int) : Int := bits .or .i64 a b

/-- Is t in the set? -/
def bit (x : Int) (t : Nat) : Bool := x.toNat.testBit t

/-- What the facts below k of the set s make. -/
def imgK (rs : List Int) (s : Int) : Nat → Int
  | 0 => 0
  | k + 1 => if bit s k = true then lor (imgK rs s k) (rs.getD k 0) else imgK rs s k

def img (rs : List Int) (s : Int) : Int := imgK rs s 7

def comp (xs ys : List Int) : List Int := xs.map (img ys)

def joi (xs ys : List Int) : List Int := List.zipWith lor xs ys

/-- What Compose and Join answer. -/
def compAns (xs ys : List Int) : List Int := if relOk xs && relOk ys then comp xs ys else []
def joinAns (xs ys : List Int) : List Int := if relOk xs && relOk ys then joi xs ys else []
def imageAns (rs : List Int) (s : Int) : Int := if relOk rs && inB s 0 127 then img rs s else -1
def withinAns (xs ys : List Int) : Bool := relOk xs && relOk ys && decide (joi xs ys = ys)
def unitL : List Int := [1, 2, 4, 8, 16, 32, 64]

theorem ofInt_i64 (a : Nat) (ha : a < 9223372036854775808) : (BitVec.ofInt 64 (a : Int)).toNat = a := by
  rw [BitVec.ofInt_natCast, BitVec.toNat_ofNat]; exact Nat.mod_eq_of_lt (by omega)

theorem wrap_nat (c : Nat) (h : c < 2 ^ 63) : IntKind.i64.wrap (c : Int) = c := by
  simp [IntKind.wrap, IntKind.bits, IntKind.signed]
  omega

theorem i64_or_nat (a b : Nat) (ha : a < 9223372036854775808) (hb : b < 9223372036854775808) : bits .or .i64 (a : Int) (b : Int) = ((a ||| b : Nat) : Int) := by
  have hx : a ||| b < 2 ^ 63 := Nat.or_lt_two_pow (by omega) (by omega)
  show IntKind.i64.wrap ((BitVec.ofInt 64 (a : Int) ||| BitVec.ofInt 64 (b : Int)).toNat : Int) = _
  rw [BitVec.toNat_or, ofInt_i64 a ha, ofInt_i64 b hb]
  generalize a ||| b = c at *
  exact wrap_nat c hx

theorem i64_and_nat (a b : Nat) (ha : a < 9223372036854775808) (hb : b < 9223372036854775808) : bits .and .i64 (a : Int) (b : Int) = ((a &&& b : Nat) : Int) := by
  have hx : a &&& b < 2 ^ 63 := Nat.and_lt_two_pow _ (by omega)
  show IntKind.i64.wrap ((BitVec.ofInt 64 (a : Int) &&& BitVec.ofInt 64 (b : Int)).toNat : Int) = _
  rw [BitVec.toNat_and, ofInt_i64 a ha, ofInt_i64 b hb]
  generalize a &&& b = c at *
  exact wrap_nat c hx

/-- The set is from 0 to 127. -/
def Small (x : Int) : Prop := 0 ≤ x ∧ x ≤ 127

theorem small_in {x : Int} : inB x 0 127 = true ↔ Small x := by simp [inB, Small]

theorem small_nat {x : Int} (h : Small x) : ∃ n : Nat, x = n ∧ n < 2 ^ 7 := by
  obtain ⟨h1, h2⟩ := h
  exact ⟨x.toNat, by omega, by omega⟩

theorem lor_nat (a b : Nat) (ha : a < 2 ^ 7) (hb : b < 2 ^ 7) : lor (a : Int) (b : Int) = ((a ||| b : Nat) : Int) := i64_or_nat a b (by omega) (by omega)

theorem lor_small {a b : Int} (ha : Small a) (hb : Small b) : Small (lor a b) := by
  obtain ⟨m, rfl, hm⟩ := small_nat ha
  obtain ⟨n, rfl, hn⟩ := small_nat hb
  rw [lor_nat m n hm hn]
  have : m ||| n < 2 ^ 7 := Nat.or_lt_two_pow hm hn
  exact ⟨by omega, by omega⟩

theorem bit_lor {a b : Int} (ha : Small a) (hb : Small b) (t : Nat) : bit (lor a b) t = (bit a t || bit b t) := by
  obtain ⟨m, rfl, hm⟩ := small_nat ha
  obtain ⟨n, rfl, hn⟩ := small_nat hb
  rw [lor_nat m n hm hn]
  simp [bit, Nat.testBit_or]

theorem bit_ext {a b : Int} (ha : Small a) (hb : Small b) (h : ∀ t, t < 7 → bit a t = bit b t) : a = b := by
  obtain ⟨m, rfl, hm⟩ := small_nat ha
  obtain ⟨n, rfl, hn⟩ := small_nat hb
  congr 1
  refine Nat.eq_of_testBit_eq (fun t => ?_)
  by_cases ht : t < 7
  · exact h t ht
  · have e : 2 ^ 7 ≤ 2 ^ t := Nat.pow_le_pow_right (by omega) (by omega)
    rw [Nat.testBit_lt_two_pow (Nat.lt_of_lt_of_le hm e), Nat.testBit_lt_two_pow (Nat.lt_of_lt_of_le hn e)]

/-- One bit, as both programs ask for it. -/
theorem bit_mod {s : Int} (k : Nat) (hs : 0 ≤ s) : (s / 2 ^ k) % 2 = if bit s k = true then 1 else 0 := by
  obtain ⟨n, rfl⟩ := Int.eq_ofNat_of_zero_le hs
  simp only [bit, Int.toNat_natCast, Nat.testBit_eq_decide_div_mod_eq]
  have : ((n : Int) / 2 ^ k) % 2 = ((n / 2 ^ k % 2 : Nat) : Int) := by push_cast; rfl
  rw [this]
  have h2 : n / 2 ^ k % 2 < 2 := Nat.mod_lt _ (by omega)
  by_cases h : n / 2 ^ k % 2 = 1
  · rw [if_pos (by simpa using h), h]; rfl
  · rw [if_neg (by simpa using h)]; omega

theorem bit_and {s : Int} (k : Nat) (hs : Small s) : bits .and .i64 (s / 2 ^ k) 1 = if bit s k = true then 1 else 0 := by
  rw [← bit_mod k hs.1]
  obtain ⟨n, rfl, hn⟩ := small_nat hs
  have e : ((n : Int) / 2 ^ k) = ((n / 2 ^ k : Nat) : Int) := by push_cast; rfl
  have hle : n / 2 ^ k ≤ n := Nat.div_le_self _ _
  rw [e]
  have := i64_and_nat (n / 2 ^ k) 1 (by omega) (by omega)
  rw [Nat.and_one_is_mod] at this
  refine Eq.trans this ?_
  push_cast
  rfl

theorem bit_tmod {s : Int} (k : Nat) (hs : Small s) : (s / 2 ^ k).tmod 2 = if bit s k = true then 1 else 0 := by
  rw [← bit_mod k hs.1]
  refine Int.tmod_eq_emod_of_nonneg ?_
  exact Int.ediv_nonneg hs.1 (Int.pow_nonneg (by omega))

/-- All of the list are sets. -/
def Smalls (xs : List Int) : Prop := xs.length = 7 ∧ ∀ x ∈ xs, Small x

theorem relOk_iff {xs : List Int} : relOk xs = true ↔ Smalls xs := by
  simp only [relOk, Bool.and_eq_true, List.all_eq_true, decide_eq_true_eq, Smalls, small_in]
  exact And.comm

theorem Smalls.getD {xs : List Int} (h : Smalls xs) (k : Nat) : Small (xs.getD k 0) := by
  rcases Nat.lt_or_ge k xs.length with hk | hk
  · have : xs.getD k 0 = xs[k] := by simp [List.getD, hk]
    rw [this]; exact h.2 _ (List.getElem_mem hk)
  · have : xs.getD k 0 = 0 := by simp [List.getD, List.getElem?_eq_none hk]
    rw [this]; exact ⟨by omega, by omega⟩

theorem imgK_small {rs : List Int} (h : Smalls rs) (s : Int) : ∀ k, Small (imgK rs s k)
  | 0 => ⟨by simp [imgK], by simp [imgK]⟩
  | k + 1 => by
    rw [imgK]
    split
    · exact lor_small (imgK_small h s k) (h.getD k)
    · exact imgK_small h s k

theorem img_small {rs : List Int} (h : Smalls rs) (s : Int) : Small (img rs s) := imgK_small h s 7

theorem bit_zero (t : Nat) : bit 0 t = false := by simp [bit]

theorem bit_imgK {rs : List Int} (h : Smalls rs) (s : Int) (t : Nat) : ∀ k, bit (imgK rs s k) t = true ↔ ∃ i, i < k ∧ bit s i = true ∧ bit (rs.getD i 0) t = true
  | 0 => by simp [imgK, bit_zero]
  | k + 1 => by
    have ih := bit_imgK h s t k
    rw [imgK]
    by_cases hb : bit s k = true
    · rw [if_pos hb, bit_lor (imgK_small h s k) (h.getD k), Bool.or_eq_true, ih]
      constructor
      · rintro (⟨i, h1, h2, h3⟩ | h3)
        · exact ⟨i, by omega, h2, h3⟩
        · exact ⟨k, by omega, hb, h3⟩
      · rintro ⟨i, h1, h2, h3⟩
        by_cases e : i = k
        · subst e; exact .inr h3
        · exact .inl ⟨i, by omega, h2, h3⟩
    · rw [if_neg hb, ih]
      constructor
      · rintro ⟨i, h1, h2, h3⟩
        exact ⟨i, by omega, h2, h3⟩
      · rintro ⟨i, h1, h2, h3⟩
        by_cases e : i = k
        · subst e; exact absurd h2 hb
        · exact ⟨i, by omega, h2, h3⟩

theorem bit_img {rs : List Int} (h : Smalls rs) (s : Int) (t : Nat) : bit (img rs s) t = true ↔ ∃ i, i < 7 ∧ bit s i = true ∧ bit (rs.getD i 0) t = true := bit_imgK h s t 7

end Go.Proofs.Ytciccbbgamklbaa

/-
  Chapter 6, the specification's side: l6Image, Image, l6Compose, l6Join, Compose, Join, Within, Unit.
-/
namespace Go.Proofs.Ytciccbbgamklbaa
open Go.RowKit
set_option linter.unusedVariables false
set_option maxHeartbeats 1000000



theorem comp_take {xs ys : List Int} {k : Nat} (h : k < xs.length) : (comp xs ys).take (k + 1) = (comp xs ys).take k ++ [img ys (xs.getD k 0)] := by
  rw [List.take_add_one]
  simp [comp, List.getD, h]

theorem joi_take {xs ys : List Int} {k : Nat} (h : k < xs.length) (h' : k < ys.length) : (joi xs ys).take (k + 1) = (joi xs ys).take k ++ [lor (xs.getD k 0) (ys.getD k 0)] := by
  rw [List.take_add_one]
  simp [joi, List.getD, h, h', List.getElem?_zipWith]

theorem ints_append (xs ys : List Int) : ints (xs ++ ys) = ints xs ++ ints ys := by simp [ints]

theorem getD_int {w : World} {ao : Option Addr} {xs : List Int} (hc : ∀ (j : Nat) (x : Value), (ints xs)[j]? = some x → ∃ g off, ao = some ⟨g, off, none⟩ ∧ w.cell? ⟨g, off + j, none⟩ = some x) {k : Nat} (h : k < xs.length) :
    ∃ g off, ao = some ⟨g, off, none⟩ ∧ w.cell? ⟨g, off + k, none⟩ = some (.int .i64 (xs.getD k 0)) := hc k _ (by simp [ints, List.getD, h])





theorem list_ext_take {xs ys : List Int} {k : Nat} (hk : k < xs.length) (hl : xs.length = ys.length) (h : xs.take k = ys.take k) (hx : xs.getD k 0 = ys.getD k 0) : xs.take (k + 1) = ys.take (k + 1) := by
  have hk' : k < ys.length := by omega
  rw [List.take_add_one, List.take_add_one, h, List.getElem?_eq_getElem hk, List.getElem?_eq_getElem hk']
  simp [List.getD, hk, hk'] at hx
  rw [hx]

theorem list_ne_get {xs ys : List Int} {k : Nat} (hx : ¬ xs.getD k 0 = ys.getD k 0) : ¬ xs = ys := fun h => hx (by rw [h])



theorem specUnit (w : World) : Calls Try.prog 47 #[] w fun e w' => ∃ a, e = .returned a ∧ w'.ownsRow w.heap.size 2 1 a unitL.length (ints unitL) ∧ Below w.heap.size w w' := by
  go_enter Try.func47, Try.ntmps47
  go_wp2
  go_ret
  refine ⟨_, rfl, ?_, by go_grown⟩
  exact World.ownsRow_lit (base := w.heap.size) (e := 2) (size := 1) w #[.int .i64 1, .int .i64 2, .int .i64 4, .int .i64 8, .int .i64 16, .int .i64 32, .int .i64 64] 7 (Nat.le_refl _) (by decide) (by simp)

end Go.Proofs.Ytciccbbgamklbaa

/-
  Chapter 6: relations as arrays of seven numbers: loaded, stored, indexed, compared.
-/
namespace Go.Proofs.Ytciccbbgamklbaa
set_option maxRecDepth 100000
open Go.RowKit
set_option linter.unusedVariables false
set_option maxHeartbeats 1000000

/-- A relation as a value. -/
def relV (xs : List Int) : Value := .agg (ints xs).toArray

theorem relInfo : (Try.prog.info? 80).map (·.size) = some 7 := by kernel_rfl
theorem relUnd : Try.prog.underlying 80 = some (.array 7 2) := by kernel_rfl

theorem ints_one (xs : List Int) : (ints xs).toArray.all (·.oneCell') = true := all_oneCell_toArray (fun v hv => ints_oneCell xs v hv)

theorem wpList_loadRel {ops : Array Oper} {rest : List Oper} {op : Oper} {a : Act} {w : World} {Q : Exit → Act → World → Prop} (hgd : op.guard = none) (x : Operand) (ho : op.op = .load 80 x)
    (b o : Nat) (xs : List Int) (hx : a.eval x = .pointer (some ⟨b, o, none⟩)) (hl : xs.length = 7) (hc : w.rangeAt b o (ints xs))
    (h : wpList Try.prog ops Q rest (a.put op.dst (relV xs)) w) : wpList Try.prog ops Q (op :: rest) a w :=
  wpList_load_mid hgd 80 x ho b o hx (ints xs) _ hc relUnd rfl (by rw [relInfo]; simp [ints, hl]) h

theorem wpList_storeRel {ops : Array Oper} {rest : List Oper} {op : Oper} {a : Act} {w : World} {Q : Exit → Act → World → Prop} (hgd : op.guard = none) (hdst : op.dst = none) (x y : Operand) (ho : op.op = .store 80 x y)
    (b o : Nat) (xs : List Int) (hx : a.eval x = .pointer (some ⟨b, o, none⟩)) (hy : a.eval y = relV xs) (hl : xs.length = 7) (ht : w.there b o 7)
    (h : wpList Try.prog ops Q rest a (w.setCells b o (ints xs))) : wpList Try.prog ops Q (op :: rest) a w :=
  wpList_store_mid hgd 80 x y ho b o (ints xs).toArray hx hy (by simpa [ints, hl] using ht) (by rw [relInfo]; simp [ints, hl]) (ints_one xs) (by rw [hdst, List.toList_toArray]; exact h)

theorem rangeR_new (w : World) (cs : List Value) (t : TypeId) : (w.alloc (.cells cs.toArray t)).rangeAt w.heap.size 0 cs := fun j v hv => by
  rw [Nat.zero_add, cell_of_row _ _ j _ t (0, 0) (heap_alloc_last w _)]
  simpa using hv

theorem bodyPost_cellR {fn : Func} {p : Tmp} {ty : TypeId} {R : Ending → World → Prop} {a : Act} {w : World} (h : fn.results = #[.cell p ty]) (b o : Nat) (cs : List Value) (d : TypeDesc)
    (hp : a.tmps.getD p undef = .pointer (some ⟨b, o, none⟩)) (hc : w.rangeAt b o cs) (hu : Try.prog.underlying ty = some d) (hd : d.isRow = true) (hi : (Try.prog.info? ty).map (·.size) = some cs.length)
    (hdf : a.defers = []) (hR : R (.returned (.agg cs.toArray)) w) : bodyPost Try.prog fn R .ret a w := by
  refine bodyPost_ret (v := .agg cs.toArray) ?_ hdf hR
  simp only [results, h]
  simp [Sem.run_bind, Result.andThen, asAddr]
  rw [← Array.getD_eq_getD_getElem?, hp]
  simp [run_loadVar_mid w b o ty cs d hc hu hd hi]

/-- The block B holds the relation xs. -/
abbrev RelAt (w : World) (B : Nat) (xs : List Int) : Prop := w.heap[B]? = some (.cells (ints xs).toArray 80 (0, 0))

theorem RelAt.cell {w : World} {B : Nat} {xs : List Int} (h : RelAt w B xs) (j : Nat) (hj : j < xs.length) : w.cell? ⟨B, j, none⟩ = some (.int .i64 (xs.getD j 0)) ∧ w.frozen? ⟨B, j, none⟩ = false := by
  refine ⟨?_, frozen_of_row w B j _ _ h⟩
  rw [cell_of_row w B j _ _ (0, 0) h]
  simp [ints, List.getD, hj]

theorem RelAt.set {w : World} {B : Nat} {xs : List Int} (h : RelAt w B xs) (j : Nat) (x : Int) : RelAt (w.setCell ⟨B, j, none⟩ (.int .i64 x)) B (xs.set j x) := by
  have := heap_setCell_same w B j _ _ (.int .i64 x) h
  show (w.setCell ⟨B, j, none⟩ (.int .i64 x)).heap[B]? = _
  rw [this]
  simp [ints, List.map_set]

theorem RelAt.range {w : World} {B : Nat} {xs : List Int} (h : RelAt w B xs) : w.rangeAt B 0 (ints xs) := fun j v hv => by
  rw [Nat.zero_add, cell_of_row w B j _ _ (0, 0) h]
  simpa using hv

theorem RelAt.there {w : World} {B : Nat} {xs : List Int} (h : RelAt w B xs) : w.there B 0 xs.length := fun j hj => by
  rw [Nat.zero_add]
  obtain ⟨h1, h2⟩ := h.cell j hj
  exact ⟨by rw [h1]; rfl, h2⟩

theorem RelAt.lt {w : World} {B : Nat} {xs : List Int} (h : RelAt w B xs) : B < w.heap.size := (Array.getElem?_eq_some_iff.1 h).1

/-- What is cut of a whole relation is a row of its own. -/
theorem RelAt.own {w : World} {B : Nat} {xs : List Int} (h : RelAt w B xs) {base : Nat} (hb : base ≤ B) (hl : xs.length = 7) : w.ownsRow base 80 1 (.slice (some ⟨B, 0, none⟩) 7 7) 7 (ints xs) :=
  ⟨by simp [ints, hl], .inr ⟨B, 7, (ints xs).toArray, rfl, hb, h, by omega, by unfold maxLen; omega, by simp [ints, hl], by rw [List.toList_toArray, Nat.mul_one]; exact List.take_of_length_le (by simp [ints, hl])⟩⟩

theorem run_indexRel (w : World) (xs : List Int) (hl : xs.length = 7) (i : Nat) (hi : i < 7) : (Instr.index 80 (relV xs) (.int .i64 (i : Int))).run Try.prog w = .ok (.int .i64 (xs.getD i 0)) w := by
  obtain ⟨t, ht⟩ : ∃ t, Try.prog.info? 2 = some t := Option.isSome_iff_exists.1 (by kernel_rfl)
  have hz : t.size = 1 := by
    have h1 := infoInt
    rw [ht] at h1
    simp at h1
    exact h1.2.1
  have hu : Try.prog.underlying 2 = some (.int .i64) := by kernel_rfl
  have h1 : (0 : Int) ≤ (i : Int) ∧ (i : Int) < ((7 : Nat) : Int) := by omega
  have hg : (ints xs).toArray[i]? = some (.int .i64 (xs.getD i 0)) := by simp [ints, List.getD, hl, hi]
  unfold Instr.index relV
  generalize (ints xs).toArray = C at hg ⊢
  simp only [asIntOf, Sem.run_bind, Sem.run_pure, Result.andThen_ok, run_underlying relUnd, if_pos h1, sizeOf, typeInfo, part, isAgg, run_underlying hu, Int.toNat_natCast]
  simp [ht, hz, hg]

theorem wpList_indexRel {ops : Array Oper} {rest : List Oper} {op : Oper} {a : Act} {w : World} {Q : Exit → Act → World → Prop} (hgd : op.guard = none) (x y : Operand) (ho : op.op = .index 80 x y)
    (xs : List Int) (i : Nat) (hx : a.eval x = relV xs) (hy : a.eval y = .int .i64 (i : Int)) (hl : xs.length = 7) (hi : i < 7) (y : Int) (hxy : xs.getD i 0 = y)
    (h : wpList Try.prog ops Q rest (a.put op.dst (.int .i64 y)) w) : wpList Try.prog ops Q (op :: rest) a w := by
  subst hxy
  refine wpList_plain hgd fun K hK => ?_
  unfold Oper.wp execOp
  simp only [ho, hx, hy, Sem.run_bind, run_indexRel w xs hl i hi, Result.andThen_ok]
  exact hK _ _ h

theorem run_eqInts (d : Nat) (w : World) (bs cs : List Int) : ∀ is : List Nat, (∀ i ∈ is, i < bs.length ∧ i < cs.length) →
    (Op.eqItems (d + 1) 2 1 (ints bs).toArray (ints cs).toArray is).run Try.prog w = .ok (is.all (fun i => decide (bs.getD i 0 = cs.getD i 0))) w
  | [], _ => by simp [Op.eqItems]
  | i :: is, h => by
    obtain ⟨h1, h2⟩ := h i (by simp)
    have ih := run_eqInts d w bs cs is (fun j hj => h j (by simp [hj]))
    have hu : Try.prog.underlying 2 = some (.int .i64) := by kernel_rfl
    have p1 : (part 2 (ints bs).toArray (i * 1)).run Try.prog w = .ok (.int .i64 bs[i]) w := by
      simp [part, isAgg, run_underlying hu, h1, ints]
    have p2 : (part 2 (ints cs).toArray (i * 1)).run Try.prog w = .ok (.int .i64 cs[i]) w := by
      simp [part, isAgg, run_underlying hu, h2, ints]
    have p3 : (Op.equalIn (d + 1) 2 (.int .i64 bs[i]) (.int .i64 cs[i])).run Try.prog w = .ok (decide (bs[i] = cs[i])) w := by
      simp [Op.equalIn, run_underlying hu]
      rw [Bool.eq_iff_iff]; simp
    have e1 : bs.getD i 0 = bs[i] := by simp [List.getD, h1]
    have e2 : cs.getD i 0 = cs[i] := by simp [List.getD, h2]
    simp only [Op.eqItems, Sem.run_bind, p1, p2, p3, Result.andThen_ok, List.all_cons, e1, e2]
    cases hb : (decide (bs[i] = cs[i]))
    · simp
    · simpa using ih

theorem list7 {L M : List Int} (hl : L.length = 7) (hm : M.length = 7) (h : ∀ j, j < 7 → L.getD j 0 = M.getD j 0) : L = M := by
  refine List.ext_getElem (by omega) (fun j h1 h2 => ?_)
  have := h j (by omega)
  simpa [List.getD, h1, h2] using this

theorem run_equalRels (w : World) (bs cs : List Int) (hl : bs.length = 7) (hc : cs.length = 7) : (Op.equal 80 (relV bs) (relV cs)).run Try.prog w = .ok (decide (bs = cs)) w := by
  obtain ⟨i, hi⟩ : ∃ i, Try.prog.info? 2 = some i := Option.isSome_iff_exists.1 (by kernel_rfl)
  have hcell : Try.prog.cellsOf 2 = 1 := by kernel_rfl
  unfold Op.equal relV
  have hd : Op.maxDepth = 9998 + 1 + 1 := rfl
  rw [hd, run_equalIn_array w (9998 + 1) _ _ relUnd hi, hcell, run_eqInts 9998 w bs cs _ (fun i hi => by simp at hi; omega)]
  congr 1
  rw [Bool.eq_iff_iff]
  simp only [List.all_eq_true, List.mem_range, decide_eq_true_eq]
  exact ⟨fun h => list7 hl hc h, fun h j _ => by rw [h]⟩

end Go.Proofs.Ytciccbbgamklbaa
