/-
  Put together out of: Stmts, DrawKit.
-/
import Derived.Test.YtnjbihfceckpfaaG00Stmt
import Derived.Lib.QuietBelow
/-
  Slices of statements as they lie in memory (three cells each): toStmtS, szStmtS, eqStmt, eqStmtS.
-/
namespace Go.Proofs.Ytnjbihfceckpfaa
open Go.RowKit
set_option linter.unusedVariables false
set_option maxHeartbeats 4000000

/-- A statement's three numbers. -/
structure Stm where
  k : Int
  x : Int
  y : Int

/-- The cells of statements. -/
def cells3 : List Stm → List Value
  | [] => []
  | s :: ss => .int .i64 s.k :: .int .i64 s.x :: .int .i64 s.y :: cells3 ss

theorem cells3_length : ∀ ss : List Stm, (cells3 ss).length = ss.length * 3
  | [] => rfl
  | s :: ss => by simp [cells3, cells3_length ss]; omega

theorem cells3_get : ∀ (ss : List Stm) (j : Nat) (s : Stm), ss[j]? = some s →
    (cells3 ss)[j * 3]? = some (.int .i64 s.k) ∧ (cells3 ss)[j * 3 + 1]? = some (.int .i64 s.x) ∧ (cells3 ss)[j * 3 + 2]? = some (.int .i64 s.y)
  | [], j, s, h => by simp at h
  | t :: ss, 0, s, h => by simp at h; subst h; simp [cells3]
  | t :: ss, j + 1, s, h => by
    have := cells3_get ss j s (by simpa using h)
    have e : (j + 1) * 3 = j * 3 + 1 + 1 + 1 := by omega
    simp only [e, cells3]
    exact this

theorem cells3_append : ∀ (a b : List Stm), cells3 (a ++ b) = cells3 a ++ cells3 b
  | [], b => rfl
  | s :: a, b => by simp [cells3, cells3_append a b]

/-- The slice v holds the statements ss. -/
def Reads3 (w : World) (v : Value) (ss : List Stm) : Prop :=
  ∃ ao cap, v = .slice ao ss.length cap ∧ ∀ j s, ss[j]? = some s → ∃ g off, ao = some ⟨g, off, none⟩ ∧
    w.cell? ⟨g, off + j * 3, none⟩ = some (.int .i64 s.k) ∧ w.cell? ⟨g, off + j * 3 + 1, none⟩ = some (.int .i64 s.x) ∧ w.cell? ⟨g, off + j * 3 + 2, none⟩ = some (.int .i64 s.y)

theorem reads3_below {w w' : World} {v : Value} {ss : List Stm} (h : Reads3 w v ss) (hb : Below w.heap.size w w') : Reads3 w' v ss := by
  obtain ⟨ao, cap, rfl, hc⟩ := h
  refine ⟨ao, cap, rfl, fun j s hs => ?_⟩
  obtain ⟨g, off, hg, c0, c1, c2⟩ := hc j s hs
  have hB := World.block_lt_of_cell? w _ c0
  exact ⟨g, off, hg, (hb.cell hB).trans c0, (hb.cell (p := ⟨g, off + j * 3 + 1, none⟩) hB).trans c1, (hb.cell (p := ⟨g, off + j * 3 + 2, none⟩) hB).trans c2⟩

theorem reads3_own {w : World} {base : Nat} {e : TypeId} {v : Value} {ss : List Stm} (h : w.ownsRow base e 3 v ss.length (cells3 ss)) : Reads3 w v ss := by
  rcases h.2 with ⟨rfl, hn⟩ | ⟨g, cap, cur, rfl, hr⟩
  · exact ⟨none, 0, by rw [hn], fun j s hs => by rw [List.eq_nil_of_length_eq_zero hn] at hs; simp at hs⟩
  · refine ⟨some ⟨g, 0, none⟩, cap, rfl, fun j s hs => ⟨g, 0, rfl, ?_⟩⟩
    have hj : j < ss.length := by
      rcases Nat.lt_or_ge j ss.length with h | h
      · exact h
      · rw [List.getElem?_eq_none h] at hs; simp at hs
    obtain ⟨a0, a1, a2⟩ := cells3_get ss j s hs
    have hl := cells3_length ss
    simp only [Nat.zero_add]
    rw [h.cellAt (j * 3) (by omega), h.cellAt (j * 3 + 1) (by omega), h.cellAt (j * 3 + 2) (by omega)]
    exact ⟨a0, a1, a2⟩

theorem eqStmt (k x y : Int) (w : World) :
    Calls Try.prog 139 #[.agg #[.int .i64 k, .int .i64 x, .int .i64 y], .agg #[.int .i64 k, .int .i64 x, .int .i64 y]] w fun e w' => e = .returned (.bool true) ∧ Below w.heap.size w w' := by
  go_enter Try.func139, Try.ntmps139
  go_wp2
  go_ret
  exact ⟨rfl, by go_grown⟩

theorem eqStmtS (ss : List Stm) (v u : Value) (w : World) (hl : ss.length ≤ maxLen) (hv : Reads3 w v ss) (hu : Reads3 w u ss) :
    Calls Try.prog 116 #[v, u] w fun e w' => e = .returned (.bool true) ∧ Below w.heap.size w w' := by
  unfold maxLen at hl
  obtain ⟨ao, cap, rfl, hc⟩ := hv
  obtain ⟨bo, cap', rfl, hd⟩ := hu
  go_enter Try.func116, Try.ntmps116
  go_wp2
  go_loopw [5] (fun i wr => ∃ k : Nat, k ≤ ss.length ∧ i = .int .i64 k ∧ Below w.heap.size w wr) (fun i _ => ss.length - (intOf i).toNat)
  case atStart => exact ⟨0, Nat.zero_le _, rfl, Below.refl _ _⟩
  case round =>
    obtain ⟨k, hk, rfl, hb⟩ := hrel
    by_cases hlt : k < ss.length
    · obtain ⟨g, off, rfl, p0, p1, p2⟩ := hc k ss[k] (by simp [hlt])
      obtain ⟨g', off', rfl, q0, q1, q2⟩ := hd k ss[k] (by simp [hlt])
      have pB := World.block_lt_of_cell? w _ p0
      have qB := World.block_lt_of_cell? w _ q0
      have p0 := cell_regrown ((hb.cell pB).trans p0)
      have p1 := cell_regrown ((hb.cell (p := ⟨g, off + k * 3 + 1, none⟩) pB).trans p1)
      have p2 := cell_regrown ((hb.cell (p := ⟨g, off + k * 3 + 2, none⟩) pB).trans p2)
      have q0 := cell_regrown ((hb.cell qB).trans q0)
      have q1 := cell_regrown ((hb.cell (p := ⟨g', off' + k * 3 + 1, none⟩) qB).trans q1)
      have q2 := cell_regrown ((hb.cell (p := ⟨g', off' + k * 3 + 2, none⟩) qB).trans q2)
      have hlt' : (k : Int) < (ss.length : Int) := by omega
      have he : ∀ d os, _ := fun d os => Calls.regrown_of (w := wr) (d := d) (os := os) (eqStmt ss[k].k ss[k].x ss[k].y _)
      clear hc hd
      generalize ss[k] = s at *
      go_wp2
      refine wp_region_quiet_below (by kernel_rfl) (by kernel_rfl) ?_
      repeat (go_big_quiet_step (exact he _ _))
      refine wpQuiet_nil ?_
      intro _ hw'
      obtain ⟨⟨dq, osq⟩, hw''⟩ := hw'
      subst hw''
      have hb' := hb.trans ((below_regrown wr dq osq).mono hb.size)
      go_wp2
      go_roundw
      case rel => exact ⟨k + 1, by omega, by go_num, hb'⟩
      case measure => simp [intOf]; omega
    · go_wp2
      go_ret
      exact ⟨rfl, hb⟩

theorem infoStmt : (Try.prog.info? 92).map (fun i => (i.zero, i.size, i.bytes)) = some (some (.agg #[.int .i64 0, .int .i64 0, .int .i64 0]), 3, 24) := by kernel_rfl

/-- A row of n cells, the first k of them those of xs. -/
def filled (xs zs : List Value) (k : Nat) : List Value := xs.take k ++ zs.drop k

theorem filled_length (xs zs : List Value) (k : Nat) (hl : xs.length = zs.length) (h : k ≤ xs.length) : (filled xs zs k).length = xs.length := by
  simp [filled]; omega

theorem filled_set (xs zs : List Value) (k : Nat) (x : Value) (hl : xs.length = zs.length) (h : xs[k]? = some x) : (filled xs zs k).set k x = filled xs zs (k + 1) := by
  obtain ⟨hk, rfl⟩ := List.getElem?_eq_some_iff.1 h
  unfold filled
  have hk' : (xs.take k).length = k := by simp; omega
  rw [List.set_append_right _ _ (by simp; omega), hk', Nat.sub_self, List.drop_eq_getElem_cons (by omega), List.set_cons_zero, List.take_succ_eq_append_getElem hk]
  exact (List.append_assoc (xs.take k) [xs[k]] (zs.drop (k + 1))).symm

theorem filled_all (xs zs : List Value) (k : Nat) (hl : xs.length = zs.length) (h : k = xs.length) : filled xs zs k = xs := by
  rw [filled, List.take_of_length_le (by omega), List.drop_of_length_le (by omega), List.append_nil]

/-- A cell of a row that is owned: it is there. -/
theorem own_cell {w : World} {base : Nat} {e : TypeId} {s n g cap : Nat} {xs : List Value} (h : w.ownsRow base e s (.slice (some ⟨g, 0, none⟩) n cap) n xs) (j : Nat) (hj : j < n * s) : ∃ x, w.cell? ⟨g, j, none⟩ = some x := by
  have h1 := h.cellAt j hj
  have h2 := h.1
  exact ⟨xs[j]'(by omega), by rw [h1]; simp⟩

theorem toStmtS (ss : List Stm) (v : Value) (w : World) (hl : ss.length ≤ 1048576) (hv : Reads3 w v ss) :
    Calls Try.prog 104 #[v] w fun e w' => ∃ u, e = .returned u ∧ w'.ownsRow w.heap.size 92 3 u ss.length (cells3 ss) ∧ Below w.heap.size w w' := by
  obtain ⟨i0, hi, hz0, hz1, hz2⟩ := info_parts infoStmt
  obtain ⟨ao, cap, rfl, hc⟩ := hv
  have cl := cells3_length ss
  go_enter Try.func104, Try.ntmps104
  go_wp2_with (refine wpList_make_full _ rfl (.tmp 6) (.tmp 6) 79 rfl w.heap.size 92 i0 (.agg #[.int .i64 0, .int .i64 0, .int .i64 0]) 3 Try.underlying79 hi hz0 hz1 .i64 .i64 _ _ ss.length rfl rfl rfl rfl (by rw [hz2]; omega) (by unfold maxLen; omega) (Nat.le_refl _) ?_; intro w1 own1 grow1)
  have zl : (madeCells (Value.agg #[.int .i64 0, .int .i64 0, .int .i64 0]).cells (ss.length * 3)).toList.length = ss.length * 3 := by simpa using own1.1
  generalize (madeCells (Value.agg #[.int .i64 0, .int .i64 0, .int .i64 0]).cells (ss.length * 3)).toList = zs at own1 zl
  have hb1 : Below w.heap.size w w1 := (Below.refl _ _).grown grow1 (Nat.le_refl _) (by simp)
  go_loopw [4] (fun i wr => ∃ k : Nat, k ≤ ss.length ∧ i = .int .i64 k ∧ wr.ownsRow w.heap.size 92 3 (.slice (some ⟨w.heap.size, 0, none⟩) ss.length ss.length) ss.length (filled (cells3 ss) zs (k * 3)) ∧ Below w.heap.size w wr) (fun i _ => ss.length - (intOf i).toNat)
  case atStart => exact ⟨0, Nat.zero_le _, rfl, by simpa [filled] using own1, hb1⟩
  case round =>
    obtain ⟨k, hk, rfl, hown, hb⟩ := hrel
    by_cases hlt : k < ss.length
    · have hsk : ss[k]? = some ss[k] := by simp [hlt]
      obtain ⟨g, off, rfl, p0, p1, p2⟩ := hc k ss[k] hsk
      obtain ⟨a0, a1, a2⟩ := cells3_get ss k ss[k] hsk
      have pB := World.block_lt_of_cell? w _ p0
      have p0 := (hb.cell pB).trans p0
      have p1 := (hb.cell (p := ⟨g, off + k * 3 + 1, none⟩) pB).trans p1
      have p2 := (hb.cell (p := ⟨g, off + k * 3 + 2, none⟩) pB).trans p2
      have hlt' : (k : Int) < (ss.length : Int) := by omega
      have he := toStmt ss[k].k ss[k].x ss[k].y
      have e1 := filled_set (cells3 ss) zs (k * 3) _ (by omega) a0
      have e2 := filled_set (cells3 ss) zs (k * 3 + 1) _ (by omega) a1
      have e3 := filled_set (cells3 ss) zs (k * 3 + 2) _ (by omega) a2
      clear hc hsk a0 a1 a2
      generalize ss[k] = s at *
      go_wp2_with fail
      go_at_call 135
      refine (he wr).mono ?_
      rintro e w2 ⟨rfl, b2⟩
      have own2 := own_kept hown b2
      have hb2 := hb.trans (b2.mono hb.size)
      have f0 := own2.frozenAt (k * 3)
      have f1 := own2.frozenAt (k * 3 + 1)
      have f2 := own2.frozenAt (k * 3 + 2)
      obtain ⟨y0, c0⟩ := own_cell own2 (k * 3) (by omega)
      obtain ⟨y1, c1⟩ := own_cell own2 (k * 3 + 1) (by omega)
      obtain ⟨y2, c2⟩ := own_cell own2 (k * 3 + 2) (by omega)
      have HO : Hid (((((w2.setCell ⟨w.heap.size, k * 3, none⟩ (.int .i64 s.k)).setCell ⟨w.heap.size, k * 3 + 1, none⟩ (.int .i64 s.x)).setCell ⟨w.heap.size, k * 3 + 2, none⟩ (.int .i64 s.y))).ownsRow w.heap.size 92 3 (.slice (some ⟨w.heap.size, 0, none⟩) ss.length ss.length) ss.length (filled (cells3 ss) zs ((k + 1) * 3))) := by
        have h3 := (((own2.stored (k * 3) (.int .i64 s.k)).1.stored (k * 3 + 1) (.int .i64 s.x)).1.stored (k * 3 + 2) (.int .i64 s.y)).1
        rw [e1, e2, e3] at h3
        have : (k + 1) * 3 = k * 3 + 2 + 1 := by omega
        rw [this]
        exact h3
      clear e1 e2 e3
      go_wp2
      go_roundw
      case rel => exact ⟨k + 1, by omega, by go_num, HO.out, ((hb2.setCell (Nat.le_refl _) _).setCell (Nat.le_refl _) _).setCell (Nat.le_refl _) _⟩
      case measure => simp [intOf]; omega
    · have hkk : k = ss.length := by omega
      subst hkk
      go_wp2
      go_ret
      refine ⟨_, rfl, ?_, hb⟩
      rw [filled_all _ _ _ (by omega) (by omega)] at hown
      exact hown

/-- What is left of the purse: all but the length, -1 where it is too long. -/
theorem szStmtS (n : Nat) (a : Option Addr) (cap : Nat) (l : Int) (w : World) (hn : n ≤ maxLen) (h0 : 0 ≤ l) (hl : l ≤ 1048576) :
    Calls Try.prog 95 #[.slice a n cap, .int .i64 l] w fun e w' => e = .returned (.int .i64 (if l < n then -1 else l - n)) ∧ w = w' := by
  unfold maxLen at hn
  by_cases h : l < (n : Int)
  · rw [if_pos h]
    have hx : (decide (l - (n : Int) < 0)) = true := by simp; omega
    go_enter Try.func95, Try.ntmps95
    go_wp2
    go_ret
    exact ⟨rfl, rfl⟩
  · rw [if_neg h]
    have hx : (decide (l - (n : Int) < 0)) = false := by simp; omega
    go_enter Try.func95, Try.ntmps95
    go_wp2
    go_ret
    exact ⟨rfl, rfl⟩

end Go.Proofs.Ytnjbihfceckpfaa

/-
  Small laws over cursors and worlds that grow, for the draws of programs.
-/
namespace Go.Proofs.Ytnjbihfceckpfaa
open Go.RowKit
set_option linter.unusedVariables false

theorem curLt {w : World} {g : Nat} {bs : List Int} (h : Cur w g bs) : g < w.heap.size := by
  obtain ⟨ao, cap, i, h, hh, _⟩ := h
  exact (Array.getElem?_eq_some_iff.1 hh).1

theorem curAlloc {w : World} {g : Nat} {bs : List Int} (h : Cur w g bs) (o : Obj) : Cur (w.alloc o) g bs := cur_below h (Below.alloc (Below.refl _ _) (Nat.le_refl _) o)

theorem grownAlloc {a w : World} {row : Option Nat} (h : a.grownBy w row) (o : Obj) : a.grownBy (w.alloc o) row := grown_trans h (World.grownBy_alloc w o row)

/-- A store into a block that was not there. -/
theorem grownSet {a w : World} {row : Option Nat} (h : a.grownBy w row) {b o : Nat} (hb : a.heap.size ≤ b) (u : Value) : a.grownBy (w.setCell ⟨b, o, none⟩ u) row :=
  ⟨h.os, h.tape, h.output, by simpa [World.setCell] using h.size, fun k hk hr => (Below.heap_setCell _ _ _ _ (by simp; omega)).trans (h.block k hk hr)⟩

theorem blockGrown {wr wr' : World} {g b : Nat} {o : Obj} (h : wr.heap[b]? = some o) (hg : wr.grownBy wr' (some g)) (hb : g < b) : wr'.heap[b]? = some o := by
  rw [hg.block b (Array.getElem?_eq_some_iff.1 h).1 (by simp; omega)]; exact h

theorem curSet {w : World} {g : Nat} {bs : List Int} (h : Cur w g bs) {b o : Nat} (hb : g < b) (u : Value) : Cur (w.setCell ⟨b, o, none⟩ u) g bs :=
  cur_grown h (grown_setCell w b o u) (by simp; omega)

theorem threeCells {w : World} {b : Nat} {x0 x1 x2 : Value} {T : TypeId} (h : w.heap[b]? = some (.cells #[x0, x1, x2] T (0, 0))) :
    w.cell? ⟨b, 0, none⟩ = some x0 ∧ w.cell? ⟨b, 1, none⟩ = some x1 ∧ w.cell? ⟨b, 2, none⟩ = some x2 ∧
      w.frozen? ⟨b, 0, none⟩ = false ∧ w.frozen? ⟨b, 1, none⟩ = false ∧ w.frozen? ⟨b, 2, none⟩ = false := by
  refine ⟨?_, ?_, ?_, ?_, ?_, ?_⟩ <;> simp [World.cell?, World.frozen?, h]

theorem threeSet {w : World} {b : Nat} {p0 p1 p2 : Value} {t : TypeId} (h : w.heap[b]? = some (.cells #[p0, p1, p2] t (0, 0))) (x0 x1 x2 : Value) :
    (((w.setCell ⟨b, 0, none⟩ x0).setCell ⟨b, 1, none⟩ x1).setCell ⟨b, 2, none⟩ x2).heap[b]? = some (.cells #[x0, x1, x2] t (0, 0)) := by
  have h1 := heap_setCell_same w b 0 _ t x0 h
  have h2 := heap_setCell_same _ b 1 _ t x1 h1
  have h3 := heap_setCell_same _ b 2 _ t x2 h2
  simpa using h3

end Go.Proofs.Ytnjbihfceckpfaa
