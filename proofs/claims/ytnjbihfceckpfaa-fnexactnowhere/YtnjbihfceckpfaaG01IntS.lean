/-
  Put together out of: Stmts, IntS.
-/
import Derived.Test.YtnjbihfceckpfaaG00Stmt
import Derived.Lib.QuietBelow
/-
  Slices of statements as they lie in memory (three cells each): toStmtS, szStmtS, eqStmt, eqStmtS.
-/
namespace Go.Proofs.Ytnjbihfceckpfaa
open Go.RowKit
set_option linter.unusedVariables false
set_option maxHeartbeats 4000000

/-- A statement's three numbers. -/
structure Stm where
  k : Int
  x : Int
  y : Int

/-- The cells of statements. -/
def cells3 : List Stm → List Value
  | [] => []
  | s :: ss => .int .i64 s.k :: .int .i64 s.x :: .int .i64 s.y :: cells3 ss

theorem cells3_length : ∀ ss : List Stm, (cells3 ss).length = ss.length * 3
  | [] => rfl
  | s :: ss => by simp [cells3, cells3_length ss]; omega

theorem cells3_get : ∀ (ss : List Stm) (j : Nat) (s : Stm), ss[j]? = some s →
    (cells3 ss)[j * 3]? = some (.int .i64 s.k) ∧ (cells3 ss)[j * 3 + 1]? = some (.int .i64 s.x) ∧ (cells3 ss)[j * 3 + 2]? = some (.int .i64 s.y)
  | [], j, s, h => by simp at h
  | t :: ss, 0, s, h => by simp at h; subst h; simp [cells3]
  | t :: ss, j + 1, s, h => by
    have := cells3_get ss j s (by simpa using h)
    have e : (j + 1) * 3 = j * 3 + 1 + 1 + 1 := by omega
    simp only [e, cells3]
    exact this

theorem cells3_append : ∀ (a b : List Stm), cells3 (a ++ b) = cells3 a ++ cells3 b
  | [], b => rfl
  | s :: a, b => by simp [cells3, cells3_append a b]

/-- The slice v holds the statements ss. -/
def Reads3 (w : World) (v : Value) (ss : List Stm) : Prop :=
  ∃ ao cap, v = .slice ao ss.length cap ∧ ∀ j s, ss[j]? = some s → ∃ g off, ao = some ⟨g, off, none⟩ ∧
    w.cell? ⟨g, off + j * 3, none⟩ = some (.int .i64 s.k) ∧ w.cell? ⟨g, off + j * 3 + 1, none⟩ = some (.int .i64 s.x) ∧ w.cell? ⟨g, off + j * 3 + 2, none⟩ = some (.int .i64 s.y)

theorem reads3_below {w w' : World} {v : Value} {ss : List Stm} (h : Reads3 w v ss) (hb : Below w.heap.size w w') : Reads3 w' v ss := by
  obtain ⟨ao, cap, rfl, hc⟩ := h
  refine ⟨ao, cap, rfl, fun j s hs => ?_⟩
  obtain ⟨g, off, hg, c0, c1, c2⟩ := hc j s hs
  have hB := World.block_lt_of_cell? w _ c0
  exact ⟨g, off, hg, (hb.cell hB).trans c0, (hb.cell (p := ⟨g, off + j * 3 + 1, none⟩) hB).trans c1, (hb.cell (p := ⟨g, off + j * 3 + 2, none⟩) hB).trans c2⟩

theorem reads3_own {w : World} {base : Nat} {e : TypeId} {v : Value} {ss : List Stm} (h : w.ownsRow base e 3 v ss.length (cells3 ss)) : Reads3 w v ss := by
  rcases h.2 with ⟨rfl, hn⟩ | ⟨g, cap, cur, rfl, hr⟩
  · exact ⟨none, 0, by rw [hn], fun j s hs => by rw [List.eq_nil_of_length_eq_zero hn] at hs; simp at hs⟩
  · refine ⟨some ⟨g, 0, none⟩, cap, rfl, fun j s hs => ⟨g, 0, rfl, ?_⟩⟩
    have hj : j < ss.length := by
      rcases Nat.lt_or_ge j ss.length with h | h
      · exact h
      · rw [List.getElem?_eq_none h] at hs; simp at hs
    obtain ⟨a0, a1, a2⟩ := cells3_get ss j s hs
    have hl := cells3_length ss
    simp only [Nat.zero_add]
    rw [h.cellAt (j * 3) (by omega), h.cellAt (j * 3 + 1) (by omega), h.cellAt (j * 3 + 2) (by omega)]
    exact ⟨a0, a1, a2⟩

theorem eqStmt (k x y : Int) (w : World) :
    Calls Try.prog 139 #[.agg #[.int .i64 k, .int .i64 x, .int .i64 y], .agg #[.int .i64 k, .int .i64 x, .int .i64 y]] w fun e w' => e = .returned (.bool true) ∧ Below w.heap.size w w' := by
  go_enter Try.func139, Try.ntmps139
  go_wp2
  go_ret
  exact ⟨rfl, by go_grown⟩

theorem eqStmtS (ss : List Stm) (v u : Value) (w : World) (hl : ss.length ≤ maxLen) (hv : Reads3 w v ss) (hu : Reads3 w u ss) :
    Calls Try.prog 116 #[v, u] w fun e w' => e = .returned (.bool true) ∧ Below w.heap.size w w' := by
  unfold maxLen at hl
  obtain ⟨ao, cap, rfl, hc⟩ := hv
  obtain ⟨bo, cap', rfl, hd⟩ := hu
  go_enter Try.func116, Try.ntmps116
  go_wp2
  go_loopw [5] (fun i wr => ∃ k : Nat, k ≤ ss.length ∧ i = .int .i64 k ∧ Below w.heap.size w wr) (fun i _ => ss.length - (intOf i).toNat)
  case atStart => exact ⟨0, Nat.zero_le _, rfl, Below.refl _ _⟩
  case round =>
    obtain ⟨k, hk, rfl, hb⟩ := hrel
    by_cases hlt : k < ss.length
    · obtain ⟨g, off, rfl, p0, p1, p2⟩ := hc k ss[k] (by simp [hlt])
      obtain ⟨g', off', rfl, q0, q1, q2⟩ := hd k ss[k] (by simp [hlt])
      have pB := World.block_lt_of_cell? w _ p0
      have qB := World.block_lt_of_cell? w _ q0
      have p0 := cell_regrown ((hb.cell pB).trans p0)
      have p1 := cell_regrown ((hb.cell (p := ⟨g, off + k * 3 + 1, none⟩) pB).trans p1)
      have p2 := cell_regrown ((hb.cell (p := ⟨g, off + k * 3 + 2, none⟩) pB).trans p2)
      have q0 := cell_regrown ((hb.cell qB).trans q0)
      have q1 := cell_regrown ((hb.cell (p := ⟨g', off' + k * 3 + 1, none⟩) qB).trans q1)
      have q2 := cell_regrown ((hb.cell (p := ⟨g', off' + k * 3 + 2, none⟩) qB).trans q2)
      have hlt' : (k : Int) < (ss.length : Int) := by omega
      have he : ∀ d os, _ := fun d os => Calls.regrown_of (w := wr) (d := d) (os := os) (eqStmt ss[k].k ss[k].x ss[k].y _)
      clear hc hd
      generalize ss[k] = s at *
      go_wp2
      refine wp_region_quiet_below (by kernel_rfl) (by kernel_rfl) ?_
      repeat (go_big_quiet_step (exact he _ _))
      refine wpQuiet_nil ?_
      intro _ hw'
      obtain ⟨⟨dq, osq⟩, hw''⟩ := hw'
      subst hw''
      have hb' := hb.trans ((below_regrown wr dq osq).mono hb.size)
      go_wp2
      go_roundw
      case rel => exact ⟨k + 1, by omega, by go_num, hb'⟩
      case measure => simp [intOf]; omega
    · go_wp2
      go_ret
      exact ⟨rfl, hb⟩

theorem infoStmt : (Try.prog.info? 92).map (fun i => (i.zero, i.size, i.bytes)) = some (some (.agg #[.int .i64 0, .int .i64 0, .int .i64 0]), 3, 24) := by kernel_rfl

/-- A row of n cells, the first k of them those of xs. -/
def filled (xs zs : List Value) (k : Nat) : List Value := xs.take k ++ zs.drop k

theorem filled_length (xs zs : List Value) (k : Nat) (hl : xs.length = zs.length) (h : k ≤ xs.length) : (filled xs zs k).length = xs.length := by
  simp [filled]; omega

theorem filled_set (xs zs : List Value) (k : Nat) (x : Value) (hl : xs.length = zs.length) (h : xs[k]? = some x) : (filled xs zs k).set k x = filled xs zs (k + 1) := by
  obtain ⟨hk, rfl⟩ := List.getElem?_eq_some_iff.1 h
  unfold filled
  have hk' : (xs.take k).length = k := by simp; omega
  rw [List.set_append_right _ _ (by simp; omega), hk', Nat.sub_self, List.drop_eq_getElem_cons (by omega), List.set_cons_zero, List.take_succ_eq_append_getElem hk]
  exact (List.append_assoc (xs.take k) [xs[k]] (zs.drop (k + 1))).symm

theorem filled_all (xs zs : List Value) (k : Nat) (hl : xs.length = zs.length) (h : k = xs.length) : filled xs zs k = xs := by
  rw [filled, List.take_of_length_le (by omega), List.drop_of_length_le (by omega), List.append_nil]

/-- A cell of a row that is owned: it is there. -/
theorem own_cell {w : World} {base : Nat} {e : TypeId} {s n g cap : Nat} {xs : List Value} (h : w.ownsRow base e s (.slice (some ⟨g, 0, none⟩) n cap) n xs) (j : Nat) (hj : j < n * s) : ∃ x, w.cell? ⟨g, j, none⟩ = some x := by
  have h1 := h.cellAt j hj
  have h2 := h.1
  exact ⟨xs[j]'(by omega), by rw [h1]; simp⟩

theorem toStmtS (ss : List Stm) (v : Value) (w : World) (hl : ss.length ≤ 1048576) (hv : Reads3 w v ss) :
    Calls Try.prog 104 #[v] w fun e w' => ∃ u, e = .returned u ∧ w'.ownsRow w.heap.size 92 3 u ss.length (cells3 ss) ∧ Below w.heap.size w w' := by
  obtain ⟨i0, hi, hz0, hz1, hz2⟩ := info_parts infoStmt
  obtain ⟨ao, cap, rfl, hc⟩ := hv
  have cl := cells3_length ss
  go_enter Try.func104, Try.ntmps104
  go_wp2_with (refine wpList_make_full _ rfl (.tmp 6) (.tmp 6) 79 rfl w.heap.size 92 i0 (.agg #[.int .i64 0, .int .i64 0, .int .i64 0]) 3 Try.underlying79 hi hz0 hz1 .i64 .i64 _ _ ss.length rfl rfl rfl rfl (by rw [hz2]; omega) (by unfold maxLen; omega) (Nat.le_refl _) ?_; intro w1 own1 grow1)
  have zl : (madeCells (Value.agg #[.int .i64 0, .int .i64 0, .int .i64 0]).cells (ss.length * 3)).toList.length = ss.length * 3 := by simpa using own1.1
  generalize (madeCells (Value.agg #[.int .i64 0, .int .i64 0, .int .i64 0]).cells (ss.length * 3)).toList = zs at own1 zl
  have hb1 : Below w.heap.size w w1 := (Below.refl _ _).grown grow1 (Nat.le_refl _) (by simp)
  go_loopw [4] (fun i wr => ∃ k : Nat, k ≤ ss.length ∧ i = .int .i64 k ∧ wr.ownsRow w.heap.size 92 3 (.slice (some ⟨w.heap.size, 0, none⟩) ss.length ss.length) ss.length (filled (cells3 ss) zs (k * 3)) ∧ Below w.heap.size w wr) (fun i _ => ss.length - (intOf i).toNat)
  case atStart => exact ⟨0, Nat.zero_le _, rfl, by simpa [filled] using own1, hb1⟩
  case round =>
    obtain ⟨k, hk, rfl, hown, hb⟩ := hrel
    by_cases hlt : k < ss.length
    · have hsk : ss[k]? = some ss[k] := by simp [hlt]
      obtain ⟨g, off, rfl, p0, p1, p2⟩ := hc k ss[k] hsk
      obtain ⟨a0, a1, a2⟩ := cells3_get ss k ss[k] hsk
      have pB := World.block_lt_of_cell? w _ p0
      have p0 := (hb.cell pB).trans p0
      have p1 := (hb.cell (p := ⟨g, off + k * 3 + 1, none⟩) pB).trans p1
      have p2 := (hb.cell (p := ⟨g, off + k * 3 + 2, none⟩) pB).trans p2
      have hlt' : (k : Int) < (ss.length : Int) := by omega
      have he := toStmt ss[k].k ss[k].x ss[k].y
      have e1 := filled_set (cells3 ss) zs (k * 3) _ (by omega) a0
      have e2 := filled_set (cells3 ss) zs (k * 3 + 1) _ (by omega) a1
      have e3 := filled_set (cells3 ss) zs (k * 3 + 2) _ (by omega) a2
      clear hc hsk a0 a1 a2
      generalize ss[k] = s at *
      go_wp2_with fail
      go_at_call 135
      refine (he wr).mono ?_
      rintro e w2 ⟨rfl, b2⟩
      have own2 := own_kept hown b2
      have hb2 := hb.trans (b2.mono hb.size)
      have f0 := own2.frozenAt (k * 3)
      have f1 := own2.frozenAt (k * 3 + 1)
      have f2 := own2.frozenAt (k * 3 + 2)
      obtain ⟨y0, c0⟩ := own_cell own2 (k * 3) (by omega)
      obtain ⟨y1, c1⟩ := own_cell own2 (k * 3 + 1) (by omega)
      obtain ⟨y2, c2⟩ := own_cell own2 (k * 3 + 2) (by omega)
      have HO : Hid (((((w2.setCell ⟨w.heap.size, k * 3, none⟩ (.int .i64 s.k)).setCell ⟨w.heap.size, k * 3 + 1, none⟩ (.int .i64 s.x)).setCell ⟨w.heap.size, k * 3 + 2, none⟩ (.int .i64 s.y))).ownsRow w.heap.size 92 3 (.slice (some ⟨w.heap.size, 0, none⟩) ss.length ss.length) ss.length (filled (cells3 ss) zs ((k + 1) * 3))) := by
        have h3 := (((own2.stored (k * 3) (.int .i64 s.k)).1.stored (k * 3 + 1) (.int .i64 s.x)).1.stored (k * 3 + 2) (.int .i64 s.y)).1
        rw [e1, e2, e3] at h3
        have : (k + 1) * 3 = k * 3 + 2 + 1 := by omega
        rw [this]
        exact h3
      clear e1 e2 e3
      go_wp2
      go_roundw
      case rel => exact ⟨k + 1, by omega, by go_num, HO.out, ((hb2.setCell (Nat.le_refl _) _).setCell (Nat.le_refl _) _).setCell (Nat.le_refl _) _⟩
      case measure => simp [intOf]; omega
    · have hkk : k = ss.length := by omega
      subst hkk
      go_wp2
      go_ret
      refine ⟨_, rfl, ?_, hb⟩
      rw [filled_all _ _ _ (by omega) (by omega)] at hown
      exact hown

/-- What is left of the purse: all but the length, -1 where it is too long. -/
theorem szStmtS (n : Nat) (a : Option Addr) (cap : Nat) (l : Int) (w : World) (hn : n ≤ maxLen) (h0 : 0 ≤ l) (hl : l ≤ 1048576) :
    Calls Try.prog 95 #[.slice a n cap, .int .i64 l] w fun e w' => e = .returned (.int .i64 (if l < n then -1 else l - n)) ∧ w = w' := by
  unfold maxLen at hn
  by_cases h : l < (n : Int)
  · rw [if_pos h]
    have hx : (decide (l - (n : Int) < 0)) = true := by simp; omega
    go_enter Try.func95, Try.ntmps95
    go_wp2
    go_ret
    exact ⟨rfl, rfl⟩
  · rw [if_neg h]
    have hx : (decide (l - (n : Int) < 0)) = false := by simp; omega
    go_enter Try.func95, Try.ntmps95
    go_wp2
    go_ret
    exact ⟨rfl, rfl⟩

end Go.Proofs.Ytnjbihfceckpfaa

/-
  Slices of int64: eqInt64S, markInt64S, heldInt64S, l1Has, l1Put.
-/
namespace Go.Proofs.Ytnjbihfceckpfaa
open Go.RowKit
set_option linter.unusedVariables false
set_option maxHeartbeats 1000000

def ints (xs : List Int) : List Value := xs.map (.int .i64)

theorem ints_length (xs : List Int) : (ints xs).length = xs.length := by simp [ints]

theorem eqInt64S (xs : List Int) (v u : Value) (w : World) (hl : xs.length ≤ maxLen) (hv : Reads w v (ints xs)) (hu : Reads w u (ints xs)) :
    Calls Try.prog 13 #[v, u] w fun e w' => e = .returned (.bool true) ∧ Below w.heap.size w w' := by
  unfold maxLen at hl
  obtain ⟨ao, cap, rfl, hc⟩ := hv
  obtain ⟨bo, cap', rfl, hd⟩ := hu
  simp only [ints_length]
  go_enter Try.func13, Try.ntmps13
  go_wp2
  go_loopw [5] (fun i wr => ∃ k : Nat, k ≤ xs.length ∧ i = .int .i64 k ∧ Below w.heap.size w wr) (fun i _ => xs.length - (intOf i).toNat)
  case atStart => exact ⟨0, Nat.zero_le _, rfl, Below.refl _ _⟩
  case round =>
    obtain ⟨k, hk, rfl, hb⟩ := hrel
    by_cases hlt : k < xs.length
    · obtain ⟨g, off, rfl, hg⟩ := hc k (.int .i64 xs[k]) (by simp [ints, hlt])
      obtain ⟨g', off', rfl, hg'⟩ := hd k (.int .i64 xs[k]) (by simp [ints, hlt])
      have hg := (hb.cell (World.block_lt_of_cell? w _ hg)).trans hg
      have hg' := (hb.cell (World.block_lt_of_cell? w _ hg')).trans hg'
      have hlt' : (k : Int) < (xs.length : Int) := by omega
      clear hc hd
      generalize xs[k] = x at *
      go_wp2
      go_quiet (fail)
      go_wp2
      go_roundw
      case rel => exact ⟨k + 1, by omega, by go_num, below_drewN hb _⟩
      case measure => simp [intOf]; omega
    · go_wp2
      go_ret
      exact ⟨rfl, hb⟩

/-- The marks that markInt64S lays from k on. -/
def markI (k : Int) : Nat → List Value
  | 0 => []
  | n + 1 => .int .i64 k :: markI (k + 1) n

theorem markI_length : ∀ (n : Nat) (k : Int), (markI k n).length = n
  | 0, _ => rfl
  | n + 1, k => by simp [markI, markI_length n]

theorem markI_get : ∀ (n : Nat) (k : Int) (j : Nat), j < n → (markI k n)[j]? = some (.int .i64 (k + j))
  | 0, _, _, h => absurd h (by omega)
  | n + 1, k, 0, _ => by simp [markI]
  | n + 1, k, j + 1, h => by
    rw [markI, List.getElem?_cons_succ, markI_get n (k + 1) j (by omega)]
    congr 2
    push_cast
    omega

theorem markInt64S {te : TypeId} (xs : List Value) (v : Value) (base : Nat) (k : Int) (w : World) (hl : xs.length ≤ 1099511627776) (h1 : 1 ≤ k) (h2 : k ≤ 1099511627776) (hbase : base ≤ w.heap.size)
    (hv : w.ownsRow base te 1 v xs.length xs) :
    Calls Try.prog 16 #[v, .int .i64 k] w fun e w' => e = .returned (.int .i64 (k + xs.length)) ∧ w'.ownsRow base te 1 v xs.length (markI k xs.length) ∧ Below base w w' ∧ w.grownBy w' v.ownBlock := by
  rcases hv.2 with ⟨rfl, hn⟩ | ⟨g, cap, cur, rfl, hbg, hg, hcap⟩
  · have hx : xs = [] := List.eq_nil_of_length_eq_zero hn
    subst hx
    go_enter Try.func16, Try.ntmps16
    go_wp2
    refine wp_loop_rounds 1 ?_
    rw [rounds_succ]
    go_wp2
    go_ret
    exact ⟨ret_int (by simp), hv, Below.refl _ _, World.grownBy.refl _ _⟩
  · clear hcap
    have ml := markI_length xs.length k
    go_enter Try.func16, Try.ntmps16
    go_wp2
    go_loopw [1, 5] (fun q i wr => ∃ j : Nat, j ≤ xs.length ∧ i = .int .i64 j ∧ q = .int .i64 (k + j) ∧ wr.ownsRow base te 1 (.slice (some ⟨g, 0, none⟩) xs.length cap) xs.length (filled (markI k xs.length) xs j) ∧ Below base w wr ∧ w.grownBy wr (some g)) (fun _ i _ => xs.length - (intOf i).toNat)
    case atStart => exact ⟨0, Nat.zero_le _, rfl, by simp, by simpa [filled] using hv, Below.refl _ _, World.grownBy.refl _ _⟩
    case round =>
      obtain ⟨j, hj, rfl, rfl, hown, hb, hgr⟩ := hrel
      by_cases hlt : j < xs.length
      · have hlt' : (j : Int) < (xs.length : Int) := by omega
        have hfr := hown.frozenAt j
        obtain ⟨x, hcl⟩ := own_cell hown j (by omega)
        have hst := hown.stored j (.int .i64 (k + j))
        have hset := filled_set (markI k xs.length) xs j _ ml (markI_get _ k j hlt)
        rw [hset] at hst
        have HST : Hid ((wr.setCell ⟨g, j, none⟩ (.int .i64 (k + j))).ownsRow base te 1 (.slice (some ⟨g, 0, none⟩) xs.length cap) xs.length (filled (markI k xs.length) xs (j + 1)) ∧ wr.grownBy (wr.setCell ⟨g, j, none⟩ (.int .i64 (k + j))) (some g)) := hst
        clear hst hset ml
        go_wp2
        go_roundw
        case rel => exact ⟨j + 1, by omega, by go_num, by go_num, HST.out.1, hb.setCell hbg _, grown_trans hgr HST.out.2⟩
        case measure => simp [intOf]; omega
      · have hjj : j = xs.length := by omega
        subst hjj
        rw [filled_all _ _ _ ml ml.symm] at hown
        go_wp2
        go_ret
        exact ⟨rfl, hown, hb, hgr⟩

theorem heldInt64S (n : Nat) (v : Value) (k : Int) (w : World) (hl : n ≤ 1099511627776) (h1 : 1 ≤ k) (h2 : k ≤ 1099511627776) (hv : Reads w v (markI k n)) :
    Calls Try.prog 17 #[v, .int .i64 k] w fun e w' => e = .returned (.int .i64 (k + n)) ∧ Below w.heap.size w w' := by
  obtain ⟨ao, cap, rfl, hc⟩ := hv
  rw [markI_length]
  go_enter Try.func17, Try.ntmps17
  go_wp2
  go_loopw [1, 5] (fun q i wr => ∃ j : Nat, j ≤ n ∧ i = .int .i64 j ∧ q = .int .i64 (k + j) ∧ w = wr) (fun _ i _ => n - (intOf i).toNat)
  case atStart => exact ⟨0, Nat.zero_le _, rfl, by simp, rfl⟩
  case round =>
    obtain ⟨j, hj, rfl, rfl, rfl⟩ := hrel
    by_cases hlt : j < n
    · have hlt' : (j : Int) < (n : Int) := by omega
      obtain ⟨g, off, rfl, hg⟩ := hc j _ (markI_get n k j hlt)
      clear hc
      go_wp2
      go_roundw
      case rel => exact ⟨j + 1, by omega, by go_num, by go_num, by trivial⟩
      case measure => simp [intOf]; omega
    · have hjj : j = n := by omega
      subst hjj
      go_wp2
      go_ret
      exact ⟨rfl, Below.refl _ _⟩

end Go.Proofs.Ytnjbihfceckpfaa
