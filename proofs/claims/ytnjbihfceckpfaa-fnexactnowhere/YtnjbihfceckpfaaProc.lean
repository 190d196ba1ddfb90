/-
  Procs: toProc, szProc, eqProc, spec.ProcOk, impl.ProcOk.
-/
import Derived.Test.YtnjbihfceckpfaaG01IntS
namespace Go.Proofs.Ytnjbihfceckpfaa
open Go.RowKit
set_option linter.unusedVariables false
set_option maxHeartbeats 800000

theorem one_cell {w : World} {b : Nat} {x : Value} {T : TypeId} (h : w.heap[b]? = some (.cells #[x] T (0, 0))) : w.cell? ⟨b, 0, none⟩ = some x ∧ w.frozen? ⟨b, 0, none⟩ = false := by
  constructor <;> simp [World.cell?, World.frozen?, h]

theorem one_set {w : World} {b : Nat} {x : Value} {T : TypeId} (h : w.heap[b]? = some (.cells #[x] T (0, 0))) (y : Value) : (w.setCell ⟨b, 0, none⟩ y).heap[b]? = some (.cells #[y] T (0, 0)) := by
  have h1 := heap_setCell_same w b 0 _ T y h
  simpa using h1

theorem laid3 {w w1 : World} {a b c : Obj} (hb : Below (((w.alloc a).alloc b).alloc c).heap.size (((w.alloc a).alloc b).alloc c) w1) :
    w1.heap[w.heap.size]? = some a ∧ w1.heap[w.heap.size + 1]? = some b ∧ w1.heap[w.heap.size + 1 + 1]? = some c ∧ w.heap.size + 3 ≤ w1.heap.size ∧ Below w.heap.size w w1 := by
  have z1 : (w.alloc a).heap.size = w.heap.size + 1 := by simp
  have z2 : ((w.alloc a).alloc b).heap.size = w.heap.size + 1 + 1 := by simp
  have z3 : (((w.alloc a).alloc b).alloc c).heap.size = w.heap.size + 3 := by simp
  have h0 := heap_alloc_new w a
  have h1 := heap_alloc_new (w.alloc a) b
  have h2 := heap_alloc_new ((w.alloc a).alloc b) c
  rw [z1] at h1
  rw [z2] at h2
  have hs := hb.size
  refine ⟨?_, ?_, ?_, by omega, Below.trans (by go_grown) (hb.mono (by omega))⟩
  · rw [hb.block _ (by omega), old_block (by omega), old_block (by omega)]; exact h0
  · rw [hb.block _ (by omega), old_block (by omega)]; exact h1
  · rw [hb.block _ (by omega)]; exact h2

theorem own_slice {w : World} {base : Nat} {e : TypeId} {s n : Nat} {u : Value} {xs : List Value} (h : w.ownsRow base e s u n xs) : ∃ a m c, u = .slice a m c := by
  rcases h.2 with ⟨rfl, _⟩ | ⟨g, cap, cur, rfl, _⟩
  · exact ⟨_, _, _, rfl⟩
  · exact ⟨_, _, _, rfl⟩

theorem reads3_slice {w : World} {u : Value} {ss : List Stm} (h : Reads3 w u ss) : ∃ a m c, u = .slice a m c := by
  obtain ⟨a, c, rfl, _⟩ := h
  exact ⟨_, _, _, rfl⟩

theorem toProc (ss : List Stm) (v : Value) (w : World) (hl : ss.length ≤ 1048576) (hv : Reads3 w v ss) :
    Calls Try.prog 74 #[.agg #[v]] w fun e w' => ∃ u, e = .returned (.agg #[u]) ∧ w'.ownsRow w.heap.size 92 3 u ss.length (cells3 ss) ∧ Below w.heap.size w w' := by
  have hb0 : Below w.heap.size w (((w.alloc (.cells #[v] 118)).alloc (.cells #[.slice none 0 0] 81)).alloc (.cells #[.slice none 0 0] 81)) := by go_grown
  go_enter Try.func74, Try.ntmps74
  go_wp2_with fail
  go_at_call 104
  refine (toStmtS ss v _ hl (reads3_below hv hb0)).mono ?_
  rintro e w1 ⟨u, rfl, own1, b1⟩
  obtain ⟨H1, H2, H3, s1, L1⟩ := laid3 b1
  have ublk : ∀ k, u.ownBlock = some k → w.heap.size + 3 ≤ k := fun k hk => by have := (own1.lt k hk).1; simpa using this
  have own1 := own_mono own1 (base' := w.heap.size) (by simp; omega)
  have own2 := ownsRow_setCell_other own1 (a := ⟨w.heap.size + 1 + 1, 0, none⟩) (fun e => by have := ublk _ e; simp at this; omega) u
  have own3 := ownsRow_setCell_other own2 (a := ⟨w.heap.size + 1, 0, none⟩) (fun e => by have := ublk _ e; simp at this) u
  have G3 := one_set H3 u
  have G2 : (w1.setCell ⟨w.heap.size + 1 + 1, 0, none⟩ u).heap[w.heap.size + 1]? = _ := (Below.heap_setCell w1 ⟨w.heap.size + 1 + 1, 0, none⟩ u _ (by simp)).trans H2
  have G4 := one_set G2 u
  obtain ⟨c3, f3⟩ := one_cell H3
  obtain ⟨d3, g3⟩ := one_cell G3
  obtain ⟨d2, g2⟩ := one_cell G2
  obtain ⟨e2, i2⟩ := one_cell G4
  clear H1 H2 H3 G2 G3 G4 own1 own2
  obtain ⟨ua, un, uc, rfl⟩ := own_slice own3
  go_wp2
  refine bodyPost_ret (v := .agg #[.slice ua un uc]) (by simp [results, Try.results74, go_sem, e2]) rfl ?_
  exact ⟨_, rfl, own3, (L1.setCell (by simp; omega) _).setCell (by simp) _⟩

theorem szProc (n : Nat) (a : Option Addr) (cap : Nat) (l : Int) (w : World) (hn : n ≤ maxLen) (h0 : 0 ≤ l) (hl : l ≤ 1048576) :
    Calls Try.prog 66 #[.agg #[.slice a n cap], .int .i64 l] w fun e w' => e = .returned (.int .i64 (if l < n then -1 else l - n)) ∧ Below w.heap.size w w' := by
  have hz := szStmtS n a cap l
  by_cases h : l < (n : Int)
  · rw [if_pos h] at hz ⊢
    go_enter Try.func66, Try.ntmps66
    go_wp2_with (go_at_call 95; refine (hz _ hn h0 hl).mono ?_; rintro e w' ⟨rfl, rfl⟩)
    go_ret
    exact ⟨rfl, by go_grown⟩
  · rw [if_neg h] at hz ⊢
    have hx : (decide (l - (n : Int) < 0)) = false := by simp; omega
    go_enter Try.func66, Try.ntmps66
    go_wp2_with (go_at_call 95; refine (hz _ hn h0 hl).mono ?_; rintro e w' ⟨rfl, rfl⟩)
    go_ret
    exact ⟨rfl, by go_grown⟩

theorem eqProc (ss : List Stm) (v u : Value) (w : World) (hl : ss.length ≤ maxLen) (hv : Reads3 w v ss) (hu : Reads3 w u ss) :
    Calls Try.prog 78 #[.agg #[v], .agg #[u]] w fun e w' => e = .returned (.bool true) ∧ Below w.heap.size w w' := by
  have hb0 : Below w.heap.size w ((w.alloc (.cells #[v] 81)).alloc (.cells #[u] 81)) := by go_grown
  go_enter Try.func78, Try.ntmps78
  go_wp2_with fail
  go_at_call 116
  refine (eqStmtS ss v u _ hl (reads3_below hv hb0) (reads3_below hu hb0)).mono ?_
  rintro e w1 ⟨rfl, b1⟩
  go_wp2
  go_ret
  exact ⟨rfl, hb0.trans (b1.mono hb0.size)⟩

/-- Is a statement right within a Proc of n? -/
def stmOk (n : Nat) (s : Stm) : Bool := stmtOk s.k s.x s.y && !(decide (s.k = 7) && decide ((n : Int) ≤ s.y))

/-- What both answer of a Proc. -/
def procOk (ss : List Stm) : Bool :=
  decide (1 ≤ ss.length) && decide (ss.length ≤ 12) && (ss[ss.length - 1]?).any (fun s => decide (s.k = 9)) && ss.all (stmOk ss.length)

theorem all_take_succ {α : Type} (p : α → Bool) (l : List α) (k : Nat) (h : k < l.length) : (l.take (k + 1)).all p = ((l.take k).all p && p l[k]) := by
  rw [List.take_succ_eq_append_getElem h, List.all_append]; simp

theorem all_false {α : Type} (p : α → Bool) (l : List α) (k : Nat) (h : k < l.length) (hp : p l[k] = false) : l.all p = false := by
  rw [List.all_eq_false]
  exact ⟨l[k], List.getElem_mem h, by simp [hp]⟩

theorem specProcOk (ss : List Stm) (v : Value) (w : World) (hl : ss.length ≤ maxLen) (hv : Reads3 w v ss) :
    Calls Try.prog 67 #[.agg #[v]] w fun e w' => e = .returned (.bool (procOk ss)) ∧ Below w.heap.size w w' := by
  unfold maxLen at hl
  obtain ⟨ao, cap, rfl, hc⟩ := hv
  by_cases h1 : ss.length < 1
  · have hr : procOk ss = false := by simp [procOk]; omega
    rw [hr]
    have h1' : (ss.length : Int) < 1 := by omega
    go_enter Try.func67, Try.ntmps67
    go_wp2
    go_ret
    exact ⟨rfl, by go_grown⟩
  by_cases h2 : 12 < ss.length
  · have hr : procOk ss = false := by simp [procOk]; omega
    rw [hr]
    have h1' : ¬ (ss.length : Int) < 1 := by omega
    have h2' : (12 : Int) < (ss.length : Int) := by omega
    go_enter Try.func67, Try.ntmps67
    go_wp2
    go_ret
    exact ⟨rfl, by go_grown⟩
  have hlast : ss.length - 1 < ss.length := by omega
  have hz : ss[ss.length - 1]? = some ss[ss.length - 1] := by simp [hlast]
  obtain ⟨g, off, rfl, z0, _, _⟩ := hc _ _ hz
  have zB := World.block_lt_of_cell? w _ z0
  have n1 : ((ss.length : Int) - 1).toNat = ss.length - 1 := by omega
  by_cases h3 : ss[ss.length - 1].k = 9
  · have hr : procOk ss = ss.all (stmOk ss.length) := by
      have e1 : decide (1 ≤ ss.length) = true := by simp; omega
      have e2 : decide (ss.length ≤ 12) = true := by simp; omega
      rw [procOk, e1, e2, hz]
      simp [h3]
    rw [hr]
    rw [h3] at z0
    clear hz h3 hr
    have i1 : ¬ (ss.length : Int) < 1 := by omega
    have i2 : ¬ (12 : Int) < (ss.length : Int) := by omega
    go_enter Try.func67, Try.ntmps67
    go_wp2
    have hb0 : Below w.heap.size w (w.alloc (.cells #[.slice (some ⟨g, off, none⟩) ss.length cap] 81)) := by go_grown
    have H0 := heap_alloc_new w (.cells #[.slice (some ⟨g, off, none⟩) ss.length cap] 81)
    have s0 : (w.alloc (.cells #[.slice (some ⟨g, off, none⟩) ss.length cap] 81)).heap.size = w.heap.size + 1 := by simp
    generalize w.alloc (.cells #[.slice (some ⟨g, off, none⟩) ss.length cap] 81) = W at *
    go_loopw [4] (fun i wr => ∃ k : Nat, k ≤ ss.length ∧ i = .int .i64 k ∧ Below W.heap.size W wr ∧ (ss.take k).all (stmOk ss.length) = true) (fun i _ => ss.length - (intOf i).toNat)
    case atStart => exact ⟨0, Nat.zero_le _, rfl, Below.refl _ _, by simp⟩
    case round =>
      obtain ⟨k, hk, rfl, hb, hall⟩ := hrel
      have HALL : Hid _ := hall
      clear hall
      have hbw : Below w.heap.size w wr := hb0.trans (hb.mono hb0.size)
      obtain ⟨c0, f0⟩ := one_cell ((hb.block w.heap.size (by omega)).trans H0)
      by_cases hlt : k < ss.length
      · have hlt' : (k : Int) < (ss.length : Int) := by omega
        have e0 : some (⟨g, off, none⟩ : Addr) = some ⟨g, off, none⟩ := rfl
        obtain ⟨g', off', e1, p0, p1, p2⟩ := hc k ss[k] (by simp [hlt])
        simp only [Option.some.injEq, Addr.mk.injEq, and_true] at e1
        obtain ⟨rfl, rfl⟩ := e1
        have pB := World.block_lt_of_cell? w _ p0
        have p0 := (hbw.cell pB).trans p0
        have p1 := (hbw.cell (p := ⟨g, off + k * 3 + 1, none⟩) pB).trans p1
        have p2 := (hbw.cell (p := ⟨g, off + k * 3 + 2, none⟩) pB).trans p2
        have he := specStmtOk ss[k].k ss[k].x ss[k].y wr
        have hstep := all_take_succ (stmOk ss.length) ss k hlt
        have hbad := all_false (stmOk ss.length) ss k hlt
        rw [HALL.out, Bool.true_and] at hstep
        have HS : Hid _ := hstep
        have HB : Hid _ := hbad
        clear hstep hbad hc z0
        generalize hst : ss[k] = s at he p0 p1 p2 HS HB
        clear hst
        obtain ⟨sk, sx, sy⟩ := s
        simp only at he p0 p1 p2
        cases hok : stmtOk sk sx sy
        · rw [hok] at he
          have HF : Hid _ := HB.out (by simp [stmOk, hok])
          clear HS HB
          go_wp2_with (go_at_call 96; refine he.mono ?_; rintro e w2 ⟨rfl, b2⟩)
          go_ret
          exact ⟨by rw [HF.out]; rfl, hbw.trans (b2.mono hbw.size)⟩
        · rw [hok] at he
          by_cases h7 : sk = 7
          · subst h7
            by_cases hy : (ss.length : Int) ≤ sy
            · have HF : Hid _ := HB.out (by simp [stmOk, hok, hy])
              clear HS HB
              go_wp2_with fail
              go_at_call 96
              refine he.mono ?_
              rintro e w2 ⟨rfl, b2⟩
              obtain ⟨hcc, hff⟩ := bcell b2
              have cB := World.block_lt_of_cell? wr _ c0
              have pB' := World.block_lt_of_cell? wr _ p0
              go_wp2
              go_ret
              exact ⟨by rw [HF.out]; rfl, hbw.trans (b2.mono hbw.size)⟩
            · have HF : Hid ((ss.take (k + 1)).all (stmOk ss.length) = true) := HS.out.trans (by simp [stmOk, hok, hy])
              clear HS HB
              go_wp2_with fail
              go_at_call 96
              refine he.mono ?_
              rintro e w2 ⟨rfl, b2⟩
              obtain ⟨hcc, hff⟩ := bcell b2
              have cB := World.block_lt_of_cell? wr _ c0
              have pB' := World.block_lt_of_cell? wr _ p0
              go_wp2
              go_roundw
              case rel => exact ⟨k + 1, by omega, by go_num, hb.trans (b2.mono hb.size), HF.out⟩
              case measure => simp [intOf]; omega
          · have HF : Hid ((ss.take (k + 1)).all (stmOk ss.length) = true) := HS.out.trans (by simp [stmOk, hok, h7])
            clear HS HB
            go_wp2_with fail
            go_at_call 96
            refine he.mono ?_
            rintro e w2 ⟨rfl, b2⟩
            obtain ⟨hcc, hff⟩ := bcell b2
            have cB := World.block_lt_of_cell? wr _ c0
            have pB' := World.block_lt_of_cell? wr _ p0
            have h7' : (sk == 7) = false := by simpa using h7
            go_wp2
            go_roundw
            case rel => exact ⟨k + 1, by omega, by go_num, hb.trans (b2.mono hb.size), HF.out⟩
            case measure => simp [intOf]; omega
      · have hkk : k = ss.length := by omega
        subst hkk
        go_wp2
        go_ret
        have := HALL.out
        rw [List.take_length] at this
        exact ⟨by rw [this]; rfl, hbw⟩
  · have hr : procOk ss = false := by
      rw [procOk, hz]
      simp [h3]
    rw [hr]
    clear hz hr
    have h3' : (ss[ss.length - 1].k != 9) = true := by simp [h3]
    generalize ss[ss.length - 1] = s at *
    go_enter Try.func67, Try.ntmps67
    go_wp2
    go_ret
    exact ⟨rfl, by go_grown⟩

theorem stmtOk_jump {x y : Int} (h : stmtOk 7 x y = true) : 0 ≤ y := by
  unfold stmtOk at h
  simp [inB] at h
  omega

theorem wi_ge {y : Int} {n : Nat} (h0 : 0 ≤ y) : wiB y n = !decide ((n : Int) ≤ y) := by
  unfold wiB
  by_cases h : y < n
  · simp [h0, h]
  · simp [h]; omega

theorem implProcOk (ss : List Stm) (v : Value) (w : World) (hl : ss.length ≤ maxLen) (hv : Reads3 w v ss) :
    Calls Try.prog 109 #[.agg #[v]] w fun e w' => e = .returned (.bool (procOk ss)) ∧ Below w.heap.size w w' := by
  unfold maxLen at hl
  obtain ⟨ao, cap, rfl, hc⟩ := hv
  by_cases h1 : ss.length < 1
  · have hr : procOk ss = false := by simp [procOk]; omega
    rw [hr]
    have h1' : (ss.length : Int) < 1 := by omega
    go_enter Try.func109, Try.ntmps109
    go_wp2
    go_ret
    exact ⟨rfl, by go_grown⟩
  by_cases h2 : 12 < ss.length
  · have hr : procOk ss = false := by simp [procOk]; omega
    rw [hr]
    have h1' : ¬ (ss.length : Int) < 1 := by omega
    have h2' : (12 : Int) < (ss.length : Int) := by omega
    go_enter Try.func109, Try.ntmps109
    go_wp2
    go_ret
    exact ⟨rfl, by go_grown⟩
  have hlast : ss.length - 1 < ss.length := by omega
  have hz : ss[ss.length - 1]? = some ss[ss.length - 1] := by simp [hlast]
  obtain ⟨g, off, rfl, z0, _, _⟩ := hc _ _ hz
  have zB := World.block_lt_of_cell? w _ z0
  have n1 : ((ss.length : Int) - 1).toNat = ss.length - 1 := by omega
  have hr : procOk ss = (ss.all (stmOk ss.length) && (ss[ss.length - 1].k == 9)) := by
    have e1 : decide (1 ≤ ss.length) = true := by simp; omega
    have e2 : decide (ss.length ≤ 12) = true := by simp; omega
    rw [procOk, e1, e2, hz, Bool.and_comm]
    rfl
  rw [hr]
  have i1 : ¬ (ss.length : Int) < 1 := by omega
  have i2 : ¬ (12 : Int) < (ss.length : Int) := by omega
  clear hz hr
  generalize ss[ss.length - 1] = t at *
  obtain ⟨tk, tx, ty⟩ := t
  simp only at z0
  go_enter Try.func109, Try.ntmps109
  go_wp2
  have hb0 : Below w.heap.size w (w.alloc (.cells #[.slice (some ⟨g, off, none⟩) ss.length cap] 81)) := by go_grown
  have H0 := heap_alloc_new w (.cells #[.slice (some ⟨g, off, none⟩) ss.length cap] 81)
  have s0 : (w.alloc (.cells #[.slice (some ⟨g, off, none⟩) ss.length cap] 81)).heap.size = w.heap.size + 1 := by simp
  generalize w.alloc (.cells #[.slice (some ⟨g, off, none⟩) ss.length cap] 81) = W at *
  go_loopw [18] (fun i wr => ∃ k : Nat, k ≤ ss.length ∧ i = .int .i64 k ∧ Below W.heap.size W wr ∧ (ss.take k).all (stmOk ss.length) = true) (fun i _ => ss.length - (intOf i).toNat)
  case atStart => exact ⟨0, Nat.zero_le _, rfl, Below.refl _ _, by simp⟩
  case round =>
    obtain ⟨k, hk, rfl, hb, hall⟩ := hrel
    have HALL : Hid _ := hall
    clear hall
    have hbw : Below w.heap.size w wr := hb0.trans (hb.mono hb0.size)
    have z0 := (hbw.cell zB).trans z0
    obtain ⟨c0, f0⟩ := one_cell ((hb.block w.heap.size (by omega)).trans H0)
    by_cases hlt : k < ss.length
    · have hlt' : (k : Int) < (ss.length : Int) := by omega
      obtain ⟨g', off', e1, p0, p1, p2⟩ := hc k ss[k] (by simp [hlt])
      simp only [Option.some.injEq, Addr.mk.injEq, and_true] at e1
      obtain ⟨rfl, rfl⟩ := e1
      have pB := World.block_lt_of_cell? w _ p0
      have p0 := (hbw.cell pB).trans p0
      have p1 := (hbw.cell (p := ⟨g, off + k * 3 + 1, none⟩) pB).trans p1
      have p2 := (hbw.cell (p := ⟨g, off + k * 3 + 2, none⟩) pB).trans p2
      have he := implStmtOk ss[k].k ss[k].x ss[k].y
      have hstep := all_take_succ (stmOk ss.length) ss k hlt
      have hbad := all_false (stmOk ss.length) ss k hlt
      rw [HALL.out, Bool.true_and] at hstep
      have HS : Hid _ := hstep
      have HB : Hid _ := hbad
      clear hstep hbad hc z0
      generalize hst : ss[k] = s at he p0 p1 p2 HS HB
      clear hst
      obtain ⟨sk, sx, sy⟩ := s
      simp only at he p0 p1 p2
      have hbx : Below W.heap.size W (wr.alloc (.cells #[.int .i64 sk, .int .i64 sx, .int .i64 sy] 92)) := hb.alloc hb.size _
      have hbxw : Below w.heap.size w (wr.alloc (.cells #[.int .i64 sk, .int .i64 sx, .int .i64 sy] 92)) := hbw.alloc hbw.size _
      have sx0 : (wr.alloc (.cells #[.int .i64 sk, .int .i64 sx, .int .i64 sy] 92)).heap.size = wr.heap.size + 1 := by simp
      cases hok : stmtOk sk sx sy
      · rw [hok] at he
        have HF : Hid _ := HB.out (by simp [stmOk, hok])
        clear HS HB
        go_wp2_with (go_at_call 136; refine (he _).mono ?_; rintro e w2 ⟨rfl, b2⟩)
        go_ret
        exact ⟨by rw [HF.out]; rfl, hbxw.trans (b2.mono hbxw.size)⟩
      · rw [hok] at he
        by_cases h7 : sk = 7
        · subst h7
          have hwi := within sy ss.length
          rw [wi_ge (stmtOk_jump hok)] at hwi
          by_cases hy : (ss.length : Int) ≤ sy
          · have HF : Hid _ := HB.out (by simp [stmOk, hok, hy])
            have hd : decide ((ss.length : Int) ≤ sy) = true := by simp [hy]
            rw [hd] at hwi
            clear HS HB hd
            go_wp2_with fail
            go_at_call 136
            refine (he _).mono ?_
            rintro e w2 ⟨rfl, b2⟩
            obtain ⟨hcc, hff⟩ := bcell b2
            have q2 : wr.heap.size < w2.heap.size := by have := b2.size; omega
            go_wp2_with (go_at_call 137; refine (hwi _).mono ?_; rintro e w3 ⟨rfl, rfl⟩)
            go_ret
            exact ⟨by rw [HF.out]; rfl, hbxw.trans (b2.mono hbxw.size)⟩
          · have HF : Hid ((ss.take (k + 1)).all (stmOk ss.length) = true) := HS.out.trans (by simp [stmOk, hok, hy])
            have hd : decide ((ss.length : Int) ≤ sy) = false := by simp; omega
            rw [hd] at hwi
            clear HS HB hd
            go_wp2_with fail
            go_at_call 136
            refine (he _).mono ?_
            rintro e w2 ⟨rfl, b2⟩
            obtain ⟨hcc, hff⟩ := bcell b2
            have q2 : wr.heap.size < w2.heap.size := by have := b2.size; omega
            go_wp2_with (go_at_call 137; refine (hwi _).mono ?_; rintro e w3 ⟨rfl, rfl⟩)
            go_roundw
            case rel => exact ⟨k + 1, by omega, by go_num, hbx.trans (b2.mono hbx.size), HF.out⟩
            case measure => simp [intOf]; omega
        · have HF : Hid ((ss.take (k + 1)).all (stmOk ss.length) = true) := HS.out.trans (by simp [stmOk, hok, h7])
          clear HS HB
          go_wp2_with fail
          go_at_call 136
          refine (he _).mono ?_
          rintro e w2 ⟨rfl, b2⟩
          obtain ⟨hcc, hff⟩ := bcell b2
          have q2 : wr.heap.size < w2.heap.size := by have := b2.size; omega
          have h7' : (sk == 7) = false := by simpa using h7
          go_wp2
          go_roundw
          case rel => exact ⟨k + 1, by omega, by go_num, hbx.trans (b2.mono hbx.size), HF.out⟩
          case measure => simp [intOf]; omega
    · have hkk : k = ss.length := by omega
      subst hkk
      go_wp2
      go_ret
      have hal := HALL.out
      rw [List.take_length] at hal
      exact ⟨by rw [hal, Bool.true_and]; rfl, hbw⟩

end Go.Proofs.Ytnjbihfceckpfaa
