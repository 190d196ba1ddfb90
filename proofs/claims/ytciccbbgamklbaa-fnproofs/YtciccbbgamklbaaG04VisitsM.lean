/-
  Put together out of: Nexts, BeforeBoth, WayBoth, Bfs, InsideM, WaysM, HeapM, VisitsM.
-/
import Derived.Test.YtciccbbgamklbaaG00RelA
import Derived.Test.YtciccbbgamklbaaG03Proc
import Derived.Laws.OwnMore
import Derived.Deep.RegionHeld3
import Derived.Deep.DrawnRows
/-
  Chapter 4: what may come next: impl.nextsOf, spec.l4Next, and who asks: l4In, hasStmt.
-/
namespace Go.Proofs.Ytciccbbgamklbaa
open Go.RowKit
set_option linter.unusedVariables false
set_option maxHeartbeats 1000000

/-- What may come behind a statement that lies at i. -/
def nextsS (s : Stm) (i : Int) : List Int :=
  if s.k = 9 then []
  else if s.k = 7 then (if s.y ≤ i then [s.y, i + 1] else if i + 1 < s.y then [i + 1, s.y] else [i + 1])
  else [i + 1]

theorem nextsS_length (s : Stm) (i : Int) : (nextsS s i).length ≤ 2 := by
  unfold nextsS
  repeat' split
  all_goals simp

theorem made1 (w : World) (a : Int) : (w.alloc (.cells #[.int .i64 a] 2)).ownsRow w.heap.size 2 1 (.slice (some ⟨w.heap.size, 0, none⟩) 1 1) 1 [.int .i64 a] :=
  World.ownsRow_lit w #[.int .i64 a] 1 (size := 1) (Nat.le_refl _) (by decide) (by simp)

theorem made2 (w : World) (a b : Int) : (w.alloc (.cells #[.int .i64 a, .int .i64 b] 2)).ownsRow w.heap.size 2 1 (.slice (some ⟨w.heap.size, 0, none⟩) 2 2) 2 [.int .i64 a, .int .i64 b] :=
  World.ownsRow_lit w #[.int .i64 a, .int .i64 b] 2 (size := 1) (Nat.le_refl _) (by decide) (by simp)

theorem made1_at {w : World} {n base : Nat} (hn : w.heap.size = n) (hb : base ≤ n) (a : Int) : (w.alloc (.cells #[.int .i64 a] 2)).ownsRow base 2 1 (.slice (some ⟨n, 0, none⟩) 1 1) 1 [.int .i64 a] := by
  subst hn
  exact own_mono (made1 w a) hb

theorem made2_at {w : World} {n base : Nat} (hn : w.heap.size = n) (hb : base ≤ n) (a b : Int) : (w.alloc (.cells #[.int .i64 a, .int .i64 b] 2)).ownsRow base 2 1 (.slice (some ⟨n, 0, none⟩) 2 2) 2 [.int .i64 a, .int .i64 b] := by
  subst hn
  exact own_mono (made2 w a b) hb

theorem nil_own (w : World) (base : Nat) : w.ownsRow base 2 1 (.slice none 0 0) 0 [] := ⟨by simp, .inl ⟨rfl, rfl⟩⟩

theorem nextsOf (ss : List Stm) (i : Nat) (v : Value) (w : World) (hi : i < ss.length) (hl : ss.length ≤ 12) (hv : Reads3 w v ss) :
    Calls Try.prog 45 #[.agg #[v], .int .i64 i] w fun e w' => ∃ u, e = .returned u ∧ w'.ownsRow w.heap.size 2 1 u (nextsS ss[i] i).length (ints (nextsS ss[i] i)) ∧ Below w.heap.size w w' := by
  obtain ⟨ao, cap, rfl, hc⟩ := hv
  obtain ⟨g, off, rfl, p0, p1, p2⟩ := hc i ss[i] (by simp [hi])
  have pB := World.block_lt_of_cell? w _ p0
  have hi' : (i : Int) < (ss.length : Int) := by omega
  have hl' : (ss.length : Int) ≤ 12 := by omega
  clear hc
  generalize ss[i] = s at *
  obtain ⟨sk, sx, sy⟩ := s
  simp only at p0 p1 p2
  unfold nextsS
  simp only
  by_cases h9 : sk = 9
  · subst h9
    simp only [if_true]
    go_enter Try.func45, Try.ntmps45
    go_wp2
    go_ret
    exact ⟨_, rfl, nil_own _ _, by go_grown⟩
  have h9' : (sk == 9) = false := by simpa using h9
  rw [if_neg h9]
  by_cases h7 : sk = 7
  · subst h7
    rw [if_pos rfl]
    clear h9 h9'
    by_cases hy : sy ≤ i
    · rw [if_pos hy]
      go_enter Try.func45, Try.ntmps45
      go_wp2
      go_ret
      exact ⟨.slice (some ⟨w.heap.size + 1 + 1, 0, none⟩) 2 2, rfl, made2_at (by simp) (by omega) _ _, by go_grown⟩
    rw [if_neg hy]
    by_cases hy2 : (i : Int) + 1 < sy
    · rw [if_pos hy2]
      go_enter Try.func45, Try.ntmps45
      go_wp2
      go_ret
      exact ⟨.slice (some ⟨w.heap.size + 1 + 1, 0, none⟩) 2 2, rfl, made2_at (by simp) (by omega) _ _, by go_grown⟩
    · rw [if_neg hy2]
      go_enter Try.func45, Try.ntmps45
      go_wp2
      go_ret
      exact ⟨.slice (some ⟨w.heap.size + 1 + 1, 0, none⟩) 1 1, rfl, made1_at (by simp) (by omega) _, by go_grown⟩
  · have h7' : (sk == 7) = false := by simpa using h7
    rw [if_neg h7]
    go_enter Try.func45, Try.ntmps45
    go_wp2
    go_ret
    exact ⟨.slice (some ⟨w.heap.size + 1 + 1, 0, none⟩) 1 1, rfl, made1_at (by simp) (by omega) _, by go_grown⟩

theorem procOk_parts {ss : List Stm} (h : procOk ss = true) : 1 ≤ ss.length ∧ ss.length ≤ 12 ∧ (∀ (i : Nat) (hi : i < ss.length), stmOk ss.length ss[i] = true ∧ (ss[i].k ≠ 9 → i + 1 < ss.length)) := by
  unfold procOk at h
  simp only [Bool.and_eq_true, decide_eq_true_eq] at h
  obtain ⟨⟨⟨h1, h2⟩, h3⟩, h4⟩ := h
  refine ⟨h1, h2, fun i hi => ⟨List.all_eq_true.1 h4 _ (List.getElem_mem hi), fun h9 => ?_⟩⟩
  rcases Nat.lt_or_ge (i + 1) ss.length with h | h
  · exact h
  · have : i = ss.length - 1 := by omega
    subst this
    simp [hi, h9] at h3

theorem stmOk_jump {n : Nat} {s : Stm} (h : stmOk n s = true) (h7 : s.k = 7) : 0 ≤ s.y ∧ s.y < n := by
  unfold stmOk at h
  simp only [Bool.and_eq_true] at h
  obtain ⟨h1, h2⟩ := h
  rw [h7] at h1
  refine ⟨stmtOk_jump h1, ?_⟩
  simpa [h7] using h2

/-- What may come next lies within. -/
theorem nextsS_in {ss : List Stm} (h : procOk ss = true) {i : Nat} (hi : i < ss.length) : ∀ x ∈ nextsS ss[i] i, ∃ j : Nat, x = (j : Int) ∧ j < ss.length := by
  obtain ⟨_, _, h3⟩ := procOk_parts h
  obtain ⟨h4, h5⟩ := h3 i hi
  intro x hx
  unfold nextsS at hx
  by_cases h9 : ss[i].k = 9
  · simp [h9] at hx
  rw [if_neg h9] at hx
  have hn : ∃ j : Nat, ((i : Int) + 1) = (j : Int) ∧ j < ss.length := ⟨i + 1, by omega, h5 h9⟩
  by_cases h7 : ss[i].k = 7
  · rw [if_pos h7] at hx
    obtain ⟨y0, y1⟩ := stmOk_jump h4 h7
    have hy : ∃ j : Nat, ss[i].y = (j : Int) ∧ j < ss.length := ⟨ss[i].y.toNat, by omega, by omega⟩
    split at hx
    · simp at hx; rcases hx with rfl | rfl <;> assumption
    · split at hx
      · simp at hx; rcases hx with rfl | rfl <;> assumption
      · simp at hx; subst hx; assumption
  · rw [if_neg h7] at hx
    simp at hx; subst hx; assumption

theorem ins_len1 (n : Int) : (ins n []).length ≤ 1 := by simp [ins]

theorem three_cells' {w : World} {b : Nat} {x0 x1 x2 : Value} {T : TypeId} (h : w.heap[b]? = some (.cells #[x0, x1, x2] T (0, 0))) :
    w.cell? ⟨b, 0, none⟩ = some x0 ∧ w.cell? ⟨b, 1, none⟩ = some x1 ∧ w.cell? ⟨b, 2, none⟩ = some x2 ∧
      w.frozen? ⟨b, 0, none⟩ = false ∧ w.frozen? ⟨b, 1, none⟩ = false ∧ w.frozen? ⟨b, 2, none⟩ = false := by
  refine ⟨?_, ?_, ?_, ?_, ?_, ?_⟩ <;> simp [World.cell?, World.frozen?, h]

theorem l4Next (ss : List Stm) (i : Nat) (v : Value) (w : World) (hok : procOk ss = true) (hi : i < ss.length) (hv : Reads3 w v ss) :
    Calls Try.prog 28 #[.agg #[v], .int .i64 i] w fun e w' => ∃ g cap, e = .returned (.slice (some ⟨g, 0, none⟩) (nextsS ss[i] i).length cap) ∧
      w'.ownsRow w.heap.size 2 1 (.slice (some ⟨g, 0, none⟩) (nextsS ss[i] i).length cap) (nextsS ss[i] i).length (ints (nextsS ss[i] i)) ∧ Below w.heap.size w w' := by
  obtain ⟨_, hl, h3⟩ := procOk_parts hok
  obtain ⟨h4, h5⟩ := h3 i hi
  obtain ⟨ao, cap, rfl, hc⟩ := hv
  obtain ⟨g, off, rfl, p0, p1, p2⟩ := hc i ss[i] (by simp [hi])
  have pB := World.block_lt_of_cell? w _ p0
  have hi' : (i : Int) < (ss.length : Int) := by omega
  have hl' : (ss.length : Int) ≤ 12 := by omega
  clear hc h3 h4 hok
  generalize ss[i] = s at *
  obtain ⟨sk, sx, sy⟩ := s
  simp only at p0 p1 p2 h5
  unfold nextsS
  simp only
  obtain ⟨W0, hW0⟩ : ∃ W0, (w.alloc (.cells #[.slice (some ⟨g, off, none⟩) ss.length cap] 30)).alloc (.cells #[.int .i64 sk, .int .i64 sx, .int .i64 sy] 54) = W0 := ⟨_, rfl⟩
  have s0 : W0.heap.size = w.heap.size + 1 + 1 := by rw [← hW0]; simp
  have b0 : Below w.heap.size w W0 := by rw [← hW0]; go_grown
  have m0 : (W0.alloc (.cells #[] 2)).ownsRow w.heap.size 2 1 (.slice (some ⟨w.heap.size + 1 + 1, 0, none⟩) 0 0) 0 [] := by
    have := own_mono (made0 W0) (base' := w.heap.size) (by omega)
    rwa [s0] at this
  have HW : Hid ((w.alloc (.cells #[.slice (some ⟨g, off, none⟩) ss.length cap] 30)).alloc (.cells #[.int .i64 sk, .int .i64 sx, .int .i64 sy] 54) = W0) := hW0
  have C0 : Hid (W0.heap[w.heap.size + 1]? = some (.cells #[.int .i64 sk, .int .i64 sx, .int .i64 sy] 54 (0, 0))) := by
    show W0.heap[w.heap.size + 1]? = some (.cells #[.int .i64 sk, .int .i64 sx, .int .i64 sy] 54 (0, 0))
    rw [← hW0]
    have := heap_alloc_new (w.alloc (.cells #[.slice (some ⟨g, off, none⟩) ss.length cap] 30)) (.cells #[.int .i64 sk, .int .i64 sx, .int .i64 sy] 54)
    simpa using this
  clear hW0
  by_cases h9 : sk = 9
  · subst h9
    rw [if_pos rfl]
    go_enter Try.func28, Try.ntmps28
    go_wp2
    go_ret
    exact ⟨w.heap.size + 1 + 1, 0, rfl, by rw [HW.out]; exact m0, by go_grown⟩
  have h9' : (sk == 9) = false := by simpa using h9
  rw [if_neg h9]
  have hn : (i : Int) + 1 < (ss.length : Int) := by have := h5 h9; omega
  have hp1 := l1Put [] (i + 1) (w.heap.size + 1 + 1) 0 w.heap.size (W0.alloc (.cells #[] 2)) (by simp) (by simp; omega) m0
  by_cases h7 : sk = 7
  · subst h7
    rw [if_pos rfl]
    clear h9 h9' h5
    have hins : ins sy (ins ((i : Int) + 1) []) = (if sy ≤ i then [sy, (i : Int) + 1] else if (i : Int) + 1 < sy then [(i : Int) + 1, sy] else [(i : Int) + 1]) := by
      simp only [ins]
      by_cases h1 : sy ≤ i
      · rw [if_pos h1, if_neg (by omega), if_neg (by omega)]
      · rw [if_neg h1]
        by_cases h2 : (i : Int) + 1 < sy
        · rw [if_pos h2, if_pos h2]
        · rw [if_neg h2, if_neg h2, if_pos (by omega)]
    rw [← hins]
    have HI : Hid _ := hins
    clear hins
    have hlen := ins_len1 ((i : Int) + 1)
    generalize ins ((i : Int) + 1) [] = xs at *
    go_enter Try.func28, Try.ntmps28
    go_wp2_with fail
    go_at_call 49
    rw [HW.out]
    refine hp1.mono ?_
    rintro e w1 ⟨g1, c1, rfl, own1, b1⟩
    have L1 : Below w.heap.size w w1 := (b0.alloc (by omega) _).trans (b1.mono (by simp; omega))
    obtain ⟨x0, x1, x2, _⟩ := three_cells' ((b1.block (w.heap.size + 1) (by simp; omega)).trans ((old_block (by omega)).trans C0.out))
    have hp2 := l1Put xs sy g1 c1 w.heap.size w1 (by omega) L1.size own1
    clear hp1
    go_wp2_with fail
    go_at_call 49
    refine hp2.mono ?_
    rintro e w2 ⟨g2, c2, rfl, own2, b2⟩
    clear hp2
    go_wp2
    go_ret
    exact ⟨g2, c2, rfl, own2, L1.trans (b2.mono L1.size)⟩
  · have h7' : (sk == 7) = false := by simpa using h7
    rw [if_neg h7]
    go_enter Try.func28, Try.ntmps28
    go_wp2_with fail
    go_at_call 49
    rw [HW.out]
    refine hp1.mono ?_
    rintro e w1 ⟨g1, c1, rfl, own1, b1⟩
    have L1 : Below w.heap.size w w1 := (b0.alloc (by omega) _).trans (b1.mono (by simp; omega))
    obtain ⟨x0, x1, x2, _⟩ := three_cells' ((b1.block (w.heap.size + 1) (by simp; omega)).trans ((old_block (by omega)).trans C0.out))
    clear hp1
    go_wp2
    go_ret
    exact ⟨g1, c1, rfl, own1, L1⟩

/-- Is there such a statement? -/
def hasS (ss : List Stm) (i : Int) : Bool := procOk ss && wiB i ss.length

theorem hasS_true {ss : List Stm} {i : Int} (h : hasS ss i = true) : procOk ss = true ∧ ∃ j : Nat, i = (j : Int) ∧ j < ss.length := by
  unfold hasS wiB at h
  simp only [Bool.and_eq_true, decide_eq_true_eq] at h
  obtain ⟨h1, h2, h3⟩ := h
  exact ⟨h1, i.toNat, by omega, by omega⟩

theorem l4In (ss : List Stm) (i : Int) (v : Value) (w : World) (hl : ss.length ≤ maxLen) (hv : Reads3 w v ss) :
    Calls Try.prog 22 #[.agg #[v], .int .i64 i] w fun e w' => e = .returned (.bool (hasS ss i)) ∧ Below w.heap.size w w' := by
  have hb0 : Below w.heap.size w (w.alloc (.cells #[v] 30)) := by go_grown
  have he := specProcOk ss v _ hl (reads3_below hv hb0)
  have H0 := heap_alloc_new w (.cells #[v] 30)
  have s0 : (w.alloc (.cells #[v] 30)).heap.size = w.heap.size + 1 := by simp
  unfold maxLen at hl
  unfold hasS
  cases hok : procOk ss
  · rw [hok] at he
    clear hv
    go_enter Try.func22, Try.ntmps22
    go_wp2_with (go_at_call 46; refine he.mono ?_; rintro e w2 ⟨rfl, b2⟩)
    go_ret
    exact ⟨rfl, hb0.trans (b2.mono hb0.size)⟩
  · rw [hok] at he
    clear hok
    have hin : ∀ W, Calls Try.prog 24 #[.int .i64 i, .int .i64 0, .int .i64 ((ss.length : Int) - 1)] W fun e w' => e = .returned (.bool (wiB i ss.length)) ∧ W = w' := by
      intro W
      have := l1In i 0 ((ss.length : Int) - 1) W
      rw [inB_wi, Int.sub_add_cancel] at this
      exact this
    go_enter Try.func22, Try.ntmps22
    go_wp2_with fail
    go_at_call 46
    refine he.mono ?_
    rintro e w2 ⟨rfl, b2⟩
    obtain ⟨c2, f2⟩ := one_cell ((b2.block w.heap.size (by omega)).trans H0)
    obtain ⟨ao, cap, rfl, hc⟩ := hv
    clear he
    go_wp2_with (go_at_call 24; refine (hin _).mono ?_; rintro e w3 ⟨rfl, rfl⟩)
    go_ret
    exact ⟨rfl, hb0.trans (b2.mono hb0.size)⟩


end Go.Proofs.Ytciccbbgamklbaa

/-
  slices.Contains over int64; spec.Before, impl.Before.
-/
namespace Go.Proofs.Ytciccbbgamklbaa
open Go.RowKit
set_option linter.unusedVariables false
set_option maxHeartbeats 1000000

def hasI (xs : List Int) (n : Int) : Bool := xs.any (fun x => decide (x = n))

theorem sliceIndex (xs : List Int) (n : Int) (v : Value) (w : World) (hl : xs.length ≤ maxLen) (hv : Reads w v (ints xs)) :
    Calls Try.prog 68 #[v, .int .i64 n] w fun e w' => ∃ r : Int, e = .returned (.int .i64 r) ∧ decide (0 ≤ r) = hasI xs n ∧ -1 ≤ r ∧ r ≤ 9223372036854775807 ∧ w = w' := by
  unfold maxLen at hl
  obtain ⟨ao, cap, rfl, hc⟩ := hv
  rw [ints_length]
  obtain ⟨B, hB⟩ : ∃ B, hasI xs n = B := ⟨_, rfl⟩
  rw [hB]
  have HB : Hid (hasI xs n = B) := hB
  clear hB
  go_enter Try.func68, Try.ntmps68
  go_wp2
  go_loopw [8] (fun i wr => ∃ k : Nat, k ≤ xs.length ∧ i = .int .i64 k ∧ w = wr ∧ hasI (xs.take k) n = false) (fun i _ => xs.length - (intOf i).toNat)
  case atStart => exact ⟨0, Nat.zero_le _, rfl, rfl, by simp [hasI]⟩
  case round =>
    obtain ⟨k, hk, rfl, rfl, hno⟩ := hrel
    have HNO : Hid _ := hno
    clear hno
    by_cases hlt : k < xs.length
    · have hlt' : (k : Int) < (xs.length : Int) := by omega
      obtain ⟨g, off, rfl, hg⟩ := hc k (.int .i64 xs[k]) (by simp [ints, hlt])
      have h1 : hasI (xs.take (k + 1)) n = decide (xs[k] = n) := by
        unfold hasI
        rw [List.take_succ_eq_append_getElem hlt, List.any_append]
        have := HNO.out
        unfold hasI at this
        rw [this]; simp
      have h2 : xs[k] = n → hasI xs n = true := fun h => List.any_eq_true.2 ⟨xs[k], List.getElem_mem hlt, by simp [h]⟩
      have H1 : Hid _ := h1
      have H2 : Hid _ := h2
      clear h1 h2 hc
      generalize xs[k] = x at *
      by_cases hx : x = n
      · have H4 : Hid (B = true) := HB.out.symm.trans (H2.out hx)
        have hx' : (n == x) = true := by simpa using hx.symm
        clear H1 H2 hx
        go_wp2
        go_ret
        exact ⟨k, rfl, by rw [H4.out]; simp, by omega, by omega, rfl⟩
      · have hx' : (n == x) = false := by simpa using fun h => hx h.symm
        have H3 : Hid (hasI (xs.take (k + 1)) n = false) := H1.out.trans (by simp [hx])
        clear H1 H2
        go_wp2
        go_roundw
        case rel => exact ⟨k + 1, by omega, by go_num, by trivial, H3.out⟩
        case measure => simp [intOf]; omega
    · have hkk : k = xs.length := by omega
      subst hkk
      go_wp2
      go_ret
      have h := HNO.out
      rw [List.take_length, HB.out] at h
      exact ⟨-1, rfl, by rw [h]; rfl, by omega, by omega, rfl⟩

theorem sliceContains (xs : List Int) (n : Int) (v : Value) (w : World) (hl : xs.length ≤ maxLen) (hv : Reads w v (ints xs)) :
    Calls Try.prog 44 #[v, .int .i64 n] w fun e w' => e = .returned (.bool (hasI xs n)) ∧ w = w' := by
  have hi := sliceIndex xs n v w hl hv
  go_enter Try.func44, Try.ntmps44
  go_wp2_with fail
  go_at_call 68
  refine hi.mono ?_
  rintro e w1 ⟨r, rfl, hr, _, _, rfl⟩
  have HR : Hid _ := hr
  clear hi hr
  go_wp2
  go_ret
  exact ⟨by rw [← HR.out]; simp, rfl⟩

/-- Of the first k statements, those behind which i may come. -/
def befN (ss : List Stm) (i : Int) : Nat → List Int
  | 0 => []
  | k + 1 => befN ss i k ++ (if hasI (nextsS (ss.getD k ⟨0, 0, 0⟩) k) i then [(k : Int)] else [])

theorem befN_lt (ss : List Stm) (i : Int) : ∀ (k : Nat) (x : Int), x ∈ befN ss i k → 0 ≤ x ∧ x < k
  | 0, x, h => by simp [befN] at h
  | k + 1, x, h => by
    unfold befN at h
    rw [List.mem_append] at h
    rcases h with h | h
    · have := befN_lt ss i k x h; omega
    · split at h
      · simp at h; omega
      · simp at h

theorem befN_length (ss : List Stm) (i : Int) : ∀ k : Nat, (befN ss i k).length ≤ k
  | 0 => by simp [befN]
  | k + 1 => by
    have := befN_length ss i k
    unfold befN
    rw [List.length_append]
    split
    · simp; omega
    · simp; omega

theorem ins_end (n : Int) : ∀ xs : List Int, (∀ x ∈ xs, x < n) → ins n xs = xs ++ [n]
  | [], _ => rfl
  | x :: xs, h => by
    rw [ins, if_pos (h x (by simp)), ins_end n xs (fun y hy => h y (by simp [hy]))]
    rfl

/-- What both answer. -/
def beforeAns (ss : List Stm) (i : Int) : List Int := if hasS ss i then befN ss i ss.length else []

theorem beforeAns_length (ss : List Stm) (i : Int) : (beforeAns ss i).length ≤ 12 := by
  unfold beforeAns
  cases h : hasS ss i
  · simp
  · rw [if_pos rfl]
    obtain ⟨hp, _⟩ := hasS_true h
    obtain ⟨_, h12, _⟩ := procOk_parts hp
    have := befN_length ss i ss.length
    omega

end Go.Proofs.Ytciccbbgamklbaa

/-
  spec.WayOk, impl.WayOk.
-/
namespace Go.Proofs.Ytciccbbgamklbaa
open Go.RowKit
set_option linter.unusedVariables false
set_option maxHeartbeats 1000000

/-- Is each of the first k + 1 numbers, but the first, a next one of the one ahead? -/
def stepsOk (ss : List Stm) (ys : List Int) : Nat → Bool
  | 0 => true
  | k + 1 => stepsOk ss ys k && hasI (nextsS (ss.getD (ys.getD k 0).toNat ⟨0, 0, 0⟩) (ys.getD k 0)) (ys.getD (k + 1) 0)

/-- What both answer. -/
def wayAns (ss : List Stm) (ys : List Int) : Bool :=
  procOk ss && decide (1 ≤ ys.length) && decide (ys.length ≤ 100) && (ys.getD 0 0 == 0) && stepsOk ss ys (ys.length - 1)

theorem stepsOk_mono {ss : List Stm} {ys : List Int} : ∀ {m k : Nat}, k ≤ m → stepsOk ss ys m = true → stepsOk ss ys k = true
  | 0, k, h, hm => by have : k = 0 := by omega
                      subst this; rfl
  | m + 1, k, h, hm => by
    rcases Nat.lt_or_ge k (m + 1) with h' | h'
    · refine stepsOk_mono (Nat.le_of_lt_succ h') ?_
      simp only [stepsOk, Bool.and_eq_true] at hm
      exact hm.1
    · have : k = m + 1 := by omega
      subst this; exact hm

/-- So far every number is a statement's. -/
theorem stepsOk_in {ss : List Stm} {ys : List Int} (hp : procOk ss = true) (h0 : ys.getD 0 0 = 0) : ∀ {k : Nat}, stepsOk ss ys k = true → ∃ j : Nat, ys.getD k 0 = (j : Int) ∧ j < ss.length
  | 0, _ => ⟨0, by simpa using h0, by have := (procOk_parts hp).1; omega⟩
  | k + 1, h => by
    simp only [stepsOk, Bool.and_eq_true] at h
    obtain ⟨h1, h2⟩ := h
    obtain ⟨j, hj, hlt⟩ := stepsOk_in hp h0 h1
    rw [hj] at h2
    have hg : ss.getD ((j : Int).toNat) ⟨0, 0, 0⟩ = ss[j] := by simp [List.getD, hlt]
    rw [hg] at h2
    obtain ⟨x, hx, he⟩ := List.any_eq_true.1 h2
    simp at he
    subst he
    exact nextsS_in hp hlt _ hx

theorem ints_get (ys : List Int) (j : Nat) (h : j < ys.length) : (ints ys)[j]? = some (.int .i64 (ys.getD j 0)) := by
  simp [ints, List.getD, h]

end Go.Proofs.Ytciccbbgamklbaa

/-
  Mathematics: what one comes to within a procedure, and how far it is (no dump is spoken of).
-/
namespace Go.Proofs.Ytciccbbgamklbaa
set_option linter.unusedVariables false

/-- What may come behind statement j. -/
def nx (ss : List Stm) (j : Nat) : List Int := nextsS (ss.getD j ⟨0, 0, 0⟩) j

/-- One comes to i by k steps from 0, never to wo. -/
def rk (ss : List Stm) (wo : Int) : Nat → Nat → Prop
  | 0, i => (i : Int) ≠ wo ∧ i = 0
  | k + 1, i => (i : Int) ≠ wo ∧ ∃ j : Nat, rk ss wo k j ∧ (i : Int) ∈ nx ss j

def Rch (ss : List Stm) (wo : Int) (i : Nat) : Prop := ∃ k, rk ss wo k i

theorem nx_eq {ss : List Stm} {j : Nat} (h : j < ss.length) : nx ss j = nextsS ss[j] j := by
  unfold nx; simp [List.getD, h]

theorem nx_in {ss : List Stm} (hp : procOk ss = true) {j : Nat} (h : j < ss.length) : ∀ x ∈ nx ss j, ∃ i : Nat, x = (i : Int) ∧ i < ss.length := by
  rw [nx_eq h]; exact nextsS_in hp h

theorem rk_in {ss : List Stm} (hp : procOk ss = true) {wo : Int} : ∀ {k i : Nat}, rk ss wo k i → i < ss.length
  | 0, i, h => by have := (procOk_parts hp).1; have := h.2; omega
  | k + 1, i, h => by
    obtain ⟨_, j, hj, hm⟩ := h
    obtain ⟨i', e, hlt⟩ := nx_in hp (rk_in hp hj) _ hm
    omega

theorem rk_ne {ss : List Stm} {wo : Int} : ∀ {k i : Nat}, rk ss wo k i → (i : Int) ≠ wo
  | 0, _, h => h.1
  | _ + 1, _, h => h.1

/-- The list of all that one comes to, rising. -/
def IsReached (ss : List Stm) (wo : Int) (A : List Int) : Prop := A.Pairwise (· < ·) ∧ ∀ x, x ∈ A ↔ ∃ i : Nat, x = (i : Int) ∧ Rch ss wo i

theorem sorted_ext : ∀ (a b : List Int), a.Pairwise (· < ·) → b.Pairwise (· < ·) → (∀ x, x ∈ a ↔ x ∈ b) → a = b
  | [], [], _, _, _ => rfl
  | [], y :: b, _, _, h => absurd ((h y).2 (by simp)) (by simp)
  | x :: a, [], _, _, h => absurd ((h x).1 (by simp)) (by simp)
  | x :: a, y :: b, ha, hb, h => by
    rw [List.pairwise_cons] at ha hb
    have h1 := (h x).1 (by simp)
    have h2 := (h y).2 (by simp)
    have hxy : x = y := by
      rcases List.mem_cons.1 h1 with e | e
      · exact e
      · rcases List.mem_cons.1 h2 with e' | e'
        · exact e'.symm
        · have := hb.1 x e; have := ha.1 y e'; omega
    subst hxy
    rw [sorted_ext a b ha.2 hb.2 (fun z => ?_)]
    have hz := h z
    simp only [List.mem_cons] at hz
    constructor
    · intro hm
      rcases hz.1 (.inr hm) with e | e
      · have := ha.1 z hm; omega
      · exact e
    · intro hm
      rcases hz.2 (.inr hm) with e | e
      · have := hb.1 z hm; omega
      · exact e

theorem isReached_unique {ss : List Stm} {wo : Int} {A B : List Int} (ha : IsReached ss wo A) (hb : IsReached ss wo B) : A = B :=
  sorted_ext A B ha.1 hb.1 (fun x => (ha.2 x).trans (hb.2 x).symm)

theorem isReached_some {ss : List Stm} (hp : procOk ss = true) (wo : Int) : ∃ A, IsReached ss wo A := by
  classical
  refine ⟨((List.range ss.length).filter (fun i => decide (Rch ss wo i))).map (fun i : Nat => (i : Int)), ?_, fun x => ?_⟩
  · rw [List.pairwise_map]
    exact (List.pairwise_lt_range.sublist List.filter_sublist).imp (fun h => by omega)
  · simp only [List.mem_map, List.mem_filter, List.mem_range, decide_eq_true_eq]
    constructor
    · rintro ⟨i, ⟨_, h⟩, rfl⟩; exact ⟨i, rfl, h⟩
    · rintro ⟨i, rfl, k, h⟩; exact ⟨i, ⟨rk_in hp h, k, h⟩, rfl⟩

theorem mem_ins (n : Int) : ∀ (xs : List Int) (x : Int), x ∈ ins n xs ↔ x = n ∨ x ∈ xs
  | [], x => by simp [ins]
  | y :: xs, x => by
    unfold ins
    split
    · simp only [List.mem_cons, mem_ins n xs x]
      constructor
      · rintro (h | h | h) <;> simp [h]
      · rintro (h | h | h) <;> simp [h]
    · split
      · rename_i h; subst h; simp
      · simp

theorem ins_sorted (n : Int) : ∀ xs : List Int, xs.Pairwise (· < ·) → (ins n xs).Pairwise (· < ·)
  | [], _ => by simp [ins]
  | y :: xs, h => by
    rw [List.pairwise_cons] at h
    unfold ins
    split
    · rename_i hy
      rw [List.pairwise_cons]
      refine ⟨fun z hz => ?_, ins_sorted n xs h.2⟩
      rcases (mem_ins n xs z).1 hz with rfl | hz
      · exact hy
      · exact h.1 z hz
    · split
      · rw [List.pairwise_cons]; exact h
      · rw [List.pairwise_cons, List.pairwise_cons]
        refine ⟨fun z hz => ?_, h⟩
        rcases List.mem_cons.1 hz with rfl | hz
        · omega
        · have := h.1 z hz; omega

theorem ins_len_new (n : Int) : ∀ xs : List Int, n ∉ xs → (ins n xs).length = xs.length + 1
  | [], _ => by simp [ins]
  | y :: xs, h => by
    simp only [List.mem_cons, not_or] at h
    unfold ins
    split
    · simp [ins_len_new n xs h.2]
    · split
      · omega
      · simp

theorem sorted_length : ∀ (a : List Int) (lo : Int) (n : Nat), a.Pairwise (· < ·) → (∀ x ∈ a, lo ≤ x ∧ x < lo + n) → a.length ≤ n
  | [], _, _, _, _ => by simp
  | x :: a, lo, n, h, hb => by
    rw [List.pairwise_cons] at h
    have hx := hb x (by simp)
    have hn : ((n - 1 - (x - lo).toNat : Nat) : Int) = n - 1 - (x - lo) := by omega
    have := sorted_length a (x + 1) (n - 1 - (x - lo).toNat) h.2 (fun y hy => by have := h.1 y hy; have := hb y (by simp [hy]); omega)
    simp only [List.length_cons]
    omega

/-- The state of a search that works its list off. -/
structure RInv (ss : List Stm) (wo : Int) (out todo : List Int) : Prop where
  sorted : out.Pairwise (· < ·)
  outR : ∀ x ∈ out, ∃ i : Nat, x = (i : Int) ∧ Rch ss wo i
  todoR : ∀ x ∈ todo, ∃ i : Nat, x = (i : Int) ∧ i < ss.length ∧ ((i : Int) ≠ wo → Rch ss wo i)
  zero : (0 : Int) ∈ out ∨ (0 : Int) ∈ todo ∨ (0 : Int) = wo
  closed : ∀ i : Nat, (i : Int) ∈ out → ∀ y ∈ nx ss i, y ∈ out ∨ y ∈ todo ∨ y = wo
  len : todo.length ≤ 1 + 2 * out.length

theorem RInv.start {ss : List Stm} (hp : procOk ss = true) (wo : Int) : RInv ss wo [] [0] where
  sorted := by simp
  outR := by simp
  todoR := fun x hx => by simp at hx; subst hx; exact ⟨0, rfl, by have := (procOk_parts hp).1; omega, fun h => ⟨0, h, rfl⟩⟩
  zero := by simp
  closed := by simp
  len := by simp

theorem RInv.outLen {ss : List Stm} {wo : Int} {out todo : List Int} (hp : procOk ss = true) (h : RInv ss wo out todo) : out.length ≤ 12 := by
  have h12 := (procOk_parts hp).2.1
  refine Nat.le_trans (sorted_length out 0 ss.length h.sorted (fun x hx => ?_)) h12
  obtain ⟨i, rfl, k, hk⟩ := h.outR x hx
  have := rk_in hp hk
  omega

theorem RInv.skip {ss : List Stm} {wo : Int} {out todo : List Int} {x : Int} (h : RInv ss wo out (x :: todo)) (hx : x = wo ∨ x ∈ out) : RInv ss wo out todo where
  sorted := h.sorted
  outR := h.outR
  todoR := fun y hy => h.todoR y (by simp [hy])
  zero := by
    rcases h.zero with h0 | h0 | h0
    · exact .inl h0
    · rcases List.mem_cons.1 h0 with e | e
      · rcases hx with hx | hx
        · exact .inr (.inr (e.trans hx))
        · exact .inl (e ▸ hx)
      · exact .inr (.inl e)
    · exact .inr (.inr h0)
  closed := fun i hi y hy => by
    rcases h.closed i hi y hy with h0 | h0 | h0
    · exact .inl h0
    · rcases List.mem_cons.1 h0 with e | e
      · rcases hx with hx | hx
        · exact .inr (.inr (e.trans hx))
        · exact .inl (e ▸ hx)
      · exact .inr (.inl e)
    · exact .inr (.inr h0)
  len := by have := h.len; simp at this; omega

theorem RInv.step {ss : List Stm} {wo : Int} {out todo : List Int} {i : Nat} (hp : procOk ss = true) (h : RInv ss wo out ((i : Int) :: todo)) (h1 : (i : Int) ≠ wo) (h2 : (i : Int) ∉ out) : RInv ss wo (ins i out) (todo ++ nx ss i) := by
  obtain ⟨i', e, hlt, hR⟩ := h.todoR i (by simp)
  obtain rfl : i = i' := by omega
  have hi := hR h1
  refine ⟨ins_sorted _ _ h.sorted, fun x hx => ?_, fun x hx => ?_, ?_, fun j hj y hy => ?_, ?_⟩
  · rcases (mem_ins _ _ _).1 hx with rfl | hx
    · exact ⟨i, rfl, hi⟩
    · exact h.outR x hx
  · rcases List.mem_append.1 hx with hx | hx
    · exact h.todoR x (by simp [hx])
    · obtain ⟨j, rfl, hj⟩ := nx_in hp hlt x hx
      obtain ⟨k, hk⟩ := hi
      exact ⟨j, rfl, hj, fun hne => ⟨k + 1, hne, i, hk, hx⟩⟩
  · rcases h.zero with h0 | h0 | h0
    · exact .inl ((mem_ins _ _ _).2 (.inr h0))
    · rcases List.mem_cons.1 h0 with e | e
      · exact .inl ((mem_ins _ _ _).2 (.inl e))
      · exact .inr (.inl (by simp [e]))
    · exact .inr (.inr h0)
  · rcases (mem_ins _ _ _).1 hj with e | hj
    · obtain rfl : j = i := by omega
      exact .inr (.inl (by simp [hy]))
    · rcases h.closed j hj y hy with h0 | h0 | h0
      · exact .inl ((mem_ins _ _ _).2 (.inr h0))
      · rcases List.mem_cons.1 h0 with e | e
        · exact .inl ((mem_ins _ _ _).2 (.inl e))
        · exact .inr (.inl (by simp [e]))
      · exact .inr (.inr h0)
  · have := h.len
    have h3 : (nx ss i).length ≤ 2 := nextsS_length _ _
    rw [ins_len_new _ _ h2, List.length_append]
    simp at this
    omega

theorem RInv.done {ss : List Stm} {wo : Int} {out : List Int} (h : RInv ss wo out []) : IsReached ss wo out := by
  refine ⟨h.sorted, fun x => ⟨h.outR x, ?_⟩⟩
  rintro ⟨i, rfl, k, hk⟩
  have key : ∀ (k i : Nat), rk ss wo k i → (i : Int) ∈ out := by
    intro k
    induction k with
    | zero =>
      intro i hk
      obtain ⟨h1, rfl⟩ := hk
      rcases h.zero with h0 | h0 | h0
      · exact h0
      · simp at h0
      · exact absurd h0 h1
    | succ k ih =>
      intro i hk
      obtain ⟨h1, j, hj, hm⟩ := hk
      rcases h.closed j (ih j hj) _ hm with h0 | h0 | h0
      · exact h0
      · simp at h0
      · exact absurd h0 h1
  exact key k i hk

end Go.Proofs.Ytciccbbgamklbaa

/-
  Mathematics of chapter 8: what holds along ways, what covers (no dump is spoken of).
-/
namespace Go.Proofs.Ytciccbbgamklbaa
set_option linter.unusedVariables false

/-- What statement i does, of client c. -/
def flw (c : Int) (ss : List Stm) (i : Nat) : List Int := flowL c (ss.getD i ⟨0, 0, 0⟩).k (ss.getD i ⟨0, 0, 0⟩).x (ss.getD i ⟨0, 0, 0⟩).y

theorem flw_eq {c : Int} {ss : List Stm} {i : Nat} (h : i < ss.length) : flw c ss i = flowL c ss[i].k ss[i].x ss[i].y := by
  unfold flw; simp [List.getD, h]

theorem stm_ok {ss : List Stm} (hp : procOk ss = true) {i : Nat} (h : i < ss.length) : stmtOk ss[i].k ss[i].x ss[i].y = true := by
  have := ((procOk_parts hp).2.2 i h).1
  simp only [stmOk, Bool.and_eq_true] at this
  exact this.1

theorem flw_smalls {c : Int} {ss : List Stm} (hp : procOk ss = true) {i : Nat} (h : i < ss.length) : Smalls (flw c ss i) := by
  rw [flw_eq h]; exact flowL_smalls (stm_ok hp h)

/-- What s becomes behind k statements of the way. -/
def alongK (c : Int) (ss : List Stm) (ys : List Int) (s : Int) : Nat → Int
  | 0 => s
  | k + 1 => img (flw c ss (ys.getD k 0).toNat) (alongK c ss ys s k)

def isCl (c : Int) : Bool := decide (c = 1 ∨ c = 2)

def alongAns (ss : List Stm) (c : Int) (ys : List Int) (s : Int) : Int :=
  if wayAns ss ys && isCl c && inB s 0 127 then alongK c ss ys s (ys.length - 1) else -1

theorem wayAns_parts {ss : List Stm} {ys : List Int} (h : wayAns ss ys = true) : procOk ss = true ∧ 1 ≤ ys.length ∧ ys.length ≤ 100 ∧ ys.getD 0 0 = 0 ∧ stepsOk ss ys (ys.length - 1) = true := by
  simp only [wayAns, Bool.and_eq_true, decide_eq_true_eq, beq_iff_eq] at h
  obtain ⟨⟨⟨⟨a, b⟩, c⟩, d⟩, e⟩ := h
  exact ⟨a, b, c, d, e⟩

theorem way_in {ss : List Stm} {ys : List Int} (h : wayAns ss ys = true) {k : Nat} (hk : k < ys.length) : ∃ j : Nat, ys.getD k 0 = (j : Int) ∧ j < ss.length := by
  obtain ⟨hp, h1, h2, h3, h4⟩ := wayAns_parts h
  exact stepsOk_in hp h3 (stepsOk_mono (by omega) h4)

theorem alongK_small {c : Int} {ss : List Stm} {ys : List Int} {s : Int} (h : wayAns ss ys = true) (hs : Small s) : ∀ {k : Nat}, k ≤ ys.length → Small (alongK c ss ys s k)
  | 0, _ => hs
  | k + 1, hk => by
    obtain ⟨j, hj, hlt⟩ := way_in h (k := k) (by omega)
    rw [alongK, hj, Int.toNat_natCast]
    exact img_small (flw_smalls (wayAns_parts h).1 hlt) _

theorem cut_all : ∀ a, a < 128 → ∀ b, b < 128 → decide (bits .andNot .i64 ((a : Nat) : Int) ((b : Nat) : Int) = 0) = decide (bits .or .i64 (b : Int) (a : Int) = (b : Int)) := by decide +kernel

/-- Has a all of b? -/
def hasA (a b : Int) : Bool := decide (lor a b = a)

theorem cut_has {a b : Int} (ha : Small a) (hb : Small b) : decide (bits .andNot .i64 b a = 0) = hasA a b := by
  obtain ⟨m, rfl, hm⟩ := small_nat ha
  obtain ⟨n, rfl, hn⟩ := small_nat hb
  exact cut_all n hn m hm

theorem hasA_iff {a b : Int} (ha : Small a) (hb : Small b) : hasA a b = true ↔ ∀ t, t < 7 → bit b t = true → bit a t = true := by
  unfold hasA
  rw [decide_eq_true_eq]
  constructor
  · intro h t ht hbt
    rw [← h, bit_lor ha hb, hbt, Bool.or_true]
  · intro h
    refine bit_ext (lor_small ha hb) ha (fun t ht => ?_)
    rw [bit_lor ha hb]
    cases hbt : bit b t
    · simp
    · rw [h t ht hbt]; rfl

/-- Have the nexts of statement i all that it makes of its set? -/
def covI (c : Int) (ss : List Stm) (xs : List Int) (i : Nat) : Bool := (nx ss i).all (fun x => hasA (xs.getD x.toNat 0) (img (flw c ss i) (xs.getD i 0)))

def covK (c : Int) (ss : List Stm) (xs : List Int) : Nat → Bool
  | 0 => true
  | k + 1 => covK c ss xs k && covI c ss xs k

def coversAns (ss : List Stm) (c s : Int) (xs : List Int) : Bool :=
  procOk ss && isCl c && inB s 0 127 && decide (xs.length = ss.length) && xs.all (fun x => inB x 0 127) && hasA (xs.getD 0 0) s && covK c ss xs ss.length

theorem covK_mono {c : Int} {ss : List Stm} {xs : List Int} : ∀ {m k : Nat}, k ≤ m → covK c ss xs m = true → covK c ss xs k = true
  | 0, k, h, hm => by obtain rfl : k = 0 := by omega
                      rfl
  | m + 1, k, h, hm => by
    rcases Nat.lt_or_ge k (m + 1) with h' | h'
    · simp only [covK, Bool.and_eq_true] at hm
      exact covK_mono (Nat.le_of_lt_succ h') hm.1
    · obtain rfl : k = m + 1 := by omega
      exact hm

theorem covK_iff {c : Int} {ss : List Stm} {xs : List Int} : ∀ {m : Nat}, covK c ss xs m = true ↔ ∀ i, i < m → covI c ss xs i = true
  | 0 => by simp [covK]
  | m + 1 => by
    rw [covK, Bool.and_eq_true, covK_iff]
    constructor
    · rintro ⟨a, b⟩ i hi
      rcases Nat.lt_or_ge i m with h | h
      · exact a i h
      · obtain rfl : i = m := by omega
        exact b
    · exact fun h => ⟨fun i hi => h i (by omega), h m (by omega)⟩

theorem smallAll {xs : List Int} (h : xs.all (fun x => inB x 0 127) = true) (k : Nat) : Small (xs.getD k 0) := by
  rcases Nat.lt_or_ge k xs.length with hk | hk
  · have := List.all_eq_true.1 h xs[k] (List.getElem_mem hk)
    simp [List.getD, hk]
    exact small_in.1 this
  · simp only [List.getD, List.getElem?_eq_none hk, Option.getD_none]
    exact ⟨by decide, by decide⟩

end Go.Proofs.Ytciccbbgamklbaa

/-
  Mathematics: all ways, level by level.
-/
namespace Go.Proofs.Ytciccbbgamklbaa
set_option linter.unusedVariables false

def lastI (way : List Int) : Int := way.getD (way.length - 1) 0

theorem lastI_snoc (way : List Int) (y : Int) : lastI (way ++ [y]) = y := by simp [lastI, List.getD]

def grow1 (ss : List Stm) (way : List Int) : List (List Int) := (nx ss (lastI way).toNat).map (fun y => way ++ [y])

def levs (ss : List Stm) : Nat → List (List Int)
  | 0 => [[0]]
  | k + 1 => (levs ss k).flatMap (grow1 ss)

def waysTo (ss : List Stm) (i : Int) : Nat → List (List Int)
  | 0 => []
  | k + 1 => waysTo ss i k ++ (levs ss k).filter (fun way => decide (lastI way = i))

theorem levs_mem {ss : List Stm} (hp : procOk ss = true) : ∀ (k : Nat) (way : List Int), way ∈ levs ss k → way.length = k + 1 ∧ ∃ j : Nat, lastI way = (j : Int) ∧ j < ss.length
  | 0, way, h => by
    simp [levs] at h
    subst h
    exact ⟨rfl, 0, rfl, (procOk_parts hp).1⟩
  | k + 1, way, h => by
    simp only [levs, List.mem_flatMap, grow1, List.mem_map] at h
    obtain ⟨w0, h0, y, hy, rfl⟩ := h
    obtain ⟨hl, j, hj, hlt⟩ := levs_mem hp k w0 h0
    rw [hj, Int.toNat_natCast] at hy
    refine ⟨by simp [hl], ?_⟩
    rw [lastI_snoc]
    exact nx_in hp hlt y hy

theorem grow1_len (ss : List Stm) (way : List Int) : (grow1 ss way).length ≤ 2 := by
  simp only [grow1, List.length_map]
  exact nextsS_length _ _

theorem flat_len (ss : List Stm) : ∀ l : List (List Int), (l.flatMap (grow1 ss)).length ≤ 2 * l.length
  | [] => by simp
  | x :: l => by
    have := flat_len ss l
    have := grow1_len ss x
    simp only [List.flatMap_cons, List.length_append, List.length_cons]
    omega

theorem levs_len (ss : List Stm) : ∀ k : Nat, (levs ss k).length ≤ 2 ^ k
  | 0 => by simp [levs]
  | k + 1 => by
    have h1 := levs_len ss k
    have h2 := flat_len ss (levs ss k)
    show ((levs ss k).flatMap (grow1 ss)).length ≤ 2 ^ (k + 1)
    rw [Nat.pow_succ]
    omega

theorem levs_small (ss : List Stm) (k : Nat) (h : k ≤ 9) : (levs ss k).length ≤ 512 := by
  refine Nat.le_trans (levs_len ss k) ?_
  exact Nat.le_trans (Nat.pow_le_pow_right (by omega) h) (by decide)

theorem waysTo_small (ss : List Stm) (i : Int) : ∀ k : Nat, k ≤ 9 → (waysTo ss i k).length ≤ 512 * k
  | 0, _ => by simp [waysTo]
  | k + 1, h => by
    have h1 := waysTo_small ss i k (by omega)
    have h2 := levs_small ss k (by omega)
    have h3 := List.length_filter_le (fun way => decide (lastI way = i)) (levs ss k)
    simp only [waysTo, List.length_append]
    omega

end Go.Proofs.Ytciccbbgamklbaa

/-
  Mathematics: ways by their length, then number by number; lists that are heaps (no dump is spoken of).
-/
namespace Go.Proofs.Ytciccbbgamklbaa
set_option linter.unusedVariables false

/-- The lesser by the first number in which they are unlike. -/
def lexB : List Int → List Int → Bool
  | [], [] => false
  | [], _ :: _ => true
  | _ :: _, [] => false
  | x :: a, y :: b => decide (x < y) || (decide (x = y) && lexB a b)

theorem lexB_irrefl : ∀ a, lexB a a = false
  | [] => rfl
  | x :: a => by simp [lexB, lexB_irrefl a]

theorem lexB_trans : ∀ a b c, lexB a b = true → lexB b c = true → lexB a c = true
  | [], [], c, h, _ => by simp [lexB] at h
  | [], y :: b, [], _, h => by simp [lexB] at h
  | [], y :: b, z :: c, _, _ => rfl
  | x :: a, [], c, h, _ => by simp [lexB] at h
  | x :: a, y :: b, [], _, h => by simp [lexB] at h
  | x :: a, y :: b, z :: c, h, k => by
    simp only [lexB, Bool.or_eq_true, Bool.and_eq_true, decide_eq_true_eq] at h k ⊢
    rcases h with h | ⟨h, h'⟩ <;> rcases k with k | ⟨k, k'⟩
    · exact .inl (by omega)
    · exact .inl (by omega)
    · exact .inl (by omega)
    · exact .inr ⟨by omega, lexB_trans a b c h' k'⟩

theorem lexB_total : ∀ a b, lexB a b = false → lexB b a = false → a = b
  | [], [], _, _ => rfl
  | [], y :: b, h, _ => by simp [lexB] at h
  | x :: a, [], _, h => by simp [lexB] at h
  | x :: a, y :: b, h, k => by
    simp only [lexB, Bool.or_eq_false_iff, Bool.and_eq_false_iff, decide_eq_false_iff_not] at h k
    have e : x = y := by omega
    subst e
    rw [lexB_total a b (by rcases h.2 with h | h; · exact absurd rfl h
                           · exact h) (by rcases k.2 with h | h; · exact absurd rfl h
                                          · exact h)]

theorem lexB_snoc : ∀ a b (x y : Int), a.length = b.length → lexB a b = true → lexB (a ++ [x]) (b ++ [y]) = true
  | [], [], x, y, _, h => by simp [lexB] at h
  | [], z :: b, x, y, h, _ => by simp at h
  | z :: a, [], x, y, h, _ => by simp at h
  | z :: a, t :: b, x, y, hl, h => by
    simp only [List.cons_append, lexB, Bool.or_eq_true, Bool.and_eq_true, decide_eq_true_eq] at h ⊢
    rcases h with h | ⟨h, h'⟩
    · exact .inl h
    · exact .inr ⟨h, lexB_snoc a b x y (by simpa using hl) h'⟩

theorem lexB_drop : ∀ (k : Nat) (a b : List Int), k < a.length → k < b.length → (∀ j, j < k → a.getD j 0 = b.getD j 0) → lexB a b = lexB (a.drop k) (b.drop k)
  | 0, a, b, _, _, _ => rfl
  | k + 1, [], b, h, _, _ => by simp at h
  | k + 1, x :: a, [], _, h, _ => by simp at h
  | k + 1, x :: a, y :: b, h, h', he => by
    have e : x = y := by simpa using he 0 (by omega)
    subst e
    have := lexB_drop k a b (by simpa using h) (by simpa using h') (fun j hj => by simpa using he (j + 1) (by omega))
    simp [lexB, this]

/-- The shorter, of alike long ones the lesser. -/
def wlt (a b : List Int) : Bool := decide (a.length < b.length) || (decide (a.length = b.length) && lexB a b)

theorem wlt_iff {a b : List Int} : wlt a b = true ↔ a.length < b.length ∨ (a.length = b.length ∧ lexB a b = true) := by
  simp [wlt]

def wle (a b : List Int) : Prop := wlt b a = false

theorem wlt_irrefl (a : List Int) : wlt a a = false := by simp [wlt, lexB_irrefl]

theorem wlt_trans {a b c : List Int} (h : wlt a b = true) (k : wlt b c = true) : wlt a c = true := by
  rw [wlt_iff] at *
  rcases h with h | ⟨h, h'⟩ <;> rcases k with k | ⟨k, k'⟩
  · exact .inl (by omega)
  · exact .inl (by omega)
  · exact .inl (by omega)
  · exact .inr ⟨by omega, lexB_trans a b c h' k'⟩

theorem wlt_total {a b : List Int} (h : wlt a b = false) (k : wlt b a = false) : a = b := by
  simp only [wlt, Bool.or_eq_false_iff, Bool.and_eq_false_iff, decide_eq_false_iff_not] at h k
  have e : a.length = b.length := by omega
  exact lexB_total a b (by rcases h.2 with h | h; · exact absurd e h
                           · exact h) (by rcases k.2 with h | h; · exact absurd e.symm h
                                          · exact h)

theorem wlt_asymm {a b : List Int} (h : wlt a b = true) : wlt b a = false := by
  cases k : wlt b a with
  | false => rfl
  | true => have := wlt_trans h k; rw [wlt_irrefl] at this; cases this

theorem wle_refl (a : List Int) : wle a a := wlt_irrefl a

theorem wle_of_lt {a b : List Int} (h : wlt a b = true) : wle a b := wlt_asymm h

theorem wle_iff {a b : List Int} : wle a b ↔ wlt a b = true ∨ a = b := by
  unfold wle
  constructor
  · intro h
    cases k : wlt a b with
    | true => exact .inl rfl
    | false => exact .inr (wlt_total k h)
  · rintro (h | rfl)
    · exact wlt_asymm h
    · exact wlt_irrefl _

theorem wle_trans {a b c : List Int} (h : wle a b) (k : wle b c) : wle a c := by
  rw [wle_iff] at *
  rcases h with h | rfl
  · rcases k with k | rfl
    · exact .inl (wlt_trans h k)
    · exact .inl h
  · exact k

theorem wlt_of_le_lt {a b c : List Int} (h : wle a b) (k : wlt b c = true) : wlt a c = true := by
  rcases wle_iff.1 h with h | rfl
  · exact wlt_trans h k
  · exact k

theorem wlt_of_lt_le {a b c : List Int} (h : wlt a b = true) (k : wle b c) : wlt a c = true := by
  rcases wle_iff.1 k with k | rfl
  · exact wlt_trans h k
  · exact h

theorem wle_antisymm {a b : List Int} (h : wle a b) (k : wle b a) : a = b := wlt_total k h

theorem wle_snoc {a b : List Int} (x : Int) (h : wle a b) : wle (a ++ [x]) (b ++ [x]) := by
  rcases wle_iff.1 h with h | rfl
  · refine wle_of_lt (wlt_iff.2 ?_)
    rcases wlt_iff.1 h with h | ⟨h, h'⟩
    · exact .inl (by simpa using h)
    · exact .inr ⟨by simpa using h, lexB_snoc a b x x h h'⟩
  · exact wle_refl _

theorem wlt_snoc (a : List Int) (x : Int) : wlt a (a ++ [x]) = true := wlt_iff.2 (.inl (by simp))

/-- A visit: its way as a value, the way, the set. -/
structure Vis where
  u : Value
  way : List Int
  set : Int

def vis0 : Vis := ⟨undef, [], 0⟩

def wy (L : List Vis) (k : Nat) : List Int := (L.getD k vis0).way

/-- The first n are a heap. -/
def IsH (L : List Vis) (n : Nat) : Prop := ∀ k, 0 < k → k < n → wle (wy L ((k - 1) / 2)) (wy L k)

/-- But for number j, which may be too small. -/
def UpH (L : List Vis) (j : Nat) : Prop :=
  (∀ k, 0 < k → k < L.length → k ≠ j → wle (wy L ((k - 1) / 2)) (wy L k)) ∧ (∀ k, 0 < k → k < L.length → (k - 1) / 2 = j → 0 < j → wle (wy L ((j - 1) / 2)) (wy L k))

/-- But for number i, which may be too great. -/
def DnH (L : List Vis) (n i : Nat) : Prop :=
  (∀ k, 0 < k → k < n → (k - 1) / 2 ≠ i → wle (wy L ((k - 1) / 2)) (wy L k)) ∧ (∀ k, 0 < k → k < n → (k - 1) / 2 = i → 0 < i → wle (wy L ((i - 1) / 2)) (wy L k))

def swp (L : List Vis) (i j : Nat) : List Vis := (L.set i (L.getD j vis0)).set j (L.getD i vis0)

theorem swp_length (L : List Vis) (i j : Nat) : (swp L i j).length = L.length := by simp [swp]

theorem swp_get (L : List Vis) {i j : Nat} (hi : i < L.length) (hj : j < L.length) (k : Nat) : (swp L i j).getD k vis0 = if k = j then L.getD i vis0 else if k = i then L.getD j vis0 else L.getD k vis0 := by
  unfold swp
  simp only [List.getD, List.getElem?_set, List.length_set]
  by_cases h1 : j = k
  · subst h1; simp [hj]
  · by_cases h2 : i = k
    · subst h2
      rw [if_neg h1, if_pos rfl, if_pos hi, if_neg (fun e : i = j => h1 e.symm), if_pos rfl]
      rfl
    · rw [if_neg h1, if_neg h2, if_neg (fun e => h1 e.symm), if_neg (fun e => h2 e.symm)]

theorem swp_wy (L : List Vis) {i j : Nat} (hi : i < L.length) (hj : j < L.length) (k : Nat) : wy (swp L i j) k = if k = j then wy L i else if k = i then wy L j else wy L k := by
  unfold wy
  rw [swp_get L hi hj]
  split
  · rfl
  · split <;> rfl

theorem mem_getD {L : List Vis} {x : Vis} : x ∈ L ↔ ∃ k, k < L.length ∧ L.getD k vis0 = x := by
  constructor
  · intro h
    obtain ⟨k, hk, e⟩ := List.mem_iff_getElem.1 h
    exact ⟨k, hk, by simp [List.getD, hk, e]⟩
  · rintro ⟨k, hk, e⟩
    rw [← e]
    simp only [List.getD, List.getElem?_eq_getElem hk, Option.getD_some]
    exact List.getElem_mem hk

theorem swp_mem {L : List Vis} {i j : Nat} (hi : i < L.length) (hj : j < L.length) (x : Vis) : x ∈ swp L i j ↔ x ∈ L := by
  rw [mem_getD, mem_getD, swp_length]
  constructor
  · rintro ⟨k, hk, e⟩
    rw [swp_get L hi hj] at e
    by_cases h1 : k = j
    · rw [if_pos h1] at e; exact ⟨i, hi, e⟩
    · rw [if_neg h1] at e
      by_cases h2 : k = i
      · rw [if_pos h2] at e; exact ⟨j, hj, e⟩
      · rw [if_neg h2] at e; exact ⟨k, hk, e⟩
  · rintro ⟨k, hk, e⟩
    by_cases h1 : k = j
    · subst h1
      by_cases h2 : i = k
      · subst h2; exact ⟨i, hi, by rw [swp_get L hi hj, if_pos rfl]; exact e⟩
      · exact ⟨i, hi, by rw [swp_get L hi hj, if_neg h2, if_pos rfl]; exact e⟩
    · by_cases h2 : k = i
      · subst h2; exact ⟨j, hj, by rw [swp_get L hi hj, if_pos rfl]; exact e⟩
      · exact ⟨k, hk, by rw [swp_get L hi hj, if_neg h1, if_neg h2]; exact e⟩

theorem up_done {L : List Vis} {j : Nat} (h : UpH L j) (hj : j = 0 ∨ wle (wy L ((j - 1) / 2)) (wy L j)) : IsH L L.length := by
  intro k hk hkl
  by_cases e : k = j
  · subst e
    rcases hj with h0 | h0
    · omega
    · exact h0
  · exact h.1 k hk hkl e

theorem up_step {L : List Vis} {j : Nat} (h : UpH L j) (hj0 : 0 < j) (hj : j < L.length) (hlt : wlt (wy L j) (wy L ((j - 1) / 2)) = true) : UpH (swp L ((j - 1) / 2) j) ((j - 1) / 2) := by
  obtain ⟨p, hp⟩ : ∃ p, (j - 1) / 2 = p := ⟨_, rfl⟩
  rw [hp] at hlt ⊢
  have hpl : p < L.length := by omega
  have hpj : p < j := by omega
  refine ⟨fun k hk hkl hne => ?_, fun k hk hkl hkp hp0 => ?_⟩
  · rw [swp_length] at hkl
    rw [swp_wy L hpl hj, swp_wy L hpl hj]
    by_cases e : k = j
    · subst e
      rw [if_pos rfl, hp, if_neg (by omega), if_pos rfl]
      exact wle_of_lt hlt
    · rw [if_neg e, if_neg hne]
      by_cases e1 : (k - 1) / 2 = j
      · rw [if_pos e1]
        have := h.2 k hk hkl e1 hj0
        rwa [hp] at this
      · rw [if_neg e1]
        by_cases e2 : (k - 1) / 2 = p
        · rw [if_pos e2]
          refine wle_trans (wle_of_lt hlt) ?_
          have := h.1 k hk hkl e
          rwa [e2] at this
        · rw [if_neg e2]
          exact h.1 k hk hkl e
  · rw [swp_length] at hkl
    rw [swp_wy L hpl hj, swp_wy L hpl hj]
    have hq : (p - 1) / 2 < p := by omega
    rw [if_neg (show ¬ (p - 1) / 2 = j by omega), if_neg (show ¬ (p - 1) / 2 = p by omega)]
    have hqp := h.1 p hp0 hpl (by omega)
    by_cases e : k = j
    · rw [if_pos e]; exact hqp
    · rw [if_neg e, if_neg (show ¬ k = p by omega)]
      refine wle_trans hqp ?_
      have := h.1 k hk hkl e
      rwa [hkp] at this

theorem dn_done {L : List Vis} {n i : Nat} (h : DnH L n i) (hc : ∀ k, 0 < k → k < n → (k - 1) / 2 = i → wle (wy L i) (wy L k)) : IsH L n := by
  intro k hk hkn
  by_cases e : (k - 1) / 2 = i
  · rw [e]; exact hc k hk hkn e
  · exact h.1 k hk hkn e

theorem dn_step {L : List Vis} {n i c : Nat} (h : DnH L n i) (hn : n ≤ L.length) (hc0 : 0 < c) (hcn : c < n) (hci : (c - 1) / 2 = i) (hlt : wlt (wy L c) (wy L i) = true) (hmin : ∀ k, 0 < k → k < n → (k - 1) / 2 = i → wle (wy L c) (wy L k)) : DnH (swp L i c) n c := by
  have hil : i < L.length := by omega
  have hcl : c < L.length := by omega
  have hic : i < c := by omega
  refine ⟨fun k hk hkn hne => ?_, fun k hk hkn hkc _ => ?_⟩
  · rw [swp_wy L hil hcl, swp_wy L hil hcl, if_neg hne]
    by_cases e1 : (k - 1) / 2 = i
    · rw [if_pos e1]
      by_cases e2 : k = c
      · rw [if_pos e2]; exact wle_of_lt hlt
      · rw [if_neg e2, if_neg (show ¬ k = i by omega)]
        exact hmin k hk hkn e1
    · rw [if_neg e1]
      by_cases e2 : k = c
      · subst e2; exact absurd hci e1
      · rw [if_neg e2]
        by_cases e3 : k = i
        · subst e3
          rw [if_pos rfl]
          exact h.2 c hc0 hcn hci hk
        · rw [if_neg e3]
          exact h.1 k hk hkn e1
  · rw [swp_wy L hil hcl, swp_wy L hil hcl]
    rw [hci, if_neg (show ¬ i = c by omega), if_pos rfl, if_neg (show ¬ k = c by omega), if_neg (show ¬ k = i by omega)]
    have := h.1 k hk hkn (by omega)
    rwa [hkc] at this

theorem root_min {L : List Vis} {n : Nat} (h : IsH L n) : ∀ k, k < n → wle (wy L 0) (wy L k) := by
  intro k
  induction k using Nat.strongRecOn with
  | ind k ih =>
    intro hk
    rcases Nat.eq_zero_or_pos k with h0 | h0
    · subst h0; exact wle_refl _
    · exact wle_trans (ih ((k - 1) / 2) (by omega) (by omega)) (h k h0 hk)

theorem pop_start {L : List Vis} {n : Nat} (h : IsH L (n + 1)) (hl : L.length = n + 1) : DnH (swp L 0 n) n 0 := by
  refine ⟨fun k hk hkn hne => ?_, fun k hk hkn hki h0 => by omega⟩
  rw [swp_wy L (by omega) (by omega), swp_wy L (by omega) (by omega), if_neg (show ¬ (k - 1) / 2 = n by omega), if_neg hne, if_neg (show ¬ k = n by omega), if_neg (show ¬ k = 0 by omega)]
  exact h k hk (by omega)

theorem push_start {L : List Vis} (h : IsH L L.length) (x : Vis) : UpH (L ++ [x]) L.length := by
  have e : ∀ k, k < L.length → wy (L ++ [x]) k = wy L k := fun k hk => by simp [wy, List.getD, List.getElem?_append_left hk]
  refine ⟨fun k hk hkl hne => ?_, fun k hk hkl hki h0 => ?_⟩
  · simp only [List.length_append, List.length_cons, List.length_nil] at hkl
    rw [e _ (by omega), e _ (by omega)]
    exact h k hk (by omega)
  · simp only [List.length_append, List.length_cons, List.length_nil] at hkl
    omega

theorem isH_take {L : List Vis} {n : Nat} (h : IsH L n) (hn : n ≤ L.length) : IsH (L.take n) (L.take n).length := by
  have e : ∀ k, k < n → wy (L.take n) k = wy L k := fun k hk => by simp [wy, List.getD, hk]
  intro k hk hkl
  simp only [List.length_take] at hkl
  rw [e _ (by omega), e _ (by omega)]
  exact h k hk (by omega)

end Go.Proofs.Ytciccbbgamklbaa

/-
  Mathematics of chapter 8: ways and what they bring; the search by a heap (no dump is spoken of).
-/
namespace Go.Proofs.Ytciccbbgamklbaa
set_option linter.unusedVariables false

/-- A way from 0, however long. -/
def RW (ss : List Stm) (ys : List Int) : Prop := 1 ≤ ys.length ∧ ys.getD 0 0 = 0 ∧ stepsOk ss ys (ys.length - 1) = true

/-- What s becomes along a way. -/
def st (c : Int) (ss : List Stm) (s : Int) (ys : List Int) : Int := alongK c ss ys s (ys.length - 1)

theorem getD_snoc_lt {ys : List Int} {y : Int} {k : Nat} (h : k < ys.length) : (ys ++ [y]).getD k 0 = ys.getD k 0 := by
  simp [List.getD, List.getElem?_append_left h]

theorem getD_snoc_last {ys : List Int} {y : Int} : (ys ++ [y]).getD ys.length 0 = y := by simp [List.getD]

theorem stepsOk_snocE {ss : List Stm} {ys : List Int} {y : Int} : ∀ {k : Nat}, k < ys.length → stepsOk ss (ys ++ [y]) k = stepsOk ss ys k
  | 0, _ => rfl
  | k + 1, h => by rw [stepsOk, stepsOk, stepsOk_snocE (by omega), getD_snoc_lt (by omega), getD_snoc_lt h]

theorem alongK_snoc {c : Int} {ss : List Stm} {s : Int} {ys : List Int} {y : Int} : ∀ {k : Nat}, k ≤ ys.length → alongK c ss (ys ++ [y]) s k = alongK c ss ys s k
  | 0, _ => rfl
  | k + 1, h => by rw [alongK, alongK, alongK_snoc (by omega), getD_snoc_lt (by omega)]

theorem RW0 (ss : List Stm) : RW ss [0] := ⟨by simp, rfl, rfl⟩

theorem st0 (c : Int) (ss : List Stm) (s : Int) : st c ss s [0] = s := rfl

theorem lastI_at {ys : List Int} {k : Nat} (h : ys.length = k + 1) : lastI ys = ys.getD k 0 := by
  unfold lastI; rw [h]; rfl

theorem RW_in {ss : List Stm} (hp : procOk ss = true) {ys : List Int} (h : RW ss ys) : ∃ j : Nat, lastI ys = (j : Int) ∧ j < ss.length := by
  obtain ⟨h1, h2, h3⟩ := h
  exact stepsOk_in hp h2 h3

theorem hasI_mem {xs : List Int} {y : Int} : hasI xs y = true ↔ y ∈ xs := by
  simp [hasI]

theorem RW_snoc {ss : List Stm} (hp : procOk ss = true) {ys : List Int} {y : Int} (h : RW ss ys) (hy : y ∈ nx ss (lastI ys).toNat) : RW ss (ys ++ [y]) := by
  obtain ⟨j, hj, hjl⟩ := RW_in hp h
  obtain ⟨h1, h2, h3⟩ := h
  obtain ⟨k, hk⟩ : ∃ k, ys.length = k + 1 := ⟨ys.length - 1, by omega⟩
  refine ⟨by simp, by rw [getD_snoc_lt (by omega)]; exact h2, ?_⟩
  have e : (ys ++ [y]).length - 1 = k + 1 := by simp [hk]
  rw [e, stepsOk, stepsOk_snocE (by omega), getD_snoc_lt (by omega)]
  have e2 : (ys ++ [y]).getD (k + 1) 0 = y := by rw [← hk]; exact getD_snoc_last
  rw [e2, Bool.and_eq_true]
  refine ⟨by rw [hk] at h3; exact h3, ?_⟩
  rw [hj, Int.toNat_natCast] at hy
  rw [← lastI_at hk, hj, Int.toNat_natCast, hasI_mem]
  exact hy

theorem RW_inv {ss : List Stm} (hp : procOk ss = true) {zs : List Int} (h : RW ss zs) : zs = [0] ∨ ∃ ys y, zs = ys ++ [y] ∧ RW ss ys ∧ y ∈ nx ss (lastI ys).toNat := by
  obtain ⟨h1, h2, h3⟩ := h
  obtain ⟨k, hk⟩ : ∃ k, zs.length = k + 1 := ⟨zs.length - 1, by omega⟩
  have hne : zs ≠ [] := by intro e; rw [e] at h1; simp at h1
  have hz : zs = zs.dropLast ++ [zs.getLast hne] := (List.dropLast_concat_getLast hne).symm
  generalize zs.dropLast = ys at hz
  generalize zs.getLast hne = y at hz
  subst hz
  have hyl : ys.length = k := by simpa using hk
  rcases Nat.eq_zero_or_pos k with h0 | h0
  · left
    have : ys = [] := List.eq_nil_of_length_eq_zero (by omega)
    subst this
    simp at h2
    simp [h2]
  · right
    obtain ⟨m, rfl⟩ : ∃ m, k = m + 1 := ⟨k - 1, by omega⟩
    have e : (ys ++ [y]).length - 1 = m + 1 := by simp [hyl]
    rw [e, stepsOk, stepsOk_snocE (by omega), getD_snoc_lt (by omega), Bool.and_eq_true] at h3
    have e2 : (ys ++ [y]).getD (m + 1) 0 = y := by rw [← hyl]; exact getD_snoc_last
    rw [e2] at h3
    have hR : RW ss ys := ⟨by omega, by rw [getD_snoc_lt (by omega)] at h2; exact h2, by rw [hyl]; exact h3.1⟩
    obtain ⟨j, hj, hjl⟩ := RW_in hp hR
    refine ⟨ys, y, rfl, hR, ?_⟩
    have h4 := h3.2
    rw [← lastI_at hyl, hj, Int.toNat_natCast, hasI_mem] at h4
    rw [hj, Int.toNat_natCast]
    exact h4

theorem st_snoc {c : Int} {ss : List Stm} {s : Int} {ys : List Int} {y : Int} (h : 1 ≤ ys.length) : st c ss s (ys ++ [y]) = img (flw c ss (lastI ys).toNat) (st c ss s ys) := by
  obtain ⟨k, hk⟩ : ∃ k, ys.length = k + 1 := ⟨ys.length - 1, by omega⟩
  unfold st
  have e : (ys ++ [y]).length - 1 = k + 1 := by simp [hk]
  have e3 : ys.length - 1 = k := by omega
  rw [e, alongK, alongK_snoc (by omega), getD_snoc_lt (by omega), ← lastI_at hk, e3]

theorem RW_ind {ss : List Stm} (hp : procOk ss = true) {P : List Int → Prop} (h0 : P [0]) (hs : ∀ ys y, RW ss ys → y ∈ nx ss (lastI ys).toNat → P ys → P (ys ++ [y])) : ∀ (n : Nat) (ys : List Int), ys.length ≤ n → RW ss ys → P ys
  | 0, ys, hl, h => by have := h.1; omega
  | n + 1, ys, hl, h => by
    rcases RW_inv hp h with rfl | ⟨zs, y, rfl, hz, hy⟩
    · exact h0
    · exact hs zs y hz hy (RW_ind hp h0 hs n zs (by simp at hl; omega) hz)

theorem st_small {c : Int} {ss : List Stm} {s : Int} (hp : procOk ss = true) (hs : Small s) {ys : List Int} (h : RW ss ys) : Small (st c ss s ys) := by
  refine RW_ind hp (P := fun ys => Small (st c ss s ys)) hs (fun zs y hz hy ih => ?_) ys.length ys (Nat.le_refl _) h
  obtain ⟨j, hj, hjl⟩ := RW_in hp hz
  rw [st_snoc hz.1, hj, Int.toNat_natCast]
  exact img_small (flw_smalls hp hjl) _

/-- What is solved: what the ways bring. -/
def IsSolved (c : Int) (ss : List Stm) (s : Int) (A : List Int) : Prop :=
  A.length = ss.length ∧ (∀ k, Small (A.getD k 0)) ∧ ∀ i t, i < ss.length → t < 7 → (bit (A.getD i 0) t = true ↔ ∃ ys, RW ss ys ∧ lastI ys = (i : Int) ∧ bit (st c ss s ys) t = true)

def SolvedAns (c : Int) (ss : List Stm) (s : Int) (A : List Int) : Prop :=
  ((procOk ss && isCl c && inB s 0 127) = true → IsSolved c ss s A) ∧ ((procOk ss && isCl c && inB s 0 127) = false → A = [])

theorem solved_unique {c : Int} {ss : List Stm} {s : Int} {A B : List Int} (ha : IsSolved c ss s A) (hb : IsSolved c ss s B) : A = B := by
  refine List.ext_getElem (by rw [ha.1, hb.1]) (fun i h1 h2 => ?_)
  have e : A.getD i 0 = B.getD i 0 := bit_eq (ha.2.1 i) (hb.2.1 i) (fun t ht => (ha.2.2 i t (by rw [← ha.1]; exact h1) ht).trans (hb.2.2 i t (by rw [← ha.1]; exact h1) ht).symm)
  simpa [List.getD, h1, h2] using e

theorem bits_some : ∀ (n : Nat) (f : Nat → Bool), ∃ x : Nat, x < 2 ^ n ∧ ∀ t, t < n → x.testBit t = f t
  | 0, f => ⟨0, by simp, fun t ht => by omega⟩
  | n + 1, f => by
    obtain ⟨y, hy, hb⟩ := bits_some n (fun t => f (t + 1))
    refine ⟨2 * y + (f 0).toNat, by rw [Nat.pow_succ]; have := Bool.toNat_lt (f 0); omega, fun t ht => ?_⟩
    cases t with
    | zero =>
      rw [Nat.testBit_zero]
      cases f 0 <;> simp <;> omega
    | succ t =>
      rw [Nat.testBit_succ]
      have : (2 * y + (f 0).toNat) / 2 = y := by have := Bool.toNat_lt (f 0); omega
      rw [this]
      exact hb t (by omega)

theorem solved_some (c : Int) (ss : List Stm) (s : Int) : ∃ A, IsSolved c ss s A := by
  classical
  have h : ∀ i : Nat, ∃ x : Int, Small x ∧ ∀ t, t < 7 → (bit x t = true ↔ ∃ ys, RW ss ys ∧ lastI ys = (i : Int) ∧ bit (st c ss s ys) t = true) := fun i => by
    obtain ⟨x, hx, hb⟩ := bits_some 7 (fun t => decide (∃ ys, RW ss ys ∧ lastI ys = (i : Int) ∧ bit (st c ss s ys) t = true))
    refine ⟨(x : Int), ⟨by omega, by omega⟩, fun t ht => ?_⟩
    unfold bit
    rw [Int.toNat_natCast, hb t ht, decide_eq_true_eq]
    rfl
  refine ⟨(List.range ss.length).map (fun i => Classical.choose (h i)), by simp, fun k => ?_, fun i t hi ht => ?_⟩
  · rcases Nat.lt_or_ge k ss.length with hk | hk
    · simp only [List.getD, List.getElem?_map, List.getElem?_range hk, Option.map_some, Option.getD_some]
      exact (Classical.choose_spec (h k)).1
    · simp only [List.getD]
      rw [List.getElem?_eq_none (by simpa using hk)]
      exact ⟨by decide, by decide⟩
  · simp only [List.getD, List.getElem?_map, List.getElem?_range hi, Option.map_some, Option.getD_some]
    exact (Classical.choose_spec (h i)).2 t ht

theorem solvedAns_some (c : Int) (ss : List Stm) (s : Int) : ∃ A, SolvedAns c ss s A := by
  cases h : (procOk ss && isCl c && inB s 0 127)
  · exact ⟨[], by rw [h]; simp, fun _ => rfl⟩
  · obtain ⟨A, hA⟩ := solved_some c ss s
    exact ⟨A, fun _ => hA, by rw [h]; simp⟩

theorem solvedAns_length {c : Int} {ss : List Stm} {s : Int} {A : List Int} (h : SolvedAns c ss s A) : A.length ≤ 12 := by
  cases hin : (procOk ss && isCl c && inB s 0 127)
  · rw [h.2 hin]; simp
  · rw [(h.1 hin).1]
    simp only [Bool.and_eq_true] at hin
    exact (procOk_parts hin.1.1).2.1

theorem getD_rep (n k : Nat) : (List.replicate n (0 : Int)).getD k 0 = 0 := by
  rw [List.getD, List.getElem?_replicate]
  split <;> rfl

/-- The search: what has been told, what is to be done, what has been found. -/
structure VInv (c : Int) (ss : List Stm) (s : Int) (pre work : List Vis) (found : List Int) : Prop where
  real : ∀ x, x ∈ pre ∨ x ∈ work → RW ss x.way ∧ x.set = st c ss s x.way
  len : found.length = 12
  small : ∀ k, Small (found.getD k 0)
  fnd : ∀ i t, t < 7 → (bit (found.getD i 0) t = true ↔ ∃ x ∈ pre, lastI x.way = (i : Int) ∧ bit x.set t = true)
  start : (∃ x ∈ work, x.way = [0]) ∨ (∀ t, t < 7 → bit s t = true → ∃ z ∈ pre, z.way = [0] ∧ bit z.set t = true)
  closed : ∀ x ∈ pre, ∀ y ∈ nx ss (lastI x.way).toNat, (∃ z ∈ work, z.way = x.way ++ [y]) ∨ (∀ t, t < 7 → bit (st c ss s (x.way ++ [y])) t = true → ∃ z ∈ pre, wle z.way (x.way ++ [y]) ∧ lastI z.way = y ∧ bit z.set t = true)
  lt : ∀ x ∈ pre, ∀ y ∈ work, wle x.way y.way
  wlen : ∀ x ∈ work, x.way.length ≤ pre.length + 1

section
variable {c : Int} {ss : List Stm} {s : Int} {pre work : List Vis} {found : List Int}

theorem VInv.begin (hs : Small s) (x : Vis) (hw : x.way = [0]) (hx : x.set = s) : VInv c ss s [] [x] (List.replicate 12 0) where
  real := fun y hy => by
    rcases hy with hy | hy
    · simp at hy
    · simp at hy; subst hy; rw [hw]; exact ⟨RW0 ss, hx.trans (st0 c ss s).symm⟩
  len := by simp
  small := fun k => by
    rw [getD_rep]; exact ⟨by decide, by decide⟩
  fnd := fun i t ht => by
    rw [getD_rep, bit_zero]; simp
  start := .inl ⟨x, by simp, hw⟩
  closed := fun y hy => by simp at hy
  lt := fun y hy => by simp at hy
  wlen := fun y hy => by simp at hy; subst hy; rw [hw]; simp

/-- A way that brings nothing new is passed over. -/
theorem VInv.skip (hp : procOk ss = true) (hs : Small s) (h : VInv c ss s pre work found) {v : Vis} {work' : List Vis} (hm : ∀ y, y ∈ work ↔ y = v ∨ y ∈ work') {i : Nat} (hi : lastI v.way = (i : Int)) (hh : hasA (found.getD i 0) v.set = true) : VInv c ss s pre work' found := by
  have hv : v ∈ work := (hm v).2 (.inl rfl)
  obtain ⟨hR, hS⟩ := h.real v (.inr hv)
  have hsv : Small v.set := by rw [hS]; exact st_small hp hs hR
  have hall := (hasA_iff (h.small i) hsv).1 hh
  have key : ∀ t, t < 7 → bit v.set t = true → ∃ z ∈ pre, wle z.way v.way ∧ lastI z.way = (i : Int) ∧ bit z.set t = true := fun t ht hb => by
    obtain ⟨z, hz, h1, h2⟩ := (h.fnd i t ht).1 (hall t ht hb)
    exact ⟨z, hz, h.lt z hz v hv, h1, h2⟩
  refine ⟨fun x hx => h.real x (hx.imp id (fun h => (hm x).2 (.inr h))), h.len, h.small, h.fnd, ?_, fun x hx y hy => ?_, fun x hx y hy => h.lt x hx y ((hm y).2 (.inr hy)), fun x hx => h.wlen x ((hm x).2 (.inr hx))⟩
  · rcases h.start with ⟨x, hx, hw⟩ | h0
    · rcases (hm x).1 hx with rfl | hx'
      · right
        intro t ht hb
        have : bit x.set t = true := by rw [hS, hw, st0]; exact hb
        obtain ⟨z, hz, h1, h2, h3⟩ := key t ht this
        refine ⟨z, hz, ?_, h3⟩
        rw [hw] at h1
        have hRz := (h.real z (.inl hz)).1
        have hl : z.way.length ≤ 1 := by
          rcases wle_iff.1 h1 with h1 | h1
          · rcases wlt_iff.1 h1 with h1 | h1
            · simp only [List.length_cons, List.length_nil] at h1; omega
            · have := h1.1
              simp only [List.length_cons, List.length_nil] at this; omega
          · rw [h1]; simp
        have h1z := hRz.1
        have h2z := hRz.2.1
        match hzw : z.way, h1z, hl with
        | [a], _, _ => rw [hzw] at h2z; simp at h2z; rw [h2z]
        | [], h, _ => simp at h
        | a :: b :: l, _, h => simp at h
      · exact .inl ⟨x, hx', hw⟩
    · exact .inr h0
  · rcases h.closed x hx y hy with ⟨z, hz, hw⟩ | h0
    · rcases (hm z).1 hz with rfl | hz'
      · right
        intro t ht hb
        rw [← hw] at hb ⊢
        rw [← hS] at hb
        obtain ⟨q, hq, h1, h2, h3⟩ := key t ht hb
        refine ⟨q, hq, h1, ?_, h3⟩
        rw [h2, ← hi, hw, lastI_snoc]
      · exact .inl ⟨z, hz', hw⟩
    · exact .inr h0

/-- A way that brings something is told, and its longer ones come in. -/
theorem VInv.news (hp : procOk ss = true) (hs : Small s) (h : VInv c ss s pre work found) {v : Vis} {work' work2 : List Vis} (hm : ∀ y, y ∈ work ↔ y = v ∨ y ∈ work') (hmin : ∀ y, y ∈ work' → wle v.way y.way) {i : Nat} (hi : lastI v.way = (i : Int)) (hil : i < 12)
    (hw2 : ∀ y, y ∈ work2 → y ∈ work' ∨ ∃ n ∈ nx ss i, y.way = v.way ++ [n] ∧ y.set = img (flw c ss i) v.set) (hw3 : ∀ y, y ∈ work' → y ∈ work2) (hw4 : ∀ n ∈ nx ss i, ∃ y ∈ work2, y.way = v.way ++ [n]) :
    VInv c ss s (pre ++ [v]) work2 (found.set i (lor (found.getD i 0) v.set)) := by
  have hv : v ∈ work := (hm v).2 (.inl rfl)
  obtain ⟨hR, hS⟩ := h.real v (.inr hv)
  have hsv : Small v.set := by rw [hS]; exact st_small hp hs hR
  have hlor := lor_small (h.small i) hsv
  have hget : ∀ k, (found.set i (lor (found.getD i 0) v.set)).getD k 0 = if k = i then lor (found.getD i 0) v.set else found.getD k 0 := fun k => by
    by_cases e : i = k
    · subst e
      simp [List.getD, h.len, hil]
    · rw [if_neg (fun e' => e e'.symm)]
      simp [List.getD, List.getElem?_set_ne e]
  have hold : ∀ y, y ∈ pre → wle y.way v.way := fun y hy => h.lt y hy v hv
  refine ⟨fun x hx => ?_, by rw [List.length_set]; exact h.len, fun k => ?_, fun k t ht => ?_, ?_, fun x hx y hy => ?_, fun x hx y hy => ?_, fun x hx => ?_⟩
  · rcases hx with hx | hx
    · rcases List.mem_append.1 hx with hx | hx
      · exact h.real x (.inl hx)
      · simp at hx; subst hx; exact ⟨hR, hS⟩
    · rcases hw2 x hx with hx | ⟨n, hn, h1, h2⟩
      · exact h.real x (.inr ((hm x).2 (.inr hx)))
      · rw [h1, h2]
        have hn' : n ∈ nx ss (lastI v.way).toNat := by rw [hi, Int.toNat_natCast]; exact hn
        refine ⟨RW_snoc hp hR hn', ?_⟩
        rw [st_snoc hR.1, hi, Int.toNat_natCast, hS]
  · rw [hget]; split
    · exact hlor
    · exact h.small k
  · rw [hget]
    by_cases e : k = i
    · subst e
      rw [if_pos rfl, bit_lor (h.small k) hsv, Bool.or_eq_true, h.fnd k t ht]
      constructor
      · rintro (⟨x, hx, h1, h2⟩ | hb)
        · exact ⟨x, by simp [hx], h1, h2⟩
        · exact ⟨v, by simp, hi, hb⟩
      · rintro ⟨x, hx, h1, h2⟩
        rcases List.mem_append.1 hx with hx | hx
        · exact .inl ⟨x, hx, h1, h2⟩
        · simp at hx; subst hx; exact .inr h2
    · rw [if_neg e, h.fnd k t ht]
      constructor
      · rintro ⟨x, hx, h1, h2⟩; exact ⟨x, by simp [hx], h1, h2⟩
      · rintro ⟨x, hx, h1, h2⟩
        rcases List.mem_append.1 hx with hx | hx
        · exact ⟨x, hx, h1, h2⟩
        · simp at hx; subst hx; rw [hi] at h1; omega
  · rcases h.start with ⟨x, hx, hw⟩ | h0
    · rcases (hm x).1 hx with rfl | hx'
      · right
        intro t ht hb
        exact ⟨x, by simp, hw, by rw [hS, hw, st0]; exact hb⟩
      · exact .inl ⟨x, hw3 x hx', hw⟩
    · right
      intro t ht hb
      obtain ⟨z, hz, h1, h2⟩ := h0 t ht hb
      exact ⟨z, by simp [hz], h1, h2⟩
  · rcases List.mem_append.1 hx with hx | hx
    · rcases h.closed x hx y hy with ⟨z, hz, hw⟩ | h0
      · rcases (hm z).1 hz with rfl | hz'
        · right
          intro t ht hb
          rw [← hw] at hb ⊢
          refine ⟨z, by simp, wle_refl _, ?_, by rw [hS]; exact hb⟩
          rw [hw, lastI_snoc]
        · exact .inl ⟨z, hw3 z hz', hw⟩
      · right
        intro t ht hb
        obtain ⟨z, hz, h1, h2, h3⟩ := h0 t ht hb
        exact ⟨z, by simp [hz], h1, h2, h3⟩
    · simp at hx
      subst hx
      rw [hi, Int.toNat_natCast] at hy
      obtain ⟨z, hz, hw⟩ := hw4 y hy
      exact .inl ⟨z, hz, hw⟩
  · have hxv : wle x.way v.way := by
      rcases List.mem_append.1 hx with hx | hx
      · exact hold x hx
      · simp at hx; subst hx; exact wle_refl _
    refine wle_trans hxv ?_
    rcases hw2 y hy with hy | ⟨n, hn, h1, h2⟩
    · exact hmin y hy
    · rw [h1]; exact wle_of_lt (wlt_snoc _ _)
  · have hvl := h.wlen v hv
    rcases hw2 x hx with hx | ⟨n, hn, h1, h2⟩
    · have := h.wlen x ((hm x).2 (.inr hx))
      simp; omega
    · rw [h1]; simp; omega

/-- Whatever is ahead of all that is to be done has been told, or something as good ahead of it. -/
theorem VInv.done (hp : procOk ss = true) (hs : Small s) (h : VInv c ss s pre work found) {ys : List Int} (hR : RW ss ys) (hlt : ∀ x ∈ work, wlt ys x.way = true) : ∀ t, t < 7 → bit (st c ss s ys) t = true → ∃ z ∈ pre, wle z.way ys ∧ lastI z.way = lastI ys ∧ bit z.set t = true := by
  refine RW_ind hp (P := fun ys => (∀ x ∈ work, wlt ys x.way = true) → ∀ t, t < 7 → bit (st c ss s ys) t = true → ∃ z ∈ pre, wle z.way ys ∧ lastI z.way = lastI ys ∧ bit z.set t = true) ?_ ?_ ys.length ys (Nat.le_refl _) hR hlt
  · intro hlt t ht hb
    rcases h.start with ⟨x, hx, hw⟩ | h0
    · have := hlt x hx
      rw [hw, wlt_irrefl] at this
      cases this
    · obtain ⟨z, hz, h1, h2⟩ := h0 t ht hb
      exact ⟨z, hz, by rw [h1]; exact wle_refl _, by rw [h1], h2⟩
  · intro zs y hz hy ih hlt t ht hb
    obtain ⟨j, hj, hjl⟩ := RW_in hp hz
    rw [st_snoc hz.1] at hb
    have hfs := flw_smalls (c := c) hp hjl
    rw [hj, Int.toNat_natCast] at hb
    obtain ⟨u, hu, h1, h2⟩ := (bit_img hfs _ t).1 hb
    obtain ⟨q, hq, q1, q2, q3⟩ := ih (fun x hx => wlt_trans (wlt_snoc zs y) (hlt x hx)) u hu h1
    obtain ⟨hRq, hSq⟩ := h.real q (.inl hq)
    have hyq : y ∈ nx ss (lastI q.way).toNat := by rw [q2]; exact hy
    have hle : wle (q.way ++ [y]) (zs ++ [y]) := wle_snoc y q1
    have hbq : bit (st c ss s (q.way ++ [y])) t = true := by
      rw [st_snoc hRq.1, q2, hj, Int.toNat_natCast, ← hSq]
      exact (bit_img hfs _ t).2 ⟨u, hu, q3, h2⟩
    rcases h.closed q hq y hyq with ⟨z, hzw, hw⟩ | h0
    · have h3 := hlt z hzw
      rw [hw] at h3
      have := wlt_of_lt_le h3 hle
      rw [wlt_irrefl] at this
      cases this
    · obtain ⟨z, hz', z1, z2, z3⟩ := h0 t ht hbq
      exact ⟨z, hz', wle_trans z1 hle, by rw [z2, lastI_snoc], z3⟩

/-- When nothing is to be done what was found is solved. -/
theorem VInv.solved (hp : procOk ss = true) (hs : Small s) (h : VInv c ss s pre [] found) : IsSolved c ss s (found.take ss.length) := by
  have h12 := (procOk_parts hp).2.1
  have hg : ∀ k, k < ss.length → (found.take ss.length).getD k 0 = found.getD k 0 := fun k hk => by simp [List.getD, hk]
  refine ⟨by rw [List.length_take, h.len]; omega, fun k => ?_, fun i t hi ht => ?_⟩
  · rcases Nat.lt_or_ge k ss.length with hk | hk
    · rw [hg k hk]; exact h.small k
    · simp only [List.getD]
      rw [List.getElem?_eq_none (by simp; omega)]
      exact ⟨by decide, by decide⟩
  · rw [hg i hi, h.fnd i t ht]
    constructor
    · rintro ⟨x, hx, h1, h2⟩
      obtain ⟨hR, hS⟩ := h.real x (.inl hx)
      exact ⟨x.way, hR, h1, by rw [← hS]; exact h2⟩
    · rintro ⟨ys, hR, h1, h2⟩
      obtain ⟨z, hz, _, z2, z3⟩ := h.done hp hs hR (fun x hx => by simp at hx) t ht h2
      exact ⟨z, hz, z2.trans h1, z3⟩

end

end Go.Proofs.Ytciccbbgamklbaa
