/-
  Chapter 4: what may come next: impl.nextsOf, spec.l4Next, and who asks: l4In, hasStmt.
-/
import Derived.Test.YtnjbihfceckpfaaPut
import Derived.Test.YtnjbihfceckpfaaProc
import Derived.Laws.OwnMore
namespace Go.Proofs.Ytnjbihfceckpfaa
open Go.RowKit
set_option linter.unusedVariables false
set_option maxHeartbeats 1000000

/-- What may come behind a statement that lies at i. -/
def nextsS (s : Stm) (i : Int) : List Int :=
  if s.k = 9 then []
  else if s.k = 7 then (if s.y ≤ i then [s.y, i + 1] else if i + 1 < s.y then [i + 1, s.y] else [i + 1])
  else [i + 1]

theorem nextsS_length (s : Stm) (i : Int) : (nextsS s i).length ≤ 2 := by
  unfold nextsS
  repeat' split
  all_goals simp

theorem made1 (w : World) (a : Int) : (w.alloc (.cells #[.int .i64 a] 2)).ownsRow w.heap.size 2 1 (.slice (some ⟨w.heap.size, 0, none⟩) 1 1) 1 [.int .i64 a] :=
  World.ownsRow_lit w #[.int .i64 a] 1 (size := 1) (Nat.le_refl _) (by decide) (by simp)

theorem made2 (w : World) (a b : Int) : (w.alloc (.cells #[.int .i64 a, .int .i64 b] 2)).ownsRow w.heap.size 2 1 (.slice (some ⟨w.heap.size, 0, none⟩) 2 2) 2 [.int .i64 a, .int .i64 b] :=
  World.ownsRow_lit w #[.int .i64 a, .int .i64 b] 2 (size := 1) (Nat.le_refl _) (by decide) (by simp)

theorem made1_at {w : World} {n base : Nat} (hn : w.heap.size = n) (hb : base ≤ n) (a : Int) : (w.alloc (.cells #[.int .i64 a] 2)).ownsRow base 2 1 (.slice (some ⟨n, 0, none⟩) 1 1) 1 [.int .i64 a] := by
  subst hn
  exact own_mono (made1 w a) hb

theorem made2_at {w : World} {n base : Nat} (hn : w.heap.size = n) (hb : base ≤ n) (a b : Int) : (w.alloc (.cells #[.int .i64 a, .int .i64 b] 2)).ownsRow base 2 1 (.slice (some ⟨n, 0, none⟩) 2 2) 2 [.int .i64 a, .int .i64 b] := by
  subst hn
  exact own_mono (made2 w a b) hb

theorem nil_own (w : World) (base : Nat) : w.ownsRow base 2 1 (.slice none 0 0) 0 [] := ⟨by simp, .inl ⟨rfl, rfl⟩⟩

theorem nextsOf (ss : List Stm) (i : Nat) (v : Value) (w : World) (hi : i < ss.length) (hl : ss.length ≤ 12) (hv : Reads3 w v ss) :
    Calls Try.prog 124 #[.agg #[v], .int .i64 i] w fun e w' => ∃ u, e = .returned u ∧ w'.ownsRow w.heap.size 2 1 u (nextsS ss[i] i).length (ints (nextsS ss[i] i)) ∧ Below w.heap.size w w' := by
  obtain ⟨ao, cap, rfl, hc⟩ := hv
  obtain ⟨g, off, rfl, p0, p1, p2⟩ := hc i ss[i] (by simp [hi])
  have pB := World.block_lt_of_cell? w _ p0
  have hi' : (i : Int) < (ss.length : Int) := by omega
  have hl' : (ss.length : Int) ≤ 12 := by omega
  clear hc
  generalize ss[i] = s at *
  obtain ⟨sk, sx, sy⟩ := s
  simp only at p0 p1 p2
  unfold nextsS
  simp only
  by_cases h9 : sk = 9
  · subst h9
    simp only [if_true]
    go_enter Try.func124, Try.ntmps124
    go_wp2
    go_ret
    exact ⟨_, rfl, nil_own _ _, by go_grown⟩
  have h9' : (sk == 9) = false := by simpa using h9
  rw [if_neg h9]
  by_cases h7 : sk = 7
  · subst h7
    rw [if_pos rfl]
    clear h9 h9'
    by_cases hy : sy ≤ i
    · rw [if_pos hy]
      go_enter Try.func124, Try.ntmps124
      go_wp2
      go_ret
      exact ⟨.slice (some ⟨w.heap.size + 1 + 1, 0, none⟩) 2 2, rfl, made2_at (by simp) (by omega) _ _, by go_grown⟩
    rw [if_neg hy]
    by_cases hy2 : (i : Int) + 1 < sy
    · rw [if_pos hy2]
      go_enter Try.func124, Try.ntmps124
      go_wp2
      go_ret
      exact ⟨.slice (some ⟨w.heap.size + 1 + 1, 0, none⟩) 2 2, rfl, made2_at (by simp) (by omega) _ _, by go_grown⟩
    · rw [if_neg hy2]
      go_enter Try.func124, Try.ntmps124
      go_wp2
      go_ret
      exact ⟨.slice (some ⟨w.heap.size + 1 + 1, 0, none⟩) 1 1, rfl, made1_at (by simp) (by omega) _, by go_grown⟩
  · have h7' : (sk == 7) = false := by simpa using h7
    rw [if_neg h7]
    go_enter Try.func124, Try.ntmps124
    go_wp2
    go_ret
    exact ⟨.slice (some ⟨w.heap.size + 1 + 1, 0, none⟩) 1 1, rfl, made1_at (by simp) (by omega) _, by go_grown⟩

theorem procOk_parts {ss : List Stm} (h : procOk ss = true) : 1 ≤ ss.length ∧ ss.length ≤ 12 ∧ (∀ (i : Nat) (hi : i < ss.length), stmOk ss.length ss[i] = true ∧ (ss[i].k ≠ 9 → i + 1 < ss.length)) := by
  unfold procOk at h
  simp only [Bool.and_eq_true, decide_eq_true_eq] at h
  obtain ⟨⟨⟨h1, h2⟩, h3⟩, h4⟩ := h
  refine ⟨h1, h2, fun i hi => ⟨List.all_eq_true.1 h4 _ (List.getElem_mem hi), fun h9 => ?_⟩⟩
  rcases Nat.lt_or_ge (i + 1) ss.length with h | h
  · exact h
  · have : i = ss.length - 1 := by omega
    subst this
    simp [hi, h9] at h3

theorem stmOk_jump {n : Nat} {s : Stm} (h : stmOk n s = true) (h7 : s.k = 7) : 0 ≤ s.y ∧ s.y < n := by
  unfold stmOk at h
  simp only [Bool.and_eq_true] at h
  obtain ⟨h1, h2⟩ := h
  rw [h7] at h1
  refine ⟨stmtOk_jump h1, ?_⟩
  simpa [h7] using h2

/-- What may come next lies within. -/
theorem nextsS_in {ss : List Stm} (h : procOk ss = true) {i : Nat} (hi : i < ss.length) : ∀ x ∈ nextsS ss[i] i, ∃ j : Nat, x = (j : Int) ∧ j < ss.length := by
  obtain ⟨_, _, h3⟩ := procOk_parts h
  obtain ⟨h4, h5⟩ := h3 i hi
  intro x hx
  unfold nextsS at hx
  by_cases h9 : ss[i].k = 9
  · simp [h9] at hx
  rw [if_neg h9] at hx
  have hn : ∃ j : Nat, ((i : Int) + 1) = (j : Int) ∧ j < ss.length := ⟨i + 1, by omega, h5 h9⟩
  by_cases h7 : ss[i].k = 7
  · rw [if_pos h7] at hx
    obtain ⟨y0, y1⟩ := stmOk_jump h4 h7
    have hy : ∃ j : Nat, ss[i].y = (j : Int) ∧ j < ss.length := ⟨ss[i].y.toNat, by omega, by omega⟩
    split at hx
    · simp at hx; rcases hx with rfl | rfl <;> assumption
    · split at hx
      · simp at hx; rcases hx with rfl | rfl <;> assumption
      · simp at hx; subst hx; assumption
  · rw [if_neg h7] at hx
    simp at hx; subst hx; assumption

theorem ins_len1 (n : Int) : (ins n []).length ≤ 1 := by simp [ins]

theorem three_cells' {w : World} {b : Nat} {x0 x1 x2 : Value} {T : TypeId} (h : w.heap[b]? = some (.cells #[x0, x1, x2] T (0, 0))) :
    w.cell? ⟨b, 0, none⟩ = some x0 ∧ w.cell? ⟨b, 1, none⟩ = some x1 ∧ w.cell? ⟨b, 2, none⟩ = some x2 ∧
      w.frozen? ⟨b, 0, none⟩ = false ∧ w.frozen? ⟨b, 1, none⟩ = false ∧ w.frozen? ⟨b, 2, none⟩ = false := by
  refine ⟨?_, ?_, ?_, ?_, ?_, ?_⟩ <;> simp [World.cell?, World.frozen?, h]

theorem l4Next (ss : List Stm) (i : Nat) (v : Value) (w : World) (hok : procOk ss = true) (hi : i < ss.length) (hv : Reads3 w v ss) :
    Calls Try.prog 100 #[.agg #[v], .int .i64 i] w fun e w' => ∃ g cap, e = .returned (.slice (some ⟨g, 0, none⟩) (nextsS ss[i] i).length cap) ∧
      w'.ownsRow w.heap.size 2 1 (.slice (some ⟨g, 0, none⟩) (nextsS ss[i] i).length cap) (nextsS ss[i] i).length (ints (nextsS ss[i] i)) ∧ Below w.heap.size w w' := by
  obtain ⟨_, hl, h3⟩ := procOk_parts hok
  obtain ⟨h4, h5⟩ := h3 i hi
  obtain ⟨ao, cap, rfl, hc⟩ := hv
  obtain ⟨g, off, rfl, p0, p1, p2⟩ := hc i ss[i] (by simp [hi])
  have pB := World.block_lt_of_cell? w _ p0
  have hi' : (i : Int) < (ss.length : Int) := by omega
  have hl' : (ss.length : Int) ≤ 12 := by omega
  clear hc h3 h4 hok
  generalize ss[i] = s at *
  obtain ⟨sk, sx, sy⟩ := s
  simp only at p0 p1 p2 h5
  unfold nextsS
  simp only
  obtain ⟨W0, hW0⟩ : ∃ W0, (w.alloc (.cells #[.slice (some ⟨g, off, none⟩) ss.length cap] 81)).alloc (.cells #[.int .i64 sk, .int .i64 sx, .int .i64 sy] 92) = W0 := ⟨_, rfl⟩
  have s0 : W0.heap.size = w.heap.size + 1 + 1 := by rw [← hW0]; simp
  have b0 : Below w.heap.size w W0 := by rw [← hW0]; go_grown
  have m0 : (W0.alloc (.cells #[] 2)).ownsRow w.heap.size 2 1 (.slice (some ⟨w.heap.size + 1 + 1, 0, none⟩) 0 0) 0 [] := by
    have := own_mono (made0 W0) (base' := w.heap.size) (by omega)
    rwa [s0] at this
  have HW : Hid ((w.alloc (.cells #[.slice (some ⟨g, off, none⟩) ss.length cap] 81)).alloc (.cells #[.int .i64 sk, .int .i64 sx, .int .i64 sy] 92) = W0) := hW0
  have C0 : Hid (W0.heap[w.heap.size + 1]? = some (.cells #[.int .i64 sk, .int .i64 sx, .int .i64 sy] 92 (0, 0))) := by
    show W0.heap[w.heap.size + 1]? = some (.cells #[.int .i64 sk, .int .i64 sx, .int .i64 sy] 92 (0, 0))
    rw [← hW0]
    have := heap_alloc_new (w.alloc (.cells #[.slice (some ⟨g, off, none⟩) ss.length cap] 81)) (.cells #[.int .i64 sk, .int .i64 sx, .int .i64 sy] 92)
    simpa using this
  clear hW0
  by_cases h9 : sk = 9
  · subst h9
    rw [if_pos rfl]
    go_enter Try.func100, Try.ntmps100
    go_wp2
    go_ret
    exact ⟨w.heap.size + 1 + 1, 0, rfl, by rw [HW.out]; exact m0, by go_grown⟩
  have h9' : (sk == 9) = false := by simpa using h9
  rw [if_neg h9]
  have hn : (i : Int) + 1 < (ss.length : Int) := by have := h5 h9; omega
  have hp1 := l1Put [] (i + 1) (w.heap.size + 1 + 1) 0 w.heap.size (W0.alloc (.cells #[] 2)) (by simp) (by simp; omega) m0
  by_cases h7 : sk = 7
  · subst h7
    rw [if_pos rfl]
    clear h9 h9' h5
    have hins : ins sy (ins ((i : Int) + 1) []) = (if sy ≤ i then [sy, (i : Int) + 1] else if (i : Int) + 1 < sy then [(i : Int) + 1, sy] else [(i : Int) + 1]) := by
      simp only [ins]
      by_cases h1 : sy ≤ i
      · rw [if_pos h1, if_neg (by omega), if_neg (by omega)]
      · rw [if_neg h1]
        by_cases h2 : (i : Int) + 1 < sy
        · rw [if_pos h2, if_pos h2]
        · rw [if_neg h2, if_neg h2, if_pos (by omega)]
    rw [← hins]
    have HI : Hid _ := hins
    clear hins
    have hlen := ins_len1 ((i : Int) + 1)
    generalize ins ((i : Int) + 1) [] = xs at *
    go_enter Try.func100, Try.ntmps100
    go_wp2_with fail
    go_at_call 134
    rw [HW.out]
    refine hp1.mono ?_
    rintro e w1 ⟨g1, c1, rfl, own1, b1⟩
    have L1 : Below w.heap.size w w1 := (b0.alloc (by omega) _).trans (b1.mono (by simp; omega))
    obtain ⟨x0, x1, x2, _⟩ := three_cells' ((b1.block (w.heap.size + 1) (by simp; omega)).trans ((old_block (by omega)).trans C0.out))
    have hp2 := l1Put xs sy g1 c1 w.heap.size w1 (by omega) L1.size own1
    clear hp1
    go_wp2_with fail
    go_at_call 134
    refine hp2.mono ?_
    rintro e w2 ⟨g2, c2, rfl, own2, b2⟩
    clear hp2
    go_wp2
    go_ret
    exact ⟨g2, c2, rfl, own2, L1.trans (b2.mono L1.size)⟩
  · have h7' : (sk == 7) = false := by simpa using h7
    rw [if_neg h7]
    go_enter Try.func100, Try.ntmps100
    go_wp2_with fail
    go_at_call 134
    rw [HW.out]
    refine hp1.mono ?_
    rintro e w1 ⟨g1, c1, rfl, own1, b1⟩
    have L1 : Below w.heap.size w w1 := (b0.alloc (by omega) _).trans (b1.mono (by simp; omega))
    obtain ⟨x0, x1, x2, _⟩ := three_cells' ((b1.block (w.heap.size + 1) (by simp; omega)).trans ((old_block (by omega)).trans C0.out))
    clear hp1
    go_wp2
    go_ret
    exact ⟨g1, c1, rfl, own1, L1⟩

/-- Is there such a statement? -/
def hasS (ss : List Stm) (i : Int) : Bool := procOk ss && wiB i ss.length

theorem hasS_true {ss : List Stm} {i : Int} (h : hasS ss i = true) : procOk ss = true ∧ ∃ j : Nat, i = (j : Int) ∧ j < ss.length := by
  unfold hasS wiB at h
  simp only [Bool.and_eq_true, decide_eq_true_eq] at h
  obtain ⟨h1, h2, h3⟩ := h
  exact ⟨h1, i.toNat, by omega, by omega⟩



end Go.Proofs.Ytnjbihfceckpfaa
