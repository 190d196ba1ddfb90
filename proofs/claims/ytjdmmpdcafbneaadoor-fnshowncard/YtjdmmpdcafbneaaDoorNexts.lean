/-
  Chapter 4: what may come next: impl.nextsOf, spec.l4Next, and who asks: l4In, hasStmt.
-/
import Derived.Test.YtjdmmpdcafbneaaDoorG06Put
import Derived.Test.YtjdmmpdcafbneaaDoorProc
import Derived.Laws.OwnMore
namespace Go.Proofs.YtjdmmpdcafbneaaDoor
open Go.RowKit
set_option linter.unusedVariables false
set_option maxHeartbeats 1000000

/-- What may come behind a statement that lies at i. -/
def nextsS (s : Stm) (i : Int) : List Int :=
  if s.k = 9 then []
  else if s.k = 7 then (if s.y ≤ i then [s.y, i + 1] else if i + 1 < s.y then [i + 1, s.y] else [i + 1])
  else [i + 1]

theorem nextsS_length (s : Stm) (i : Int) : (nextsS s i).length ≤ 2 := by
  unfold nextsS
  repeat' split
  all_goals simp

theorem made1 (w : World) (a : Int) : (w.alloc (.cells #[.int .i64 a] 2)).ownsRow w.heap.size 2 1 (.slice (some ⟨w.heap.size, 0, none⟩) 1 1) 1 [.int .i64 a] :=
  World.ownsRow_lit w #[.int .i64 a] 1 (size := 1) (Nat.le_refl _) (by decide) (by simp)

theorem made2 (w : World) (a b : Int) : (w.alloc (.cells #[.int .i64 a, .int .i64 b] 2)).ownsRow w.heap.size 2 1 (.slice (some ⟨w.heap.size, 0, none⟩) 2 2) 2 [.int .i64 a, .int .i64 b] :=
  World.ownsRow_lit w #[.int .i64 a, .int .i64 b] 2 (size := 1) (Nat.le_refl _) (by decide) (by simp)

theorem made1_at {w : World} {n base : Nat} (hn : w.heap.size = n) (hb : base ≤ n) (a : Int) : (w.alloc (.cells #[.int .i64 a] 2)).ownsRow base 2 1 (.slice (some ⟨n, 0, none⟩) 1 1) 1 [.int .i64 a] := by
  subst hn
  exact own_mono (made1 w a) hb

theorem made2_at {w : World} {n base : Nat} (hn : w.heap.size = n) (hb : base ≤ n) (a b : Int) : (w.alloc (.cells #[.int .i64 a, .int .i64 b] 2)).ownsRow base 2 1 (.slice (some ⟨n, 0, none⟩) 2 2) 2 [.int .i64 a, .int .i64 b] := by
  subst hn
  exact own_mono (made2 w a b) hb

theorem nil_own (w : World) (base : Nat) : w.ownsRow base 2 1 (.slice none 0 0) 0 [] := ⟨by simp, .inl ⟨rfl, rfl⟩⟩

theorem procOk_parts {ss : List Stm} (h : procOk ss = true) : 1 ≤ ss.length ∧ ss.length ≤ 12 ∧ (∀ (i : Nat) (hi : i < ss.length), stmOk ss.length ss[i] = true ∧ (ss[i].k ≠ 9 → i + 1 < ss.length)) := by
  unfold procOk at h
  simp only [Bool.and_eq_true, decide_eq_true_eq] at h
  obtain ⟨⟨⟨h1, h2⟩, h3⟩, h4⟩ := h
  refine ⟨h1, h2, fun i hi => ⟨List.all_eq_true.1 h4 _ (List.getElem_mem hi), fun h9 => ?_⟩⟩
  rcases Nat.lt_or_ge (i + 1) ss.length with h | h
  · exact h
  · have : i = ss.length - 1 := by omega
    subst this
    simp [hi, h9] at h3

theorem stmOk_jump {n : Nat} {s : Stm} (h : stmOk n s = true) (h7 : s.k = 7) : 0 ≤ s.y ∧ s.y < n := by
  unfold stmOk at h
  simp only [Bool.and_eq_true] at h
  obtain ⟨h1, h2⟩ := h
  rw [h7] at h1
  refine ⟨stmtOk_jump h1, ?_⟩
  simpa [h7] using h2

/-- What may come next lies within. -/
theorem nextsS_in {ss : List Stm} (h : procOk ss = true) {i : Nat} (hi : i < ss.length) : ∀ x ∈ nextsS ss[i] i, ∃ j : Nat, x = (j : Int) ∧ j < ss.length := by
  obtain ⟨_, _, h3⟩ := procOk_parts h
  obtain ⟨h4, h5⟩ := h3 i hi
  intro x hx
  unfold nextsS at hx
  by_cases h9 : ss[i].k = 9
  · simp [h9] at hx
  rw [if_neg h9] at hx
  have hn : ∃ j : Nat, ((i : Int) + 1) = (j : Int) ∧ j < ss.length := ⟨i + 1, by omega, h5 h9⟩
  by_cases h7 : ss[i].k = 7
  · rw [if_pos h7] at hx
    obtain ⟨y0, y1⟩ := stmOk_jump h4 h7
    have hy : ∃ j : Nat, ss[i].y = (j : Int) ∧ j < ss.length := ⟨ss[i].y.toNat, by omega, by omega⟩
    split at hx
    · simp at hx; rcases hx with rfl | rfl <;> assumption
    · split at hx
      · simp at hx; rcases hx with rfl | rfl <;> assumption
      · simp at hx; subst hx; assumption
  · rw [if_neg h7] at hx
    simp at hx; subst hx; assumption

theorem ins_len1 (n : Int) : (ins n []).length ≤ 1 := by simp [ins]

theorem three_cells' {w : World} {b : Nat} {x0 x1 x2 : Value} {T : TypeId} (h : w.heap[b]? = some (.cells #[x0, x1, x2] T (0, 0))) :
    w.cell? ⟨b, 0, none⟩ = some x0 ∧ w.cell? ⟨b, 1, none⟩ = some x1 ∧ w.cell? ⟨b, 2, none⟩ = some x2 ∧
      w.frozen? ⟨b, 0, none⟩ = false ∧ w.frozen? ⟨b, 1, none⟩ = false ∧ w.frozen? ⟨b, 2, none⟩ = false := by
  refine ⟨?_, ?_, ?_, ?_, ?_, ?_⟩ <;> simp [World.cell?, World.frozen?, h]


/-- Is there such a statement? -/
def hasS (ss : List Stm) (i : Int) : Bool := procOk ss && wiB i ss.length

theorem hasS_true {ss : List Stm} {i : Int} (h : hasS ss i = true) : procOk ss = true ∧ ∃ j : Nat, i = (j : Int) ∧ j < ss.length := by
  unfold hasS wiB at h
  simp only [Bool.and_eq_true, decide_eq_true_eq] at h
  obtain ⟨h1, h2, h3⟩ := h
  exact ⟨h1, i.toNat, by omega, by omega⟩



end Go.Proofs.YtjdmmpdcafbneaaDoor
