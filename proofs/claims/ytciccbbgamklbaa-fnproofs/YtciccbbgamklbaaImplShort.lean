/-
  impl.Short.
-/
import Derived.Test.YtciccbbgamklbaaImplReached
namespace Go.Proofs.Ytciccbbgamklbaa
open Go.RowKit Go.Shelf
set_option linter.unusedVariables false
set_option maxHeartbeats 2000000
attribute [local go_sem] Oper.semAt_some

/-- How many statements a shortest way has. -/
def ShortAns (ss : List Stm) (i r : Int) : Prop :=
  (hasS ss i = false → r = 0) ∧ (hasS ss i = true → ∀ j : Nat, i = (j : Int) → (¬ Rch ss (-1) j → r = 0) ∧ ∀ k : Nat, rk ss (-1) k j → (∀ k', k' < k → ¬ rk ss (-1) k' j) → r = (k : Int) + 1)

theorem least_rk {ss : List Stm} {j : Nat} (h : Rch ss (-1) j) : ∃ k, rk ss (-1) k j ∧ ∀ k', k' < k → ¬ rk ss (-1) k' j := by
  classical
  obtain ⟨k, hk⟩ := h
  induction k using Nat.strongRecOn with
  | ind k ih =>
    by_cases h : ∃ k', k' < k ∧ rk ss (-1) k' j
    · obtain ⟨k', hlt, hk'⟩ := h
      exact ih k' hlt hk'
    · exact ⟨k, hk, fun k' hlt hk' => h ⟨k', hlt, hk'⟩⟩

theorem short_some (ss : List Stm) (i : Int) : ∃ A : Int, ShortAns ss i A := by
  classical
  cases h : hasS ss i
  · exact ⟨0, by simp, by simp [h]⟩
  · obtain ⟨_, j, rfl, _⟩ := hasS_true h
    by_cases hr : Rch ss (-1) j
    · obtain ⟨k, hk, hm⟩ := least_rk hr
      refine ⟨(k : Int) + 1, by simp [h], fun _ j' e => ?_⟩
      obtain rfl : j = j' := by omega
      refine ⟨fun hn => absurd hr hn, fun k2 hk2 hm2 => ?_⟩
      have : k = k2 := by
        rcases Nat.lt_trichotomy k k2 with h1 | h1 | h1
        · exact absurd hk (hm2 k h1)
        · exact h1
        · exact absurd hk2 (hm k2 h1)
      omega
    · refine ⟨0, by simp, fun _ j' e => ?_⟩
      obtain rfl : j = j' := by omega
      exact ⟨fun _ => rfl, fun k hk _ => absurd ⟨k, hk⟩ hr⟩

/-- Between two rounds: it has not come yet. -/
structure SSt (ss : List Stm) (w : World) (i : Int) (A0 R : Nat) (pre : List (DPs ss)) (f : Nat → Prop) (W : World) : Prop where
  none : ∀ p ∈ pre, p.1.1 ≠ i
  box : W.heap[A0]? = some (.cells #[.int .i64 i] 2 (0, 0))
  res : W.heap[R]? = some (.cells #[.int .i64 0] 2 (0, 0))
  foot : f R
  below : Below w.heap.size w W

/-- It has come. -/
structure SIx (ss : List Stm) (w : World) (i : Int) (R : Nat) (c : Code) (pre : List (DPs ss)) (f : Nat → Prop) (W : World) : Prop where
  ret : c = .ret
  res : ∃ p ∈ pre, p.1.1 = i ∧ W.heap[R]? = some (.cells #[.int .i64 p.1.2] 2 (0, 0))
  below : Below w.heap.size w W

theorem sst_own (ss : List Stm) (w : World) (i : Int) (A0 R B : Nat) (hA : A0 < B) (hR : R < B) (hB : w.heap.size ≤ B) : FootOwn B (SSt ss w i A0 R) := by
  rintro s f A A' row ⟨h1, h2, h3, h4, h5⟩ hg hr
  refine ⟨h1, ?_, ?_, h4, h5.grown hg h5.size (fun k e => Nat.le_trans hB (hr k e).1)⟩
  · exact (hg.block A0 (Array.getElem?_eq_some_iff.1 h2).1 (fun e => by have := (hr A0 e.symm).1; omega)).trans h2
  · exact (hg.block R (Array.getElem?_eq_some_iff.1 h3).1 (fun e => by have := (hr R e.symm).1; omega)).trans h3

theorem six_own (ss : List Stm) (w : World) (i : Int) (R B : Nat) (hR : R < B) (hB : w.heap.size ≤ B) (c : Code) : FootOwn B (SIx ss w i R c) := by
  rintro s f A A' row ⟨h1, ⟨p, hp, hi, h3⟩, h5⟩ hg hr
  exact ⟨h1, ⟨p, hp, hi, (hg.block R (Array.getElem?_eq_some_iff.1 h3).1 (fun e => by have := (hr R e.symm).1; omega)).trans h3⟩, h5.grown hg h5.size (fun k e => Nat.le_trans hB (hr k e).1)⟩

end Go.Proofs.Ytciccbbgamklbaa
