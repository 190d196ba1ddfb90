/-
  impl.numbersIn, impl.calledBy; spec.Calls, impl.Calls.
-/
import Derived.Test.YtmloeldgeegddaaCallsFn
import Derived.Test.YtmloeldgeegddaaNumbers
namespace Go.Proofs.Ytmloeldgeegddaa
open Go.RowKit
set_option linter.unusedVariables false
set_option maxHeartbeats 1000000

/-- Does the procedure call number i? -/
def called (p : List Stm) (i : Int) : Bool := p.any (fun s => decide (s.k = 8) && decide (s.y = i))

theorem called_snoc (p : List Stm) (k : Nat) (h : k < p.length) (i : Int) : called (p.take (k + 1)) i = (called (p.take k) i || (decide (p[k].k = 8) && decide (p[k].y = i))) := by
  rw [called, List.take_succ_eq_append_getElem h, List.any_append]
  simp [called]

theorem four_cellsC {w : World} {b : Nat} {x0 x1 x2 x3 : Value} {T : TypeId} (h : w.heap[b]? = some (.cells #[x0, x1, x2, x3] T (0, 0))) :
    w.cell? ⟨b, 0, none⟩ = some x0 ∧ w.cell? ⟨b, 1, none⟩ = some x1 ∧ w.cell? ⟨b, 2, none⟩ = some x2 ∧ w.cell? ⟨b, 3, none⟩ = some x3 ∧
      w.frozen? ⟨b, 0, none⟩ = false ∧ w.frozen? ⟨b, 1, none⟩ = false ∧ w.frozen? ⟨b, 2, none⟩ = false ∧ w.frozen? ⟨b, 3, none⟩ = false := by
  refine ⟨?_, ?_, ?_, ?_, ?_, ?_, ?_, ?_⟩ <;> simp [World.cell?, World.frozen?, h]

theorem callsOf_eq (p : List Stm) (hp : ∀ s ∈ p, stmtOk s.k s.x s.y = true) : callsOf p = nums [called p 0, called p 1, called p 2, called p 3] 0 := by
  have hput : ∀ (y : Int) (b0 b1 b2 b3 : Bool), 0 ≤ y → y ≤ 3 → ins y (nums [b0, b1, b2, b3] 0) = nums [b0 || decide (y = 0), b1 || decide (y = 1), b2 || decide (y = 2), b3 || decide (y = 3)] 0 := by
    intro y b0 b1 b2 b3 h0 h3
    have : y = 0 ∨ y = 1 ∨ y = 2 ∨ y = 3 := by omega
    rcases this with rfl | rfl | rfl | rfl <;> cases b0 <;> cases b1 <;> cases b2 <;> cases b3 <;> rfl
  have key : ∀ (p : List Stm), (∀ s ∈ p, stmtOk s.k s.x s.y = true) → ∀ (b0 b1 b2 b3 : Bool),
      p.foldl putCall (nums [b0, b1, b2, b3] 0) = nums [b0 || called p 0, b1 || called p 1, b2 || called p 2, b3 || called p 3] 0 := by
    intro p
    induction p with
    | nil => intro _ b0 b1 b2 b3; simp [called]
    | cons s p ih =>
      intro hs b0 b1 b2 b3
      have h1 := hs s (by simp)
      have ih := ih (fun t ht => hs t (by simp [ht]))
      obtain ⟨k, x, y⟩ := s
      simp only at h1
      by_cases h8 : k = 8
      · subst h8
        obtain ⟨y0, y3⟩ := stmtOk_call h1
        rw [List.foldl_cons, putCall, if_pos rfl, hput y b0 b1 b2 b3 y0 y3, ih]
        simp [called, Bool.or_assoc]
      · rw [List.foldl_cons, putCall, if_neg h8, ih]
        simp [called, h8]
  have := key p hp false false false false
  simpa [callsOf, nums] using this

end Go.Proofs.Ytmloeldgeegddaa
