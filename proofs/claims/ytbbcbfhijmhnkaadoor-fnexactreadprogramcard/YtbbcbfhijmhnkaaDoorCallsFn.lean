/-
  What a procedure calls: l3In, hasProc, l3Calls, calledBy, numbersIn.
-/
import Derived.Test.YtbbcbfhijmhnkaaDoorPut
import Derived.Test.YtbbcbfhijmhnkaaDoorSize
namespace Go.Proofs.YtbbcbfhijmhnkaaDoor
open Go.RowKit
set_option linter.unusedVariables false
set_option maxHeartbeats 1000000

/-- Is there such a procedure? -/
def hasB (ps : List (List Stm)) (i : Int) : Bool := programOk ps && wiB i ps.length

/-- The procedures that a procedure calls, rising. -/
def putCall (acc : List Int) (s : Stm) : List Int := if s.k = 8 then ins s.y acc else acc
def callsOf (p : List Stm) : List Int := p.foldl putCall []

theorem ins_length (n : Int) : ∀ xs, (ins n xs).length ≤ xs.length + 1
  | [] => by simp [ins]
  | x :: xs => by
    have := ins_length n xs
    unfold ins
    split
    · simp; omega
    · split <;> simp

theorem callsOf_snoc (p : List Stm) (k : Nat) (h : k < p.length) : callsOf (p.take (k + 1)) = putCall (callsOf (p.take k)) p[k] := by
  rw [callsOf, List.take_succ_eq_append_getElem h, List.foldl_append]
  rfl

theorem callsOf_length (p : List Stm) : (callsOf p).length ≤ p.length := by
  have key : ∀ (p : List Stm) (acc : List Int), (p.foldl putCall acc).length ≤ acc.length + p.length := by
    intro p
    induction p with
    | nil => intro acc; simp
    | cons s p ih =>
      intro acc
      have h1 := ih (putCall acc s)
      have h2 : (putCall acc s).length ≤ acc.length + 1 := by
        unfold putCall
        split
        · exact ins_length _ _
        · omega
      simp only [List.foldl_cons, List.length_cons]
      omega
  simpa [callsOf] using key p []

end Go.Proofs.YtbbcbfhijmhnkaaDoor
