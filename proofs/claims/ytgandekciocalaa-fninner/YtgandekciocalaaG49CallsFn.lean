/-
  Put together out of: Size, CallsFn.
-/
import Derived.Test.YtgandekciocalaaProgOk
import Derived.Test.YtgandekciocalaaPut
/-
  spec.Size, impl.Size.
-/
namespace Go.Proofs.Ytgandekciocalaa
open Go.RowKit
set_option linter.unusedVariables false
set_option maxHeartbeats 1000000

def sumLen : List (List Stm) → Nat
  | [] => 0
  | p :: ps => p.length + sumLen ps

theorem sumLen_append : ∀ a b : List (List Stm), sumLen (a ++ b) = sumLen a + sumLen b
  | [], b => by simp [sumLen]
  | p :: a, b => by simp [sumLen, sumLen_append a b]; omega

theorem sumLen_take (ps : List (List Stm)) (k : Nat) (h : k < ps.length) : sumLen (ps.take (k + 1)) = sumLen (ps.take k) + ps[k].length := by
  rw [List.take_succ_eq_append_getElem h, sumLen_append]
  simp [sumLen]

/-- What both answer: how many statements. -/
def sizeOf3 (ps : List (List Stm)) : Int := if programOk ps then (sumLen ps : Int) else -1

theorem programOk_len {ps : List (List Stm)} (h : programOk ps = true) : ps.length ≤ 4 ∧ 1 ≤ ps.length ∧ ∀ p ∈ ps, procOk p = true ∧ p.all (callOk ps.length) = true := by
  unfold programOk at h
  simp only [Bool.and_eq_true, decide_eq_true_eq] at h
  refine ⟨h.1.2, h.1.1, fun p hp => ?_⟩
  have := List.all_eq_true.1 h.2 p hp
  unfold partOk at this
  simpa [Bool.and_eq_true] using this

theorem procOk_len {p : List Stm} (h : procOk p = true) : p.length ≤ 12 := by
  unfold procOk at h
  simp only [Bool.and_eq_true, decide_eq_true_eq] at h
  exact h.1.1.2

end Go.Proofs.Ytgandekciocalaa

/-
  What a procedure calls: l3In, hasProc, l3Calls, calledBy, numbersIn.
-/
namespace Go.Proofs.Ytgandekciocalaa
open Go.RowKit
set_option linter.unusedVariables false
set_option maxHeartbeats 1000000

/-- Is there such a procedure? -/
def hasB (ps : List (List Stm)) (i : Int) : Bool := programOk ps && wiB i ps.length

theorem l3In (ps : List (List Stm)) (i : Int) (v : Value) (w : World) (hl : ps.length ≤ maxLen) (hp : ∀ p ∈ ps, p.length ≤ maxLen) (hv : ReadsP w v ps) :
    Calls Try.prog 51 #[.agg #[v], .int .i64 i] w fun e w' => e = .returned (.bool (hasB ps i)) ∧ Below w.heap.size w w' := by
  have hb0 : Below w.heap.size w (w.alloc (.cells #[v] 26)) := by go_grown
  have he := specProgramOk ps v _ hl hp (readsP_below hv hb0)
  have H0 := heap_alloc_new w (.cells #[v] 26)
  have s0 : (w.alloc (.cells #[v] 26)).heap.size = w.heap.size + 1 := by simp
  unfold maxLen at hl
  unfold hasB
  cases hok : programOk ps
  · rw [hok] at he
    clear hv
    go_enter Try.func51, Try.ntmps51
    go_wp2_with (go_at_call 14; refine he.mono ?_; rintro e w2 ⟨rfl, b2⟩)
    go_ret
    exact ⟨rfl, hb0.trans (b2.mono hb0.size)⟩
  · rw [hok] at he
    clear hok
    have hin : ∀ W, Calls Try.prog 69 #[.int .i64 i, .int .i64 0, .int .i64 ((ps.length : Int) - 1)] W fun e w' => e = .returned (.bool (wiB i ps.length)) ∧ W = w' := by
      intro W
      have := l1In i 0 ((ps.length : Int) - 1) W
      rw [inB_wi, Int.sub_add_cancel] at this
      exact this
    go_enter Try.func51, Try.ntmps51
    go_wp2_with fail
    go_at_call 14
    refine he.mono ?_
    rintro e w2 ⟨rfl, b2⟩
    obtain ⟨c2, f2⟩ := one_cell ((b2.block w.heap.size (by omega)).trans H0)
    obtain ⟨ao, cap, rfl, hc⟩ := hv
    clear he
    go_wp2_with (go_at_call 69; refine (hin _).mono ?_; rintro e w3 ⟨rfl, rfl⟩)
    go_ret
    exact ⟨rfl, hb0.trans (b2.mono hb0.size)⟩

/-- The procedures that a procedure calls, rising. -/
def putCall (acc : List Int) (s : Stm) : List Int := if s.k = 8 then ins s.y acc else acc
def callsOf (p : List Stm) : List Int := p.foldl putCall []

theorem ins_length (n : Int) : ∀ xs, (ins n xs).length ≤ xs.length + 1
  | [] => by simp [ins]
  | x :: xs => by
    have := ins_length n xs
    unfold ins
    split
    · simp; omega
    · split <;> simp

theorem callsOf_snoc (p : List Stm) (k : Nat) (h : k < p.length) : callsOf (p.take (k + 1)) = putCall (callsOf (p.take k)) p[k] := by
  rw [callsOf, List.take_succ_eq_append_getElem h, List.foldl_append]
  rfl

theorem callsOf_length (p : List Stm) : (callsOf p).length ≤ p.length := by
  have key : ∀ (p : List Stm) (acc : List Int), (p.foldl putCall acc).length ≤ acc.length + p.length := by
    intro p
    induction p with
    | nil => intro acc; simp
    | cons s p ih =>
      intro acc
      have h1 := ih (putCall acc s)
      have h2 : (putCall acc s).length ≤ acc.length + 1 := by
        unfold putCall
        split
        · exact ins_length _ _
        · omega
      simp only [List.foldl_cons, List.length_cons]
      omega
  simpa [callsOf] using key p []

end Go.Proofs.Ytgandekciocalaa
