/-
  What a procedure calls: l3In, hasProc, l3Calls, calledBy, numbersIn.
-/
import Derived.Test.YtnjbihfceckpfaaPut
import Derived.Test.YtnjbihfceckpfaaSize
namespace Go.Proofs.Ytnjbihfceckpfaa
open Go.RowKit
set_option linter.unusedVariables false
set_option maxHeartbeats 1000000

/-- Is there such a procedure? -/
def hasB (ps : List (List Stm)) (i : Int) : Bool := programOk ps && wiB i ps.length

theorem l3In (ps : List (List Stm)) (i : Int) (v : Value) (w : World) (hl : ps.length ≤ maxLen) (hp : ∀ p ∈ ps, p.length ≤ maxLen) (hv : ReadsP w v ps) :
    Calls Try.prog 80 #[.agg #[v], .int .i64 i] w fun e w' => e = .returned (.bool (hasB ps i)) ∧ Below w.heap.size w w' := by
  have hb0 : Below w.heap.size w (w.alloc (.cells #[v] 30)) := by go_grown
  have he := specProgramOk ps v _ hl hp (readsP_below hv hb0)
  have H0 := heap_alloc_new w (.cells #[v] 30)
  have s0 : (w.alloc (.cells #[v] 30)).heap.size = w.heap.size + 1 := by simp
  unfold maxLen at hl
  unfold hasB
  cases hok : programOk ps
  · rw [hok] at he
    clear hv
    go_enter Try.func80, Try.ntmps80
    go_wp2_with (go_at_call 39; refine he.mono ?_; rintro e w2 ⟨rfl, b2⟩)
    go_ret
    exact ⟨rfl, hb0.trans (b2.mono hb0.size)⟩
  · rw [hok] at he
    clear hok
    have hin : ∀ W, Calls Try.prog 51 #[.int .i64 i, .int .i64 0, .int .i64 ((ps.length : Int) - 1)] W fun e w' => e = .returned (.bool (wiB i ps.length)) ∧ W = w' := by
      intro W
      have := l1In i 0 ((ps.length : Int) - 1) W
      rw [inB_wi, Int.sub_add_cancel] at this
      exact this
    go_enter Try.func80, Try.ntmps80
    go_wp2_with fail
    go_at_call 39
    refine he.mono ?_
    rintro e w2 ⟨rfl, b2⟩
    obtain ⟨c2, f2⟩ := one_cell ((b2.block w.heap.size (by omega)).trans H0)
    obtain ⟨ao, cap, rfl, hc⟩ := hv
    clear he
    go_wp2_with (go_at_call 51; refine (hin _).mono ?_; rintro e w3 ⟨rfl, rfl⟩)
    go_ret
    exact ⟨rfl, hb0.trans (b2.mono hb0.size)⟩

/-- The procedures that a procedure calls, rising. -/
def putCall (acc : List Int) (s : Stm) : List Int := if s.k = 8 then ins s.y acc else acc
def callsOf (p : List Stm) : List Int := p.foldl putCall []

theorem ins_length (n : Int) : ∀ xs, (ins n xs).length ≤ xs.length + 1
  | [] => by simp [ins]
  | x :: xs => by
    have := ins_length n xs
    unfold ins
    split
    · simp; omega
    · split <;> simp

theorem callsOf_snoc (p : List Stm) (k : Nat) (h : k < p.length) : callsOf (p.take (k + 1)) = putCall (callsOf (p.take k)) p[k] := by
  rw [callsOf, List.take_succ_eq_append_getElem h, List.foldl_append]
  rfl

theorem callsOf_length (p : List Stm) : (callsOf p).length ≤ p.length := by
  have key : ∀ (p : List Stm) (acc : List Int), (p.foldl putCall acc).length ≤ acc.length + p.length := by
    intro p
    induction p with
    | nil => intro acc; simp
    | cons s p ih =>
      intro acc
      have h1 := ih (putCall acc s)
      have h2 : (putCall acc s).length ≤ acc.length + 1 := by
        unfold putCall
        split
        · exact ins_length _ _
        · omega
      simp only [List.foldl_cons, List.length_cons]
      omega
  simpa [callsOf] using key p []

end Go.Proofs.Ytnjbihfceckpfaa
