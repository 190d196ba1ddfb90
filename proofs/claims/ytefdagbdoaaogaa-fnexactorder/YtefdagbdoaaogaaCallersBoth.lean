/-
  spec.Callers, impl.Callers.
-/
import Derived.Test.YtefdagbdoaaogaaCallsBoth
namespace Go.Proofs.Ytefdagbdoaaogaa
open Go.RowKit
set_option linter.unusedVariables false
set_option maxHeartbeats 1000000

theorem ins_any (n i : Int) : ∀ xs : List Int, (ins n xs).any (fun x => decide (x = i)) = (decide (n = i) || xs.any (fun x => decide (x = i)))
  | [] => by simp [ins]
  | x :: xs => by
    unfold ins
    split
    · rw [List.any_cons, ins_any n i xs, List.any_cons]
      cases decide (x = i) <;> cases decide (n = i) <;> simp
    · split
      · rename_i h
        subst h
        simp
      · simp

theorem callsOf_any (p : List Stm) (i : Int) : (callsOf p).any (fun x => decide (x = i)) = called p i := by
  have key : ∀ (p : List Stm) (acc : List Int), (p.foldl putCall acc).any (fun x => decide (x = i)) = (acc.any (fun x => decide (x = i)) || called p i) := by
    intro p
    induction p with
    | nil => intro acc; simp [called]
    | cons s p ih =>
      intro acc
      rw [List.foldl_cons, ih, putCall]
      by_cases h8 : s.k = 8
      · rw [if_pos h8, ins_any]
        simp only [called, List.any_cons, h8, decide_true, Bool.true_and]
        cases decide (s.y = i) <;> simp
      · rw [if_neg h8]
        simp [called, h8]
  have := key p []
  simpa [callsOf] using this

/-- What both answer. -/
def callersAns (ps : List (List Stm)) (i : Int) : List Int := if hasB ps i then nums (ps.map (fun p => called p i)) 0 else []

theorem callersAns_length (ps : List (List Stm)) (i : Int) : (callersAns ps i).length ≤ 12 := by
  unfold callersAns
  cases hok : hasB ps i
  · simp
  · rw [if_pos rfl]
    obtain ⟨h1, _⟩ := hasB_true hok
    obtain ⟨h4, _⟩ := programOk_len h1
    have := nums_length (ps.map (fun p => called p i)) 0
    simp at this ⊢
    omega

/-- Does procedure j, one of the first k, call number i? -/
def upTo (ps : List (List Stm)) (i : Int) (k j : Nat) : Bool := decide (j < k) && called (ps.getD j []) i

theorem upTo_step (ps : List (List Stm)) (i : Int) (k j : Nat) : upTo ps i (k + 1) j = if j = k then called (ps.getD k []) i else upTo ps i k j := by
  unfold upTo
  by_cases h : j = k
  · subst h; simp
  · rw [if_neg h]
    have : decide (j < k + 1) = decide (j < k) := by simp; omega
    rw [this]

theorem nums_false : ∀ (m : Nat) (i : Int), nums (List.replicate m false) i = []
  | 0, _ => by simp [nums]
  | m + 1, i => by simp [List.replicate_succ, nums, nums_false m]

theorem nums_pad (m : Nat) : ∀ (bs : List Bool) (i : Int), nums (bs ++ List.replicate m false) i = nums bs i
  | [], i => by simpa [nums] using nums_false m i
  | b :: bs, i => by cases b <;> simp [nums, nums_pad m bs (i + 1)]

theorem upTo_all (ps : List (List Stm)) (i : Int) (h4 : ps.length ≤ 4) : nums [upTo ps i ps.length 0, upTo ps i ps.length 1, upTo ps i ps.length 2, upTo ps i ps.length 3] 0 = nums (ps.map (fun p => called p i)) 0 := by
  rw [← nums_pad (4 - ps.length) (ps.map (fun p => called p i)) 0]
  match ps, h4 with
  | [], _ => simp [upTo, List.replicate_succ]
  | [a], _ => simp [upTo, List.replicate_succ]
  | [a, b], _ => simp [upTo, List.replicate_succ]
  | [a, b, c], _ => simp [upTo, List.replicate_succ]
  | [a, b, c, d], _ => simp [upTo]

theorem index0 (b0 b1 b2 b3 : Bool) (w : World) : (Instr.index 55 (.agg #[.bool b0, .bool b1, .bool b2, .bool b3]) (.int .i64 0)).run Try.prog w = .ok (.bool b0) w := by kernel_rfl
theorem index1 (b0 b1 b2 b3 : Bool) (w : World) : (Instr.index 55 (.agg #[.bool b0, .bool b1, .bool b2, .bool b3]) (.int .i64 1)).run Try.prog w = .ok (.bool b1) w := by kernel_rfl
theorem index2 (b0 b1 b2 b3 : Bool) (w : World) : (Instr.index 55 (.agg #[.bool b0, .bool b1, .bool b2, .bool b3]) (.int .i64 2)).run Try.prog w = .ok (.bool b2) w := by kernel_rfl
theorem index3 (b0 b1 b2 b3 : Bool) (w : World) : (Instr.index 55 (.agg #[.bool b0, .bool b1, .bool b2, .bool b3]) (.int .i64 3)).run Try.prog w = .ok (.bool b3) w := by kernel_rfl

/-- The array's value at a number. -/
theorem four_at (p : List Stm) (i : Int) (h0 : 0 ≤ i) (h3 : i ≤ 3) (w : World) :
    (Instr.index 55 (.agg #[Value.bool (called p 0), .bool (called p 1), .bool (called p 2), .bool (called p 3)]) (.int .i64 i)).run Try.prog w = .ok (.bool (called p i)) w := by
  have : i = 0 ∨ i = 1 ∨ i = 2 ∨ i = 3 := by omega
  rcases this with rfl | rfl | rfl | rfl
  · exact index0 _ _ _ _ w
  · exact index1 _ _ _ _ w
  · exact index2 _ _ _ _ w
  · exact index3 _ _ _ _ w

end Go.Proofs.Ytefdagbdoaaogaa
