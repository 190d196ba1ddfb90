/-
  Put together out of: ShowM, Size, CallsFn.
-/
import Derived.Test.YtjdmmpdcafbneaaDoorProgOk
import Derived.Lib.ItoaNum
import Derived.Test.YtjdmmpdcafbneaaDoorG06Put
/-
  Chapter 13, texts: the mathematics of what a Program is shown as.
-/
namespace Go.Proofs.YtjdmmpdcafbneaaDoor
open Go.RowKit
set_option linter.unusedVariables false
set_option linter.unusedSimpArgs false

/-- Texts, with a byte between. -/
def joinT (sep : UInt8) : List (List UInt8) → List UInt8
  | [] => []
  | [x] => x
  | x :: y :: xs => x ++ sep :: joinT sep (y :: xs)
/-- What stands ahead of the next one. -/
def ahead (sep : UInt8) (xs : List (List UInt8)) : List UInt8 := if xs.length = 0 then [] else joinT sep xs ++ [sep]

theorem joinT_snoc (sep : UInt8) : ∀ (xs : List (List UInt8)) (y : List UInt8), joinT sep (xs ++ [y]) = ahead sep xs ++ y
  | [], y => by simp [joinT, ahead]
  | [x], y => by simp [joinT, ahead]
  | x :: z :: xs, y => by
    have ih := joinT_snoc sep (z :: xs) y
    simp only [List.cons_append] at ih ⊢
    rw [joinT, ih]
    simp [ahead, joinT]

theorem ahead_zero (sep : UInt8) : ahead sep [] = [] := rfl
theorem ahead_pos (sep : UInt8) {xs : List (List UInt8)} (h : 0 < xs.length) : ahead sep xs = joinT sep xs ++ [sep] := if_neg (by omega)

theorem joinT_take (sep : UInt8) (xs : List (List UInt8)) (j : Nat) (h : j < xs.length) : joinT sep (xs.take (j + 1)) = ahead sep (xs.take j) ++ xs[j] := by
  rw [List.take_succ_eq_append_getElem h, joinT_snoc]

def letter (k : Int) : UInt8 :=
  match k.toNat with
  | 1 => 115
  | 2 => 99
  | 3 => 98
  | 4 => 108
  | 5 => 109
  | 6 => 116
  | 7 => 106
  | 8 => 107
  | _ => 114
def dd (n : Int) : List UInt8 := Lib.decDigits n.toNat
/-- The numbers that a Kind tells. -/
def told (s : Stm) : List Int :=
  if s.k = 2 ∨ s.k = 3 then [s.x, s.y] else if s.k = 4 ∨ s.k = 5 ∨ s.k = 6 then [s.x] else if s.k = 7 ∨ s.k = 8 then [s.y] else []
def stmtT (s : Stm) : List UInt8 := letter s.k :: joinT 44 ((told s).map dd)
def procT (p : List Stm) : List UInt8 := joinT 32 (p.map stmtT)
def showT (ps : List (List Stm)) : List UInt8 := joinT 59 (ps.map procT)
/-- What ShowProgram answers. -/
def showA (ps : List (List Stm)) : List UInt8 := if programOk ps then showT ps else []

theorem dd_len {n : Int} (h0 : 0 ≤ n) (h : n < 100) : (dd n).length ≤ 2 := by
  unfold dd
  rw [Lib.decDigits]
  split
  · simp
  · rw [Lib.decDigits, dif_pos (by omega)]
    simp

theorem joinT_len (sep : UInt8) (m : Nat) : ∀ (xs : List (List UInt8)), (∀ x ∈ xs, x.length ≤ m) → (joinT sep xs).length ≤ xs.length * (m + 1)
  | [], _ => by simp [joinT]
  | [x], h => by
    have := h x (by simp)
    simp [joinT]; omega
  | x :: y :: xs, h => by
    have ih := joinT_len sep m (y :: xs) (fun z hz => h z (by simp at hz ⊢; exact .inr hz))
    have := h x (by simp)
    simp only [joinT, List.length_append, List.length_cons] at ih ⊢
    have e1 : (xs.length + 1 + 1) * (m + 1) = (xs.length + 1) * (m + 1) + (m + 1) := Nat.succ_mul _ _
    omega

theorem ahead_len (sep : UInt8) (m : Nat) (xs : List (List UInt8)) (h : ∀ x ∈ xs, x.length ≤ m) : (ahead sep xs).length ≤ xs.length * (m + 1) + 1 := by
  unfold ahead
  split
  · simp
  · have := joinT_len sep m xs h
    simp; omega

/-- A right statement's numbers. -/
theorem stmtOk_nums {k x y : Int} (h : stmtOk k x y = true) : 1 ≤ k ∧ k ≤ 9 ∧ 0 ≤ x ∧ x ≤ 5 ∧ 0 ≤ y ∧ y ≤ 11 := by
  unfold stmtOk at h
  simp only [inB_wi, wiB] at h
  (repeat' split at h) <;> simp at h <;> omega

theorem told_nums {s : Stm} (h : stmtOk s.k s.x s.y = true) : (told s).length ≤ 2 ∧ ∀ n ∈ told s, 0 ≤ n ∧ n ≤ 11 := by
  obtain ⟨_, _, h3, h4, h5, h6⟩ := stmtOk_nums h
  unfold told
  split
  · exact ⟨by simp, fun n hn => by simp at hn; rcases hn with rfl | rfl <;> omega⟩
  · split
    · exact ⟨by simp, fun n hn => by simp at hn; subst hn; omega⟩
    · split
      · exact ⟨by simp, fun n hn => by simp at hn; subst hn; omega⟩
      · exact ⟨by simp, fun n hn => by simp at hn⟩

theorem stmtT_len {s : Stm} (h : stmtOk s.k s.x s.y = true) : (stmtT s).length ≤ 7 := by
  obtain ⟨h1, h2⟩ := told_nums h
  have := joinT_len 44 2 ((told s).map dd) (fun x hx => by
    obtain ⟨n, hn, rfl⟩ := List.mem_map.1 hx
    have := h2 n hn
    exact dd_len this.1 (by omega))
  unfold stmtT
  simp only [List.length_cons, List.length_map] at this ⊢
  omega

theorem procT_len {p : List Stm} (hl : p.length ≤ 12) (h : ∀ s ∈ p, stmtOk s.k s.x s.y = true) : (procT p).length ≤ 96 := by
  have := joinT_len 32 7 (p.map stmtT) (fun x hx => by
    obtain ⟨s, hs, rfl⟩ := List.mem_map.1 hx
    exact stmtT_len (h s hs))
  unfold procT
  simp only [List.length_map] at this
  omega

end Go.Proofs.YtjdmmpdcafbneaaDoor

/-
  spec.Size, impl.Size.
-/
namespace Go.Proofs.YtjdmmpdcafbneaaDoor
open Go.RowKit
set_option linter.unusedVariables false
set_option maxHeartbeats 1000000

def sumLen : List (List Stm) → Nat
  | [] => 0
  | p :: ps => p.length + sumLen ps

theorem sumLen_append : ∀ a b : List (List Stm), sumLen (a ++ b) = sumLen a + sumLen b
  | [], b => by simp [sumLen]
  | p :: a, b => by simp [sumLen, sumLen_append a b]; omega

theorem sumLen_take (ps : List (List Stm)) (k : Nat) (h : k < ps.length) : sumLen (ps.take (k + 1)) = sumLen (ps.take k) + ps[k].length := by
  rw [List.take_succ_eq_append_getElem h, sumLen_append]
  simp [sumLen]

/-- What both answer: how many statements. -/
def sizeOf3 (ps : List (List Stm)) : Int := if programOk ps then (sumLen ps : Int) else -1

theorem programOk_len {ps : List (List Stm)} (h : programOk ps = true) : ps.length ≤ 4 ∧ 1 ≤ ps.length ∧ ∀ p ∈ ps, procOk p = true ∧ p.all (callOk ps.length) = true := by
  unfold programOk at h
  simp only [Bool.and_eq_true, decide_eq_true_eq] at h
  refine ⟨h.1.2, h.1.1, fun p hp => ?_⟩
  have := List.all_eq_true.1 h.2 p hp
  unfold partOk at this
  simpa [Bool.and_eq_true] using this

theorem procOk_len {p : List Stm} (h : procOk p = true) : p.length ≤ 12 := by
  unfold procOk at h
  simp only [Bool.and_eq_true, decide_eq_true_eq] at h
  exact h.1.1.2

end Go.Proofs.YtjdmmpdcafbneaaDoor

/-
  What a procedure calls: l3In, hasProc, l3Calls, calledBy, numbersIn.
-/
namespace Go.Proofs.YtjdmmpdcafbneaaDoor
open Go.RowKit
set_option linter.unusedVariables false
set_option maxHeartbeats 1000000

/-- Is there such a procedure? -/
def hasB (ps : List (List Stm)) (i : Int) : Bool := programOk ps && wiB i ps.length

/-- The procedures that a procedure calls, rising. -/
def putCall (acc : List Int) (s : Stm) : List Int := if s.k = 8 then ins s.y acc else acc
def callsOf (p : List Stm) : List Int := p.foldl putCall []

theorem ins_length (n : Int) : ∀ xs, (ins n xs).length ≤ xs.length + 1
  | [] => by simp [ins]
  | x :: xs => by
    have := ins_length n xs
    unfold ins
    split
    · simp; omega
    · split <;> simp

theorem callsOf_snoc (p : List Stm) (k : Nat) (h : k < p.length) : callsOf (p.take (k + 1)) = putCall (callsOf (p.take k)) p[k] := by
  rw [callsOf, List.take_succ_eq_append_getElem h, List.foldl_append]
  rfl

theorem callsOf_length (p : List Stm) : (callsOf p).length ≤ p.length := by
  have key : ∀ (p : List Stm) (acc : List Int), (p.foldl putCall acc).length ≤ acc.length + p.length := by
    intro p
    induction p with
    | nil => intro acc; simp
    | cons s p ih =>
      intro acc
      have h1 := ih (putCall acc s)
      have h2 : (putCall acc s).length ≤ acc.length + 1 := by
        unfold putCall
        split
        · exact ins_length _ _
        · omega
      simp only [List.foldl_cons, List.length_cons]
      omega
  simpa [callsOf] using key p []

end Go.Proofs.YtjdmmpdcafbneaaDoor
