/-
  Put together out of: EqT, EditOk.
-/
import Derived.Test.YtoflfeegllpifaaCloned
/-
  == of two statements, of two Edits.
-/
namespace Go.Proofs.Ytoflfeegllpifaa
open Go.RowKit
set_option maxRecDepth 20000
set_option maxHeartbeats 1000000
set_option linter.unusedVariables false
set_option linter.unusedSimpArgs false

theorem equal_stmtD (d : Nat) (w : World) (a b c x y z : Int) : (Op.equalIn (d + 1 + 1) 37 (.agg #[.int .i64 a, .int .i64 b, .int .i64 c]) (.agg #[.int .i64 x, .int .i64 y, .int .i64 z])).run Try.prog w = .ok (decide (a = x) && decide (b = y) && decide (c = z)) w := by
  have u3 := Try.underlying2
  have hS : Try.prog.underlying 37 = some (.struct (Try.prog.fieldsOf 37)) := by kernel_rfl
  rw [run_equalIn_struct w (d + 1) 37 _ _ hS (by kernel_rfl)]
  simp only [Program.fieldsOf, Try.underlying37]
  go_simp
  by_cases h1 : a = x <;> by_cases h2 : b = y <;> by_cases h3 : c = z <;> simp [h1, h2, h3]

theorem equal_stmt (w : World) (a b c x y z : Int) : (Op.equalIn 10000 37 (.agg #[.int .i64 a, .int .i64 b, .int .i64 c]) (.agg #[.int .i64 x, .int .i64 y, .int .i64 z])).run Try.prog w = .ok (decide (a = x) && decide (b = y) && decide (c = z)) w := equal_stmtD 9998 w a b c x y z

theorem equal_edit (w : World) (k p q a b c k' p' q' x y z : Int) : (Op.equalIn 10000 47 (.agg #[.int .i64 k, .int .i64 p, .int .i64 q, .int .i64 a, .int .i64 b, .int .i64 c]) (.agg #[.int .i64 k', .int .i64 p', .int .i64 q', .int .i64 x, .int .i64 y, .int .i64 z])).run Try.prog w = .ok (decide (k = k') && decide (p = p') && decide (q = q') && (decide (a = x) && decide (b = y) && decide (c = z))) w := by
  have u3 := Try.underlying2
  have hE := equal_stmtD 9997 w a b c x y z
  have hS : Try.prog.underlying 47 = some (.struct (Try.prog.fieldsOf 47)) := by kernel_rfl
  rw [show (10000 : Nat) = 9999 + 1 from rfl, run_equalIn_struct w 9999 47 _ _ hS (by kernel_rfl)]
  simp only [Program.fieldsOf, Try.underlying47]
  go_simp
  by_cases h1 : k = k' <;> by_cases h2 : p = p' <;> by_cases h3 : q = q' <;> by_cases h4 : a = x <;> by_cases h5 : b = y <;> by_cases h6 : c = z <;> simp [h1, h2, h3, h4, h5, h6]

end Go.Proofs.Ytoflfeegllpifaa

/-
  impl.hasPlace, impl.editOk.
-/
namespace Go.Proofs.Ytoflfeegllpifaa
open Go.RowKit
set_option linter.unusedVariables false
set_option linter.unusedSimpArgs false
set_option maxHeartbeats 4000000
set_option maxRecDepth 20000

/-- An Edit. -/
structure Edt where
  k : Int
  pr : Int
  a : Int
  s : Stm

def edV (e : Edt) : Value := .agg #[.int .i64 e.k, .int .i64 e.pr, .int .i64 e.a, .int .i64 e.s.k, .int .i64 e.s.x, .int .i64 e.s.y]

theorem edit_cells {w : World} {b : Nat} {x0 x1 x2 x3 x4 x5 : Value} {T : TypeId} (h : w.heap[b]? = some (.cells #[x0, x1, x2, x3, x4, x5] T (0, 0))) :
    w.cell? ⟨b, 3, none⟩ = some x3 ∧ w.cell? ⟨b, 4, none⟩ = some x4 ∧ w.cell? ⟨b, 5, none⟩ = some x5 := by
  refine ⟨?_, ?_, ?_⟩ <;> simp [World.cell?, h]
theorem edit_cells0 {w : World} {b : Nat} {x0 x1 x2 x3 x4 x5 : Value} {T : TypeId} (h : w.heap[b]? = some (.cells #[x0, x1, x2, x3, x4, x5] T (0, 0))) :
    w.cell? ⟨b, 0, none⟩ = some x0 ∧ w.cell? ⟨b, 1, none⟩ = some x1 ∧ w.cell? ⟨b, 2, none⟩ = some x2 := by
  refine ⟨?_, ?_, ?_⟩ <;> simp [World.cell?, h]

def placeB (ps : List (List Stm)) (pr a : Int) : Bool := wiB pr ps.length && wiB a (ps.getD pr.toNat []).length

theorem wiB_true {x n : Int} (h : wiB x n = true) : 0 ≤ x ∧ x < n := by unfold wiB at h; simpa using h

theorem hasPlace (ps : List (List Stm)) (pr a : Int) (v : Value) (w : World) (hl : ps.length ≤ 100) (hp : ∀ p ∈ ps, p.length ≤ 100) (hv : ReadsP w v ps) :
    Calls Try.prog 54 #[.agg #[v], .int .i64 pr, .int .i64 a] w fun e w' => e = .returned (.bool (placeB ps pr a)) ∧ Below w.heap.size w w' := by
  obtain ⟨ao, cap, rfl, hc⟩ := hv
  have hw1 := within pr ps.length
  unfold placeB
  cases hb : wiB pr ps.length
  · rw [hb] at hw1
    go_enter Try.func54, Try.ntmps54
    go_wp2_with (go_at_call 42; refine (hw1 _).mono ?_; rintro e w2 ⟨rfl, rfl⟩)
    go_ret
    exact ⟨rfl, by go_grown⟩
  · rw [hb] at hw1
    obtain ⟨h0, h1⟩ := wiB_true hb
    obtain ⟨i, rfl⟩ : ∃ i : Nat, pr = i := ⟨pr.toNat, by omega⟩
    have hi : i < ps.length := by omega
    have hgd : ps.getD i [] = ps[i] := by simp [List.getD, hi]
    rw [show ((i : Int)).toNat = i from rfl, hgd]
    obtain ⟨g, off, u, rfl, q0, r0⟩ := hc i ps[i] (by simp [hi])
    have hpl := hp ps[i] (List.getElem_mem hi)
    have hz := World.block_lt_of_cell? w _ q0
    have hw2 := within a ps[i].length
    obtain ⟨ua, uc, rfl, _⟩ := r0
    clear hc hgd
    generalize ps[i].length = n at *
    have q1 : (w.alloc (.cells #[.slice (some ⟨g, off, none⟩) ps.length cap] 26)).cell? ⟨g, off + i, none⟩ = some (.slice ua n uc) := (Below.cell (Below.alloc (Below.refl _ w) (Nat.le_refl _) _) hz).trans q0
    go_enter Try.func54, Try.ntmps54
    go_wp2_with fail
    go_at_call 42
    refine (hw1 _).mono ?_
    rintro e w2 ⟨rfl, rfl⟩
    go_wp2_with fail
    go_at_call 42
    refine (hw2 _).mono ?_
    rintro e w3 ⟨rfl, rfl⟩
    go_wp2
    go_ret
    exact ⟨by simp, by go_grown⟩

/-- What editOk answers. -/
def editB (ps : List (List Stm)) (e : Edt) : Bool :=
  if e.k = 1 ∨ e.k = 2 then placeB ps e.pr e.a
  else if e.k = 3 then placeB ps e.pr e.a && zeroS e.s
  else if e.k = 4 then decide (e.pr = 0) && decide (e.a = 0) && zeroS e.s
  else false

theorem editOk (ps : List (List Stm)) (e : Edt) (v : Value) (w : World) (hl : ps.length ≤ 100) (hp : ∀ p ∈ ps, p.length ≤ 100) (hv : ReadsP w v ps) :
    Calls Try.prog 45 #[.agg #[v], edV e] w fun r w' => r = .returned (.bool (editB ps e)) ∧ Below w.heap.size w w' := by
  obtain ⟨k, pr, a, ⟨sk, sx, sy⟩⟩ := e
  unfold edV editB zeroS
  simp only
  have hpl := hasPlace ps pr a v
  rcases (by omega : k = 1 ∨ k = 2 ∨ k = 3 ∨ k = 4 ∨ (k ≠ 1 ∧ k ≠ 2 ∧ k ≠ 3 ∧ k ≠ 4)) with rfl | rfl | rfl | rfl | ⟨h1, h2, h3, h4⟩
  · simp only [true_or, if_true]
    obtain ⟨ao, cap, rfl, hc⟩ := id hv
    go_enter Try.func45, Try.ntmps45
    go_wp2_with (go_at_call 54; refine (hpl _ hl hp (readsP_below hv (by go_grown))).mono ?_; rintro e w2 ⟨rfl, b2⟩)
    go_ret
    exact ⟨rfl, Below.trans (by go_grown) (b2.mono (by simp; omega))⟩
  · simp only [or_true, if_true]
    obtain ⟨ao, cap, rfl, hc⟩ := id hv
    go_enter Try.func45, Try.ntmps45
    go_wp2_with (go_at_call 54; refine (hpl _ hl hp (readsP_below hv (by go_grown))).mono ?_; rintro e w2 ⟨rfl, b2⟩)
    go_ret
    exact ⟨rfl, Below.trans (by go_grown) (b2.mono (by simp; omega))⟩
  · simp only [Int.reduceEq, or_self, if_false, if_true]
    obtain ⟨ao, cap, rfl, hc⟩ := id hv
    cases hb : placeB ps pr a
    · rw [hb] at hpl
      go_enter Try.func45, Try.ntmps45
      go_wp2_with (go_at_call 54; refine (hpl _ hl hp (readsP_below hv (by go_grown))).mono ?_; rintro e w2 ⟨rfl, b2⟩)
      go_ret
      exact ⟨rfl, Below.trans (by go_grown) (b2.mono (by simp; omega))⟩
    · rw [hb] at hpl
      go_enter Try.func45, Try.ntmps45
      go_wp2_with fail
      go_at_call 54
      refine (hpl _ hl hp (readsP_below hv (by go_grown))).mono ?_
      rintro e w2 ⟨rfl, b2⟩
      have hB : Below w.heap.size w w2 := Below.trans (by go_grown) (b2.mono (by simp; omega))
      have HB : Hid _ := hB
      have hE : ∀ W, _ := fun W => equal_stmt W sk sx sy 0 0 0
      have hEB : w2.heap[w.heap.size + 1]? = some (.cells #[.int .i64 3, .int .i64 pr, .int .i64 a, .int .i64 sk, .int .i64 sx, .int .i64 sy] 47 (0, 0)) := by
        refine (b2.block _ (by simp)).trans ?_
        have := heap_alloc_new (w.alloc (.cells #[.slice ao ps.length cap] 26)) (.cells #[.int .i64 3, .int .i64 pr, .int .i64 a, .int .i64 sk, .int .i64 sx, .int .i64 sy] 47)
        simpa using this
      obtain ⟨c3, c4, c5⟩ := edit_cells hEB
      clear hB b2 hEB
      go_wp2
      all_goals
        go_ret
        exact ⟨by simp [*], HB.out⟩
  · simp only [Int.reduceEq, or_self, if_false, if_true]
    obtain ⟨ao, cap, rfl, hc⟩ := id hv
    go_enter Try.func45, Try.ntmps45
    go_wp2
    all_goals
      go_ret
      exact ⟨by simp [*], by go_grown⟩
  · simp only [h1, h2, h3, h4, or_self, if_false]
    have h1' : (k == 1) = false := by simpa using h1
    have h2' : (k == 2) = false := by simpa using h2
    have h3' : (k == 3) = false := by simpa using h3
    have h4' : (k == 4) = false := by simpa using h4
    obtain ⟨ao, cap, rfl, hc⟩ := id hv
    go_enter Try.func45, Try.ntmps45
    go_wp2
    go_ret
    exact ⟨rfl, by go_grown⟩

end Go.Proofs.Ytoflfeegllpifaa
