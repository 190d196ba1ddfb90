/-
  Put together out of: Spl, Spl2, Cloned, EqT, EditOk.
-/
import Derived.Test.YtjdmmpdcafbneaaDoorG22EditM
import Derived.ArgAppend
/-
  impl.spliced: jumps moved, then slices.Replace.
-/
namespace Go.Proofs.YtjdmmpdcafbneaaDoor
open Go.RowKit
set_option linter.unusedVariables false
set_option linter.unusedSimpArgs false
set_option maxHeartbeats 4000000
set_option maxRecDepth 20000

/-- What slices.Replace makes of a row in block g. -/
def RepAt (g base n' : Nat) (R : List Stm) (W : World) (e : Ending) (w' : World) : Prop :=
  ∃ q c', e = .returned (.slice (some ⟨q, 0, none⟩) n' c') ∧ w'.ownsRow base 42 3 (.slice (some ⟨q, 0, none⟩) n' c') n' (cells3 R) ∧ W.grownBy w' (some g) ∧ (q = g ∨ W.heap.size ≤ q)

theorem grown_setRow13 (w : World) (b o : Nat) (v : Value) : w.grownBy (w.setCell ⟨b, o, none⟩ v) (some b) :=
  ⟨rfl, rfl, rfl, by simp [World.setCell], fun k _ hk => Below.heap_setCell w ⟨b, o, none⟩ v k (fun e => hk (by rw [e]))⟩

end Go.Proofs.YtjdmmpdcafbneaaDoor

/-
  impl.spliced: one in place of one, one more, one that goes; slices.Clone of statements and of procedures; impl.clonedProcs.
-/
namespace Go.Proofs.YtjdmmpdcafbneaaDoor
open Go.RowKit
set_option linter.unusedVariables false
set_option linter.unusedSimpArgs false
set_option maxHeartbeats 4000000
set_option maxRecDepth 20000

/-- What spliced answers. -/
def SplAt (g base : Nat) (R : List Stm) (w : World) (e : Ending) (w' : World) : Prop :=
  ∃ q c', e = .returned (.agg #[.slice (some ⟨q, 0, none⟩) R.length c']) ∧ w'.ownsRow base 42 3 (.slice (some ⟨q, 0, none⟩) R.length c') R.length (cells3 R) ∧ w.grownBy w' (some g) ∧ (q = g ∨ w.heap.size ≤ q)

end Go.Proofs.YtjdmmpdcafbneaaDoor

/-
  impl.clonedProcs: rows of its own, apart.
-/
namespace Go.Proofs.YtjdmmpdcafbneaaDoor
open Go.RowKit
set_option linter.unusedVariables false
set_option linter.unusedSimpArgs false
set_option maxHeartbeats 4000000
set_option maxRecDepth 20000

theorem readsP_vals {w : World} {v : Value} {ps : List (List Stm)} (h : ReadsP w v ps) : ∃ us : List Value, us.length = ps.length ∧ Reads w v us ∧ (∀ u ∈ us, u.oneCell' = true) ∧ ∀ (j : Nat) (u : Value) (p : List Stm), us[j]? = some u → ps[j]? = some p → Reads3 w u p := by
  obtain ⟨ao, cap, rfl, hc⟩ := h
  have each : ∀ i, i < ps.length → ∃ u : Value, (∃ g off, ao = some ⟨g, off, none⟩ ∧ w.cell? ⟨g, off + i, none⟩ = some u) ∧ (∃ a m c, u = .slice a m c) ∧ ∀ p, ps[i]? = some p → Reads3 w u p := fun i hi => by
    obtain ⟨g, off, u, e, hcell, hr⟩ := hc i ps[i] (by simp [hi])
    refine ⟨u, ⟨g, off, e, hcell⟩, reads3_slice hr, fun p hp => ?_⟩
    rw [List.getElem?_eq_getElem hi] at hp
    cases hp
    exact hr
  obtain ⟨us, hl, hq⟩ := list_of ps.length each
  refine ⟨us, hl, ⟨ao, cap, by rw [hl], fun j x hx => ?_⟩, fun u hu => ?_, fun j u p h1 h2 => (hq j u h1).2.2 p h2⟩
  · exact (hq j x hx).1
  · obtain ⟨j, hj⟩ := List.getElem?_of_mem hu
    obtain ⟨a, m, c, rfl⟩ := (hq j u hj).2.1
    rfl

theorem kind13 {w : World} {b b' : Nat} {e e' : TypeId} {s s' n n' : Nat} {v v' : Value} {xs xs' : List Value} (h : w.ownsRow b e s v n xs) (h' : w.ownsRow b' e' s' v' n' xs') (hne : e ≠ e') : ∀ k, v.ownBlock = some k → v'.ownBlock ≠ some k := by
  intro k hk hk'
  rcases h.2 with ⟨rfl, _⟩ | ⟨g, cap, cur, rfl, _, hg, _⟩
  · cases hk
  · rcases h'.2 with ⟨rfl, _⟩ | ⟨g', cap', cur', rfl, _, hg', _⟩
    · cases hk'
    · obtain rfl : g = k := Option.some.inj hk
      obtain rfl : g' = g := Option.some.inj hk'
      rw [hg] at hg'
      simp at hg'
      exact hne hg'.2

theorem own_put13 {w : World} {base : Nat} {e : TypeId} {g n cap : Nat} {xs : List Value} (h : w.ownsRow base e 1 (.slice (some ⟨g, 0, none⟩) n cap) n xs) (j : Nat) (u : Value) : (w.setCell ⟨g, j, none⟩ u).ownsRow base e 1 (.slice (some ⟨g, 0, none⟩) n cap) n (xs.set j u) := (h.stored j u).1

theorem set_mid13 (vs us : List Value) (u : Value) (j : Nat) (hj : vs.length = j) (hl : j < us.length) : (vs ++ us.drop j).set j u = (vs ++ [u]) ++ us.drop (j + 1) := by
  subst hj
  rw [List.set_append_right _ _ (Nat.le_refl _), Nat.sub_self, List.drop_eq_getElem_cons hl, List.set_cons_zero, List.append_assoc]
  rfl

end Go.Proofs.YtjdmmpdcafbneaaDoor

/-
  == of two statements, of two Edits.
-/
namespace Go.Proofs.YtjdmmpdcafbneaaDoor
open Go.RowKit
set_option maxRecDepth 20000
set_option maxHeartbeats 1000000
set_option linter.unusedVariables false
set_option linter.unusedSimpArgs false

theorem equal_stmtD (d : Nat) (w : World) (a b c x y z : Int) : (Op.equalIn (d + 1 + 1) 42 (.agg #[.int .i64 a, .int .i64 b, .int .i64 c]) (.agg #[.int .i64 x, .int .i64 y, .int .i64 z])).run Tryd.prog w = .ok (decide (a = x) && decide (b = y) && decide (c = z)) w := by
  have u3 := Tryd.underlying2
  have hS : Tryd.prog.underlying 42 = some (.struct (Tryd.prog.fieldsOf 42)) := by kernel_rfl
  rw [run_equalIn_struct w (d + 1) 42 _ _ hS (by kernel_rfl)]
  simp only [Program.fieldsOf, Tryd.underlying42]
  go_simp
  by_cases h1 : a = x <;> by_cases h2 : b = y <;> by_cases h3 : c = z <;> simp [h1, h2, h3]

theorem equal_stmt (w : World) (a b c x y z : Int) : (Op.equalIn 10000 42 (.agg #[.int .i64 a, .int .i64 b, .int .i64 c]) (.agg #[.int .i64 x, .int .i64 y, .int .i64 z])).run Tryd.prog w = .ok (decide (a = x) && decide (b = y) && decide (c = z)) w := equal_stmtD 9998 w a b c x y z

end Go.Proofs.YtjdmmpdcafbneaaDoor

/-
  impl.hasPlace, impl.editOk.
-/
namespace Go.Proofs.YtjdmmpdcafbneaaDoor
open Go.RowKit
set_option linter.unusedVariables false
set_option linter.unusedSimpArgs false
set_option maxHeartbeats 4000000
set_option maxRecDepth 20000

/-- An Edit. -/
structure Edt where
  k : Int
  pr : Int
  a : Int
  s : Stm

def edV (e : Edt) : Value := .agg #[.int .i64 e.k, .int .i64 e.pr, .int .i64 e.a, .int .i64 e.s.k, .int .i64 e.s.x, .int .i64 e.s.y]

theorem edit_cells {w : World} {b : Nat} {x0 x1 x2 x3 x4 x5 : Value} {T : TypeId} (h : w.heap[b]? = some (.cells #[x0, x1, x2, x3, x4, x5] T (0, 0))) :
    w.cell? ⟨b, 3, none⟩ = some x3 ∧ w.cell? ⟨b, 4, none⟩ = some x4 ∧ w.cell? ⟨b, 5, none⟩ = some x5 := by
  refine ⟨?_, ?_, ?_⟩ <;> simp [World.cell?, h]
theorem edit_cells0 {w : World} {b : Nat} {x0 x1 x2 x3 x4 x5 : Value} {T : TypeId} (h : w.heap[b]? = some (.cells #[x0, x1, x2, x3, x4, x5] T (0, 0))) :
    w.cell? ⟨b, 0, none⟩ = some x0 ∧ w.cell? ⟨b, 1, none⟩ = some x1 ∧ w.cell? ⟨b, 2, none⟩ = some x2 := by
  refine ⟨?_, ?_, ?_⟩ <;> simp [World.cell?, h]

def placeB (ps : List (List Stm)) (pr a : Int) : Bool := wiB pr ps.length && wiB a (ps.getD pr.toNat []).length

theorem wiB_true {x n : Int} (h : wiB x n = true) : 0 ≤ x ∧ x < n := by unfold wiB at h; simpa using h

/-- What editOk answers. -/
def editB (ps : List (List Stm)) (e : Edt) : Bool :=
  if e.k = 1 ∨ e.k = 2 then placeB ps e.pr e.a
  else if e.k = 3 then placeB ps e.pr e.a && zeroS e.s
  else if e.k = 4 then decide (e.pr = 0) && decide (e.a = 0) && zeroS e.s
  else false

end Go.Proofs.YtjdmmpdcafbneaaDoor
