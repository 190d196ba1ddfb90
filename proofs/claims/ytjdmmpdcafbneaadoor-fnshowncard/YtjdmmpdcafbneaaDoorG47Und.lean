/-
  Put together out of: LawEdSt, OpenEdit, UndM, Und.
-/
import Derived.Test.YtjdmmpdcafbneaaDoorHeldProg
import Derived.Test.YtjdmmpdcafbneaaDoorG12Progs
import Derived.BigRegion
/-
  What the laws on Edits have in hand.
-/
namespace Go.Proofs.YtjdmmpdcafbneaaDoor
open Go.RowKit
set_option linter.unusedVariables false
set_option linter.unusedSimpArgs false
set_option maxHeartbeats 2000000

theorem edited13_small (ps : List (List Stm)) (k pr a : Int) (s : Stm) : ((edited13 ps k pr a s).getD []).length ≤ 1048576 ∧ ∀ p ∈ (edited13 ps k pr a s).getD [], p.length ≤ 1048576 := by
  cases h : edited13 ps k pr a s with
  | none => simp
  | some qs =>
    have hq : programOk qs = true := by
      unfold edited13 at h
      by_cases h1 : programOk ps = true
      · rw [if_pos h1] at h
        cases h2 : made13 ps k pr a s with
        | none => rw [h2] at h; cases h
        | some rs =>
          rw [h2] at h
          simp only at h
          by_cases h3 : programOk rs = true
          · rw [if_pos h3] at h
            cases h
            exact h3
          · rw [if_neg h3] at h
            cases h
      · rw [if_neg h1] at h
        cases h
    obtain ⟨h1, h2, h3⟩ := progs13 hq
    simp only [Option.getD_some]
    exact ⟨by omega, fun p hp => by have := (procs13 (h3 p hp)).2.1; omega⟩

/-- Rows that lie elsewhere stay where others are marked. -/
theorem Own13.marks {w w' : World} {base top b : Nat} {v : Value} {us : List Value} {ps : List (List Stm)} (h : Own13 w b v us ps) (hm : Marks base top w w') (hb : (∀ k, b ≤ k → k < w.heap.size → k < base ∨ top ≤ k)) : Own13 w' b v us ps :=
  ⟨own_marks h.row hm (fun k hk => hb k (h.row.lt k hk).1 (h.row.lt k hk).2), fun j u p h1 h2 => own_marks (h.each j u p h1 h2) hm (fun k hk => hb k ((h.each j u p h1 h2).lt k hk).1 ((h.each j u p h1 h2).lt k hk).2), h.ap⟩

theorem later13 {G : Prop} {F R : Nat → Value → Value → World → Prop} (h : (∀ X u x y, F X u x y → R X u x y) → G) (k : ∀ X u x y, F X u x y → R X u x y) : G := h k
theorem later13b {G : Prop} {F R : Nat → Value → World → Prop} (h : (∀ X x y, F X x y → R X x y) → G) (k : ∀ X x y, F X x y → R X x y) : G := h k

theorem ownP_marks {w w' : World} {base top b t : Nat} {v : Value} {ps : List (List Stm)} (h : OwnP w b t v ps) (hm : Marks base top w w') (hd : t ≤ base ∨ top ≤ b) : OwnP w' b t v ps := by
  obtain ⟨us, ho, ht, hu⟩ := h
  refine ⟨us, own_marks ho hm (fun k hk => ?_), ht, fun j x p h1 h2 => ⟨own_marks (hu j x p h1 h2).1 hm (fun k hk => ?_), (hu j x p h1 h2).2⟩⟩
  · have h1 := ht k hk
    have h2 := (ho.lt k hk).1
    omega
  · have h3 := (hu j x p h1 h2).2 k hk
    have h4 := ((hu j x p h1 h2).1.lt k hk).1
    omega

theorem ownP_belowB {w w' : World} {B b t : Nat} {v : Value} {ps : List (List Stm)} (h : OwnP w b t v ps) (hb : Below B w w') (hd : t ≤ B) : OwnP w' b t v ps := by
  obtain ⟨us, ho, ht, hu⟩ := h
  refine ⟨us, own_below ho hb (fun k hk => ?_), ht, fun j x p h1 h2 => ⟨own_below (hu j x p h1 h2).1 hb (fun k hk => ?_), (hu j x p h1 h2).2⟩⟩
  · have h1 := ht k hk
    omega
  · have h3 := (hu j x p h1 h2).2 k hk
    omega

end Go.Proofs.YtjdmmpdcafbneaaDoor

/-
  An Edit that came in, opened.
-/
namespace Go.Proofs.YtjdmmpdcafbneaaDoor
open Go.ChangeShapes Go.WideShapes Go.ChangeAt Go.RowKit
set_option linter.unusedVariables false
set_option maxRecDepth 100000
set_option maxHeartbeats 4000000

end Go.Proofs.YtjdmmpdcafbneaaDoor

/-
  Chapter 13: what Undone answers; slices.Contains over statements; impl.comesBack; impl.Undone, spec.Undone.
-/
namespace Go.Proofs.YtjdmmpdcafbneaaDoor
open Go.RowKit
set_option linter.unusedVariables false
set_option linter.unusedSimpArgs false
set_option maxHeartbeats 4000000
set_option maxRecDepth 20000

def eqSt (a b : Stm) : Bool := decide (a.k = b.k) && decide (a.x = b.x) && decide (a.y = b.y)

/-- Does a jump go there? -/
def jumpTo (p : List Stm) (a : Int) : Bool := p.any (fun s => decide (s.k = 7) && decide (s.y = a))

theorem jumpTo_eq {p : List Stm} (h : procOk p = true) (a : Int) : p.any (eqSt ⟨7, 0, a⟩) = jumpTo p a := by
  unfold jumpTo
  rw [Bool.eq_iff_iff, List.any_eq_true, List.any_eq_true]
  constructor
  · rintro ⟨s, hs, he⟩
    refine ⟨s, hs, ?_⟩
    unfold eqSt at he
    simp only [Bool.and_eq_true, decide_eq_true_eq] at he ⊢
    exact ⟨he.1.1.symm, he.2.symm⟩
  · rintro ⟨s, hs, he⟩
    refine ⟨s, hs, ?_⟩
    simp only [Bool.and_eq_true, decide_eq_true_eq] at he
    have hx : s.x = 0 := by
      have hk := procOk_stm h hs
      rw [he.1] at hk
      unfold stmtOk inB at hk
      simp at hk
      omega
    unfold eqSt
    simp [he.1, he.2, hx]

end Go.Proofs.YtjdmmpdcafbneaaDoor

/-
  impl.Undone, spec.Undone.
-/
namespace Go.Proofs.YtjdmmpdcafbneaaDoor
open Go.RowKit
set_option linter.unusedVariables false
set_option linter.unusedSimpArgs false
set_option maxHeartbeats 8000000
set_option maxRecDepth 20000

/-- What Undone answers; none: false. -/
def undone13 (ps : List (List Stm)) (e : Edt) : Option Edt :=
  if (edited13 ps e.k e.pr e.a e.s).isSome then
    (if e.k = 1 then some ⟨1, e.pr, e.a, (ps.getD e.pr.toNat []).getD e.a.toNat ⟨0, 0, 0⟩⟩
     else if e.k = 2 then some ⟨3, e.pr, e.a, ⟨0, 0, 0⟩⟩
     else if e.k = 3 then (if decide (e.a < ((ps.getD e.pr.toNat []).length : Int) - 1) && !jumpTo (ps.getD e.pr.toNat []) e.a then some ⟨2, e.pr, e.a, (ps.getD e.pr.toNat []).getD e.a.toNat ⟨0, 0, 0⟩⟩ else none)
     else none)
  else none

def zeroE : Edt := ⟨0, 0, 0, ⟨0, 0, 0⟩⟩

theorem edited13_place {ps : List (List Stm)} {k pr a : Int} {s : Stm} (h : (edited13 ps k pr a s).isSome = true) : programOk ps = true ∧ (k = 1 ∨ k = 2 ∨ k = 3 ∨ k = 4) ∧ ∃ (i j : Nat) (hi : i < ps.length), pr = i ∧ a = j ∧ j < ps[i].length := by
  unfold edited13 at h
  by_cases h1 : programOk ps = true
  · rw [if_pos h1] at h
    refine ⟨h1, ?_⟩
    obtain ⟨hl1, hl4, hpo⟩ := progs13 h1
    cases hm : made13 ps k pr a s with
    | none => rw [hm] at h; cases h
    | some qs =>
      unfold made13 at hm
      by_cases h4 : k = 4
      · rw [if_pos h4] at hm
        split at hm
        · rename_i hz
          obtain ⟨rfl, rfl, _⟩ := hz
          exact ⟨.inr (.inr (.inr h4)), 0, 0, by omega, rfl, rfl, (procs13 (hpo ps[0] (List.getElem_mem (by omega)))).1⟩
        · cases hm
      · rw [if_neg h4] at hm
        by_cases hp : (wiB pr ps.length && wiB a (ps.getD pr.toNat []).length) = true
        · rw [if_pos hp] at hm
          simp only [Bool.and_eq_true] at hp
          obtain ⟨y0, y1⟩ := wiB_true hp.1
          obtain ⟨y2, y3⟩ := wiB_true hp.2
          have hi : pr.toNat < ps.length := by omega
          have hgd : ps.getD pr.toNat [] = ps[pr.toNat] := by simp [List.getD, hi]
          rw [hgd] at y3
          refine ⟨?_, pr.toNat, a.toNat, hi, by omega, by omega, by omega⟩
          by_cases e1 : k = 1
          · exact .inl e1
          · by_cases e2 : k = 2
            · exact .inr (.inl e2)
            · by_cases e3 : k = 3
              · exact .inr (.inr (.inl e3))
              · simp [e1, e2, e3] at hm
        · rw [if_neg hp] at hm
          cases hm
  · rw [if_neg h1] at h
    cases h

theorem six_set {w : World} {b : Nat} {T : TypeId} {x0 x1 x2 x3 x4 x5 : Value} (y0 y1 y2 y3 y4 y5 : Value) (h : w.heap[b]? = some (.cells #[x0, x1, x2, x3, x4, x5] T (0, 0))) :
    ((((((w.setCell ⟨b, 0, none⟩ y0).setCell ⟨b, 1, none⟩ y1).setCell ⟨b, 2, none⟩ y2).setCell ⟨b, 3, none⟩ y3).setCell ⟨b, 4, none⟩ y4).setCell ⟨b, 5, none⟩ y5).heap[b]? = some (.cells #[y0, y1, y2, y3, y4, y5] T (0, 0)) := by
  have h0 := heap_setCell_same w b 0 _ _ y0 h
  have h1 := heap_setCell_same _ b 1 _ _ y1 h0
  have h2 := heap_setCell_same _ b 2 _ _ y2 h1
  have h3 := heap_setCell_same _ b 3 _ _ y3 h2
  have h4 := heap_setCell_same _ b 4 _ _ y4 h3
  have h5 := heap_setCell_same _ b 5 _ _ y5 h4
  rw [h5]
  simp

theorem below_six {B b : Nat} {w0 w : World} (h : Below B w0 w) (hB : B ≤ b) (y0 y1 y2 y3 y4 y5 : Value) : Below B w0 ((((((w.setCell ⟨b, 0, none⟩ y0).setCell ⟨b, 1, none⟩ y1).setCell ⟨b, 2, none⟩ y2).setCell ⟨b, 3, none⟩ y3).setCell ⟨b, 4, none⟩ y4).setCell ⟨b, 5, none⟩ y5) :=
  (((((h.setCell hB _).setCell hB _).setCell hB _).setCell hB _).setCell hB _).setCell hB _

end Go.Proofs.YtjdmmpdcafbneaaDoor
