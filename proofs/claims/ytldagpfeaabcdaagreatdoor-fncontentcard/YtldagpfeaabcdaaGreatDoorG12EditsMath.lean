/-
  Put together out of: LawEdSt, OpenEdit, UndM, Und, EditsMath.
-/
import Derived.Test.YtldagpfeaabcdaaGreatDoorG11HeldProg
import Derived.Test.YtldagpfeaabcdaaGreatDoorG02ProgOk
import Derived.BigRegion
/-
  What the laws on Edits have in hand.
-/
namespace Go.Proofs.YtldagpfeaabcdaaGreatDoor
open Go.RowKit
set_option linter.unusedVariables false
set_option linter.unusedSimpArgs false
set_option maxHeartbeats 2000000

theorem edited13_small (ps : List (List Stm)) (k pr a : Int) (s : Stm) : ((edited13 ps k pr a s).getD []).length ≤ 1048576 ∧ ∀ p ∈ (edited13 ps k pr a s).getD [], p.length ≤ 1048576 := by
  cases h : edited13 ps k pr a s with
  | none => simp
  | some qs =>
    have hq : programOk qs = true := by
      unfold edited13 at h
      by_cases h1 : programOk ps = true
      · rw [if_pos h1] at h
        cases h2 : made13 ps k pr a s with
        | none => rw [h2] at h; cases h
        | some rs =>
          rw [h2] at h
          simp only at h
          by_cases h3 : programOk rs = true
          · rw [if_pos h3] at h
            cases h
            exact h3
          · rw [if_neg h3] at h
            cases h
      · rw [if_neg h1] at h
        cases h
    obtain ⟨h1, h2, h3⟩ := progs13 hq
    simp only [Option.getD_some]
    exact ⟨by omega, fun p hp => by have := (procs13 (h3 p hp)).2.1; omega⟩

/-- Rows that lie elsewhere stay where others are marked. -/
theorem Own13.marks {w w' : World} {base top b : Nat} {v : Value} {us : List Value} {ps : List (List Stm)} (h : Own13 w b v us ps) (hm : Marks base top w w') (hb : (∀ k, b ≤ k → k < w.heap.size → k < base ∨ top ≤ k)) : Own13 w' b v us ps :=
  ⟨own_marks h.row hm (fun k hk => hb k (h.row.lt k hk).1 (h.row.lt k hk).2), fun j u p h1 h2 => own_marks (h.each j u p h1 h2) hm (fun k hk => hb k ((h.each j u p h1 h2).lt k hk).1 ((h.each j u p h1 h2).lt k hk).2), h.ap⟩

theorem later13 {G : Prop} {F R : Nat → Value → Value → World → Prop} (h : (∀ X u x y, F X u x y → R X u x y) → G) (k : ∀ X u x y, F X u x y → R X u x y) : G := h k
theorem later13b {G : Prop} {F R : Nat → Value → World → Prop} (h : (∀ X x y, F X x y → R X x y) → G) (k : ∀ X x y, F X x y → R X x y) : G := h k

theorem ownP_marks {w w' : World} {base top b t : Nat} {v : Value} {ps : List (List Stm)} (h : OwnP w b t v ps) (hm : Marks base top w w') (hd : t ≤ base ∨ top ≤ b) : OwnP w' b t v ps := by
  obtain ⟨us, ho, ht, hu⟩ := h
  refine ⟨us, own_marks ho hm (fun k hk => ?_), ht, fun j x p h1 h2 => ⟨own_marks (hu j x p h1 h2).1 hm (fun k hk => ?_), (hu j x p h1 h2).2⟩⟩
  · have h1 := ht k hk
    have h2 := (ho.lt k hk).1
    omega
  · have h3 := (hu j x p h1 h2).2 k hk
    have h4 := ((hu j x p h1 h2).1.lt k hk).1
    omega

theorem ownP_belowB {w w' : World} {B b t : Nat} {v : Value} {ps : List (List Stm)} (h : OwnP w b t v ps) (hb : Below B w w') (hd : t ≤ B) : OwnP w' b t v ps := by
  obtain ⟨us, ho, ht, hu⟩ := h
  refine ⟨us, own_below ho hb (fun k hk => ?_), ht, fun j x p h1 h2 => ⟨own_below (hu j x p h1 h2).1 hb (fun k hk => ?_), (hu j x p h1 h2).2⟩⟩
  · have h1 := ht k hk
    omega
  · have h3 := (hu j x p h1 h2).2 k hk
    omega

end Go.Proofs.YtldagpfeaabcdaaGreatDoor

/-
  An Edit that came in, opened.
-/
namespace Go.Proofs.YtldagpfeaabcdaaGreatDoor
open Go.ChangeShapes Go.WideShapes Go.ChangeAt Go.RowKit
set_option linter.unusedVariables false
set_option maxRecDepth 100000
set_option maxHeartbeats 4000000

end Go.Proofs.YtldagpfeaabcdaaGreatDoor

/-
  Chapter 13: what Undone answers; slices.Contains over statements; impl.comesBack; impl.Undone, spec.Undone.
-/
namespace Go.Proofs.YtldagpfeaabcdaaGreatDoor
open Go.RowKit
set_option linter.unusedVariables false
set_option linter.unusedSimpArgs false
set_option maxHeartbeats 4000000
set_option maxRecDepth 20000

def eqSt (a b : Stm) : Bool := decide (a.k = b.k) && decide (a.x = b.x) && decide (a.y = b.y)

/-- Does a jump go there? -/
def jumpTo (p : List Stm) (a : Int) : Bool := p.any (fun s => decide (s.k = 7) && decide (s.y = a))

theorem jumpTo_eq {p : List Stm} (h : procOk p = true) (a : Int) : p.any (eqSt ⟨7, 0, a⟩) = jumpTo p a := by
  unfold jumpTo
  rw [Bool.eq_iff_iff, List.any_eq_true, List.any_eq_true]
  constructor
  · rintro ⟨s, hs, he⟩
    refine ⟨s, hs, ?_⟩
    unfold eqSt at he
    simp only [Bool.and_eq_true, decide_eq_true_eq] at he ⊢
    exact ⟨he.1.1.symm, he.2.symm⟩
  · rintro ⟨s, hs, he⟩
    refine ⟨s, hs, ?_⟩
    simp only [Bool.and_eq_true, decide_eq_true_eq] at he
    have hx : s.x = 0 := by
      have hk := procOk_stm h hs
      rw [he.1] at hk
      unfold stmtOk inB at hk
      simp at hk
      omega
    unfold eqSt
    simp [he.1, he.2, hx]

end Go.Proofs.YtldagpfeaabcdaaGreatDoor

/-
  impl.Undone, spec.Undone.
-/
namespace Go.Proofs.YtldagpfeaabcdaaGreatDoor
open Go.RowKit
set_option linter.unusedVariables false
set_option linter.unusedSimpArgs false
set_option maxHeartbeats 8000000
set_option maxRecDepth 20000

/-- What Undone answers; none: false. -/
def undone13 (ps : List (List Stm)) (e : Edt) : Option Edt :=
  if (edited13 ps e.k e.pr e.a e.s).isSome then
    (if e.k = 1 then some ⟨1, e.pr, e.a, (ps.getD e.pr.toNat []).getD e.a.toNat ⟨0, 0, 0⟩⟩
     else if e.k = 2 then some ⟨3, e.pr, e.a, ⟨0, 0, 0⟩⟩
     else if e.k = 3 then (if decide (e.a < ((ps.getD e.pr.toNat []).length : Int) - 1) && !jumpTo (ps.getD e.pr.toNat []) e.a then some ⟨2, e.pr, e.a, (ps.getD e.pr.toNat []).getD e.a.toNat ⟨0, 0, 0⟩⟩ else none)
     else none)
  else none

def zeroE : Edt := ⟨0, 0, 0, ⟨0, 0, 0⟩⟩

theorem edited13_place {ps : List (List Stm)} {k pr a : Int} {s : Stm} (h : (edited13 ps k pr a s).isSome = true) : programOk ps = true ∧ (k = 1 ∨ k = 2 ∨ k = 3 ∨ k = 4) ∧ ∃ (i j : Nat) (hi : i < ps.length), pr = i ∧ a = j ∧ j < ps[i].length := by
  unfold edited13 at h
  by_cases h1 : programOk ps = true
  · rw [if_pos h1] at h
    refine ⟨h1, ?_⟩
    obtain ⟨hl1, hl4, hpo⟩ := progs13 h1
    cases hm : made13 ps k pr a s with
    | none => rw [hm] at h; cases h
    | some qs =>
      unfold made13 at hm
      by_cases h4 : k = 4
      · rw [if_pos h4] at hm
        split at hm
        · rename_i hz
          obtain ⟨rfl, rfl, _⟩ := hz
          exact ⟨.inr (.inr (.inr h4)), 0, 0, by omega, rfl, rfl, (procs13 (hpo ps[0] (List.getElem_mem (by omega)))).1⟩
        · cases hm
      · rw [if_neg h4] at hm
        by_cases hp : (wiB pr ps.length && wiB a (ps.getD pr.toNat []).length) = true
        · rw [if_pos hp] at hm
          simp only [Bool.and_eq_true] at hp
          obtain ⟨y0, y1⟩ := wiB_true hp.1
          obtain ⟨y2, y3⟩ := wiB_true hp.2
          have hi : pr.toNat < ps.length := by omega
          have hgd : ps.getD pr.toNat [] = ps[pr.toNat] := by simp [List.getD, hi]
          rw [hgd] at y3
          refine ⟨?_, pr.toNat, a.toNat, hi, by omega, by omega, by omega⟩
          by_cases e1 : k = 1
          · exact .inl e1
          · by_cases e2 : k = 2
            · exact .inr (.inl e2)
            · by_cases e3 : k = 3
              · exact .inr (.inr (.inl e3))
              · simp [e1, e2, e3] at hm
        · rw [if_neg hp] at hm
          cases hm
  · rw [if_neg h1] at h
    cases h

theorem six_set {w : World} {b : Nat} {T : TypeId} {x0 x1 x2 x3 x4 x5 : Value} (y0 y1 y2 y3 y4 y5 : Value) (h : w.heap[b]? = some (.cells #[x0, x1, x2, x3, x4, x5] T (0, 0))) :
    ((((((w.setCell ⟨b, 0, none⟩ y0).setCell ⟨b, 1, none⟩ y1).setCell ⟨b, 2, none⟩ y2).setCell ⟨b, 3, none⟩ y3).setCell ⟨b, 4, none⟩ y4).setCell ⟨b, 5, none⟩ y5).heap[b]? = some (.cells #[y0, y1, y2, y3, y4, y5] T (0, 0)) := by
  have h0 := heap_setCell_same w b 0 _ _ y0 h
  have h1 := heap_setCell_same _ b 1 _ _ y1 h0
  have h2 := heap_setCell_same _ b 2 _ _ y2 h1
  have h3 := heap_setCell_same _ b 3 _ _ y3 h2
  have h4 := heap_setCell_same _ b 4 _ _ y4 h3
  have h5 := heap_setCell_same _ b 5 _ _ y5 h4
  rw [h5]
  simp

theorem below_six {B b : Nat} {w0 w : World} (h : Below B w0 w) (hB : B ≤ b) (y0 y1 y2 y3 y4 y5 : Value) : Below B w0 ((((((w.setCell ⟨b, 0, none⟩ y0).setCell ⟨b, 1, none⟩ y1).setCell ⟨b, 2, none⟩ y2).setCell ⟨b, 3, none⟩ y3).setCell ⟨b, 4, none⟩ y4).setCell ⟨b, 5, none⟩ y5) :=
  (((((h.setCell hB _).setCell hB _).setCell hB _).setCell hB _).setCell hB _).setCell hB _

/-- What Undone has in hand. -/
structure UN (w : World) (ao : Option Addr) (n vcap : Nat) (k pr a sk sx sy : Int) (W : World) : Prop where
  p : W.heap[w.heap.size]? = some (.cells #[.slice ao n vcap] 26 (0, 0))
  e : W.heap[w.heap.size + 1]? = some (.cells #[.int .i64 k, .int .i64 pr, .int .i64 a, .int .i64 sk, .int .i64 sx, .int .i64 sy] 54 (0, 0))
  r : W.heap[w.heap.size + 1 + 1]? = some (.cells #[.int .i64 0, .int .i64 0, .int .i64 0, .int .i64 0, .int .i64 0, .int .i64 0] 54 (0, 0))
  below : Below w.heap.size w W
  size : w.heap.size + 3 ≤ W.heap.size

theorem UN.kept {w : World} {ao : Option Addr} {n vcap : Nat} {k pr a sk sx sy : Int} {W W' : World} {B : Nat} (h : UN w ao n vcap k pr a sk sx sy W) (hb : Below B W W') (hB : w.heap.size + 3 ≤ B) : UN w ao n vcap k pr a sk sx sy W' :=
  ⟨(hb.block _ (by omega)).trans h.p, (hb.block _ (by omega)).trans h.e, (hb.block _ (by omega)).trans h.r, h.below.trans (hb.mono (by omega)), Nat.le_trans h.size hb.size⟩

end Go.Proofs.YtldagpfeaabcdaaGreatDoor

/-
  FnEdits, the mathematics: an Edit that is undone makes the Program again.
-/
namespace Go.Proofs.YtldagpfeaabcdaaGreatDoor
open Go.RowKit
set_option linter.unusedVariables false
set_option linter.unusedSimpArgs false

theorem jmp_back_add (j : Int) (s : Stm) : jmp (j + 1) (-1) (jmp j 1 s) = s := by
  obtain ⟨k, x, y⟩ := s
  unfold jmp
  by_cases h : k = 7 ∧ j ≤ y
  · simp only [h, and_self, if_true]
    obtain ⟨h1, h2⟩ := h
    rw [if_pos ⟨trivial, by omega⟩]
    congr 1
    omega
  · rw [if_neg h, if_neg (fun h' => h ⟨h'.1, by have := h'.2; simp only at this; omega⟩)]

theorem jmp_back_drop (j : Int) (s : Stm) (h : ¬ (s.k = 7 ∧ s.y = j)) : jmp j 1 (jmp (j + 1) (-1) s) = s := by
  obtain ⟨k, x, y⟩ := s
  simp only at h
  unfold jmp
  by_cases h1 : k = 7 ∧ j + 1 ≤ y
  · simp only [h1, and_self, if_true]
    obtain ⟨h2, h3⟩ := h1
    rw [if_pos ⟨trivial, by omega⟩]
    congr 1
    omega
  · rw [if_neg h1, if_neg (fun h' => h1 ⟨h'.1, by have h9 := h'.2; simp only at h9; have : ¬ y = j := fun e => h ⟨h'.1, e⟩; omega⟩)]

theorem edSet_back (p : List Stm) (j : Nat) (s : Stm) (h : j < p.length) : edSet (edSet p j s) j p[j] = p := by
  unfold edSet
  have h1 : (p.take j).length = j := by simp; omega
  rw [List.take_append_of_le_length (by omega), List.take_of_length_le (by omega), List.drop_append, h1]
  have h2 : List.drop (j + 1) (p.take j) = [] := List.drop_of_length_le (by omega)
  have h3 : j + 1 - j = 1 := by omega
  rw [h2, h3]
  simp

theorem edAdd_back (p : List Stm) (j : Nat) (s : Stm) (h : j < p.length) : edDrop (edAdd p j s) j = p := by
  have e1 : mv ((j : Int) + 1) (-1) (mv (j : Int) 1 p) = p := by
    unfold mv
    rw [List.map_map]
    have : (jmp ((j : Int) + 1) (-1)) ∘ (jmp (j : Int) 1) = id := by funext s; exact jmp_back_add _ s
    rw [this, List.map_id]
  have hml := mv_length (j : Int) 1 p
  unfold edDrop edAdd
  generalize hq : mv (j : Int) 1 p = q at *
  have hm : ∀ a b : List Stm, mv ((j : Int) + 1) (-1) (a ++ b) = mv ((j : Int) + 1) (-1) a ++ mv ((j : Int) + 1) (-1) b := fun a b => by simp [mv]
  have hc : ∀ (s : Stm) (b : List Stm), mv ((j : Int) + 1) (-1) (s :: b) = jmp ((j : Int) + 1) (-1) s :: mv ((j : Int) + 1) (-1) b := fun s b => by simp [mv]
  have h1 : (mv ((j : Int) + 1) (-1) (q.take j)).length = j := by rw [mv_length]; simp; omega
  rw [hm, hc, List.take_append_of_le_length (by omega), List.take_of_length_le (by omega), List.drop_append, h1, List.drop_of_length_le (by omega)]
  have h3 : j + 1 - j = 1 := by omega
  rw [h3]
  simp only [List.drop_succ_cons, List.drop_zero, List.nil_append]
  rw [← hm, List.take_append_drop, e1]

theorem edDrop_back (p : List Stm) (j : Nat) (h : j < p.length) (hj : jumpTo p (j : Int) = false) : edAdd (edDrop p j) j p[j] = p := by
  have hno : ∀ s ∈ p, ¬ (s.k = 7 ∧ s.y = (j : Int)) := fun s hs hh => by
    unfold jumpTo at hj
    rw [List.any_eq_false] at hj
    exact hj s hs (by simp [hh.1, hh.2])
  have e1 : mv (j : Int) 1 (mv ((j : Int) + 1) (-1) p) = p := by
    unfold mv
    rw [List.map_map]
    have : ∀ l : List Stm, (∀ s ∈ l, ¬ (s.k = 7 ∧ s.y = (j : Int))) → l.map ((jmp (j : Int) 1) ∘ (jmp ((j : Int) + 1) (-1))) = l := by
      intro l hl
      induction l with
      | nil => rfl
      | cons s l ih =>
        rw [List.map_cons, ih (fun s hs => hl s (by simp [hs]))]
        congr 1
        exact jmp_back_drop _ s (hl s (by simp))
    exact this p hno
  have hml := mv_length ((j : Int) + 1) (-1) p
  unfold edDrop edAdd
  generalize hq : mv ((j : Int) + 1) (-1) p = q at *
  have hm : ∀ a b : List Stm, mv (j : Int) 1 (a ++ b) = mv (j : Int) 1 a ++ mv (j : Int) 1 b := fun a b => by simp [mv]
  have h1 : (mv (j : Int) 1 (q.take j)).length = j := by rw [mv_length]; simp; omega
  rw [hm, List.take_append_of_le_length (by omega), List.take_of_length_le (by omega), List.drop_append, h1, List.drop_of_length_le (by omega), Nat.sub_self, List.nil_append, List.drop_zero]
  have h5 : mv (j : Int) 1 (q.take j) = p.take j := by
    have h6 : mv (j : Int) 1 (q.take j) = (mv (j : Int) 1 q).take j := by simp [mv]
    rw [h6, e1]
  have h7 : mv (j : Int) 1 (q.drop (j + 1)) = p.drop (j + 1) := by
    have h8 : mv (j : Int) 1 (q.drop (j + 1)) = (mv (j : Int) 1 q).drop (j + 1) := by simp [mv]
    rw [h8, e1]
  rw [h5, h7, ← split_at p j h]

theorem edited13_some {ps qs : List (List Stm)} {e : Edt} (h : edited13 ps e.k e.pr e.a e.s = some qs) : programOk ps = true ∧ programOk qs = true ∧ made13 ps e.k e.pr e.a e.s = some qs := by
  unfold edited13 at h
  by_cases h1 : programOk ps = true
  · rw [if_pos h1] at h
    cases h2 : made13 ps e.k e.pr e.a e.s with
    | none => rw [h2] at h; cases h
    | some rs =>
      rw [h2] at h
      simp only at h
      by_cases h3 : programOk rs = true
      · rw [if_pos h3] at h
        cases h
        exact ⟨h1, h3, rfl⟩
      · rw [if_neg h3] at h
        cases h
  · rw [if_neg h1] at h
    cases h

/-- An Edit that is undone makes the Program again. -/
theorem undone_back {ps qs : List (List Stm)} {e u : Edt} (h : edited13 ps e.k e.pr e.a e.s = some qs) (hu : undone13 ps e = some u) : edited13 qs u.k u.pr u.a u.s = some ps := by
  obtain ⟨hok, hqk, hm⟩ := edited13_some h
  obtain ⟨_, hk, i, j, hi, hpr, ha, hj⟩ := edited13_place (by rw [h]; rfl)
  unfold undone13 at hu
  rw [h] at hu
  simp only [Option.isSome_some, if_true] at hu
  obtain ⟨k, pr, a, s⟩ := e
  simp only at *
  subst hpr ha
  have hgd : ps.getD i [] = ps[i] := by simp [List.getD, hi]
  have hgs : ps[i].getD j ⟨0, 0, 0⟩ = ps[i][j] := by simp [List.getD, hj]
  simp only [Int.toNat_natCast, hgd, hgs] at hu
  have hw1 : wiB (i : Int) (ps.length : Int) = true := by simp [wiB]; omega
  have hw2 : wiB (j : Int) (ps[i].length : Int) = true := by simp [wiB]; omega
  have key : ∀ (R : List Stm) (k' : Int) (s' : Stm), qs = ps.set i R → made13 (ps.set i R) k' i j s' = some ps → edited13 qs k' i j s' = some ps := by
    intro R k' s' e1 e2
    unfold edited13
    rw [if_pos hqk, e1, e2]
    simp [hok]
  unfold made13 at hm
  rcases hk with rfl | rfl | rfl | rfl
  · simp only [Int.reduceEq, if_false, if_true, Int.toNat_natCast, hgd, hw1, hw2, Bool.and_self, Option.some.injEq] at hm hu
    subst hu
    simp only
    refine key _ _ _ hm.symm ?_
    unfold made13
    have hg2 : (ps.set i (edSet ps[i] j s)).getD i [] = edSet ps[i] j s := by simp [List.getD, hi]
    have hl2 : (edSet ps[i] j s).length = ps[i].length := by simp [edSet]; omega
    simp only [Int.reduceEq, if_false, if_true, Int.toNat_natCast, hg2, hl2, List.length_set, hw1, hw2, Bool.and_self, List.set_set, edSet_back ps[i] j s hj]
    congr 1
    exact List.ext_getElem? (fun q => by by_cases e : i = q <;> simp [List.getElem?_set, e, hi] <;> (subst e; simp [hi]))
  · simp only [Int.reduceEq, if_false, if_true, Int.toNat_natCast, hgd, hw1, hw2, Bool.and_self, Option.some.injEq] at hm hu
    subst hu
    simp only
    refine key _ _ _ hm.symm ?_
    unfold made13
    have hg2 : (ps.set i (edAdd ps[i] j s)).getD i [] = edAdd ps[i] j s := by simp [List.getD, hi]
    have hl2 : (edAdd ps[i] j s).length = ps[i].length + 1 := by simp [edAdd, mv_length]; omega
    have hw3 : wiB (j : Int) ((ps[i].length + 1 : Nat) : Int) = true := by simp [wiB]; omega
    have hz : zeroS ⟨0, 0, 0⟩ = true := by decide
    simp only [Int.reduceEq, if_false, if_true, Int.toNat_natCast, hg2, hl2, List.length_set, hw1, hw3, Bool.and_self, List.set_set, hz, edAdd_back ps[i] j s hj]
    congr 1
    exact List.ext_getElem? (fun q => by by_cases e : i = q <;> simp [List.getElem?_set, e, hi] <;> (subst e; simp [hi]))
  · simp only [Int.reduceEq, if_false, if_true, Int.toNat_natCast, hgd, hw1, hw2, Bool.and_self] at hm hu
    split at hu
    · rename_i hc
      simp only [Bool.and_eq_true, decide_eq_true_eq, Bool.not_eq_true'] at hc
      obtain rfl := Option.some.inj hu
      simp only
      split at hm
      · have hm := Option.some.inj hm
        refine key _ _ _ hm.symm ?_
        unfold made13
        have hg2 : (ps.set i (edDrop ps[i] j)).getD i [] = edDrop ps[i] j := by simp [List.getD, hi]
        have hl2 : (edDrop ps[i] j).length = ps[i].length - 1 := by simp [edDrop, mv_length]; omega
        have hw3 : wiB (j : Int) ((ps[i].length - 1 : Nat) : Int) = true := by simp [wiB]; omega
        simp only [Int.reduceEq, if_false, if_true, Int.toNat_natCast, hg2, hl2, List.length_set, hw1, hw3, Bool.and_self, List.set_set, edDrop_back ps[i] j hj hc.2]
        congr 1
        exact List.ext_getElem? (fun q => by by_cases e : i = q <;> simp [List.getElem?_set, e, hi] <;> (subst e; simp [hi]))
      · cases hm
    · cases hu
  · simp at hu

end Go.Proofs.YtldagpfeaabcdaaGreatDoor
