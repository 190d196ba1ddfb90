/-
  Put together out of: Do13N, DoAdd, DoDrop, DoProc, SpecEd, MarkStm, MarkProg.
-/
import Derived.Test.YtjdmmpdcafbneaaDoorDo13M
import Derived.BigRegion
import Derived.Test.YtjdmmpdcafbneaaDoorG44DoSet
import Derived.Test.YtjdmmpdcafbneaaDoorProc
import Derived.Test.YtjdmmpdcafbneaaDoorG12Progs
/-
  spec.l13Do: more of what it has in hand.
-/
namespace Go.Proofs.YtjdmmpdcafbneaaDoor
open Go.RowKit
set_option linter.unusedVariables false
set_option linter.unusedSimpArgs false
set_option maxHeartbeats 8000000
set_option maxRecDepth 20000

theorem cells3_drop : ∀ (L : List Stm) (j : Nat), cells3 (L.drop j) = (cells3 L).drop (j * 3)
  | [], j => by simp [cells3]
  | t :: L, 0 => by simp
  | t :: L, j + 1 => by
    have e : (j + 1) * 3 = j * 3 + 1 + 1 + 1 := by omega
    rw [e]
    simp only [cells3, List.drop_succ_cons, cells3_drop L j]
theorem cells3_take : ∀ (L : List Stm) (j : Nat), cells3 (L.take j) = (cells3 L).take (j * 3)
  | [], j => by simp [cells3]
  | t :: L, 0 => by simp [cells3]
  | t :: L, j + 1 => by
    have e : (j + 1) * 3 = j * 3 + 1 + 1 + 1 := by omega
    rw [e]
    simp only [cells3, List.take_succ_cons, cells3_take L j]

theorem own_dropS {w : World} {base g m c : Nat} {L : List Stm} (h : w.ownsRow base 42 3 (.slice (some ⟨g, 0, none⟩) m c) m (cells3 L)) (j : Nat) : ∀ q u, (cells3 (L.drop j))[q]? = some u → w.cell? ((⟨g, j * 3, none⟩ : Addr).add q) = some u := by
  intro q u hq
  rw [cells3_drop, List.getElem?_drop] at hq
  have hl := (List.getElem?_eq_some_iff.1 hq).1
  have h1 := h.1
  rw [Addr.add_lit, h.cellAt (j * 3 + q) (by omega)]
  exact hq
theorem own_takeS {w : World} {base g m c : Nat} {L : List Stm} (h : w.ownsRow base 42 3 (.slice (some ⟨g, 0, none⟩) m c) m (cells3 L)) (j : Nat) : ∀ q u, (cells3 (L.take j))[q]? = some u → w.cell? ((⟨g, 0, none⟩ : Addr).add q) = some u := by
  intro q u hq
  rw [cells3_take, List.getElem?_take] at hq
  split at hq
  · have hl := (List.getElem?_eq_some_iff.1 hq).1
    have h1 := h.1
    rw [Addr.add_lit, Nat.zero_add, h.cellAt q (by omega)]
    exact hq
  · cases hq

theorem set_self13 {ps : List (List Stm)} {i : Nat} {p : List Stm} (h : ps[i]? = some p) : ps.set i p = ps := by
  refine List.ext_getElem? (fun j => ?_)
  by_cases e : i = j
  · subst e
    have hl := (List.getElem?_eq_some_iff.1 h).1
    rw [List.getElem?_set_self hl, h]
  · rw [List.getElem?_set_ne e]

theorem own_formS {w : World} {base n : Nat} {v : Value} {xs : List Value} (h : w.ownsRow base 42 3 v n xs) (h0 : 0 < n) : ∃ q c, v = .slice (some ⟨q, 0, none⟩) n c := by
  rcases h.2 with ⟨_, hn⟩ | ⟨g, cap, cur, rfl, _⟩
  · omega
  · exact ⟨g, cap, rfl⟩
theorem own_cellsS {w : World} {base g n c : Nat} {xs : List Value} (h : w.ownsRow base 42 3 (.slice (some ⟨g, 0, none⟩) n c) n xs) : ∀ q u, xs[q]? = some u → w.cell? ((⟨g, 0, none⟩ : Addr).add q) = some u := by
  intro q u hq
  have hl := (List.getElem?_eq_some_iff.1 hq).1
  have h1 := h.1
  rw [Addr.add_lit, Nat.zero_add, h.cellAt q (by omega)]
  exact hq
theorem row_ne13 {w : World} {base : Nat} {e T : TypeId} {s n B : Nat} {v : Value} {xs : List Value} {cs : Array Value} {q : Nat × Nat} (h : w.ownsRow base e s v n xs) (hB : w.heap[B]? = some (.cells cs T q)) (hne : e ≠ T) (hk : v.ownBlock = some B) : False := by
  rcases h.2 with ⟨rfl, _⟩ | ⟨g, cap, cur, rfl, _, hg, _⟩
  · cases hk
  · cases hk
    rw [hg] at hB
    exact hne (by injection hB with h1; injection h1)

/-- One of the rows is another, stored in its place. -/
theorem Own13.splV {w w4 : World} {base G cap g m c i : Nat} {x : Value} {us : List Value} {ps : List (List Stm)} {R : List Stm} (h : Own13 w base (.slice (some ⟨G, 0, none⟩) ps.length cap) us ps) (hi : i < ps.length)
    (hui : us[i]? = some (.slice (some ⟨g, 0, none⟩) m c)) (hg : w.grownBy w4 (some g)) (ho : w4.ownsRow base 42 3 x R.length (cells3 R)) (hq : ∀ k, x.ownBlock = some k → k = g ∨ w.heap.size ≤ k) :
    Own13 (w4.setCell ⟨G, i, none⟩ x) base (.slice (some ⟨G, 0, none⟩) ps.length cap) (us.set i x) (ps.set i R) := by
  have hul := h.len
  obtain ⟨p, hp⟩ : ∃ p, ps[i]? = some p := ⟨ps[i], by simp [hi]⟩
  have hoi := h.each i _ p hui hp
  have hGg : G ≠ g := fun e => kind13 hoi h.row (by decide) g rfl (by rw [e]; rfl)
  have hrow4 : w4.ownsRow base 39 1 (.slice (some ⟨G, 0, none⟩) ps.length cap) ps.length us := own_grown h.row hg (fun k hk e => hGg ((Option.some.inj hk).trans (Option.some.inj e).symm))
  have keep : ∀ {u : Value} {r : List Stm}, w4.ownsRow base 42 3 u r.length (cells3 r) → (w4.setCell ⟨G, i, none⟩ x).ownsRow base 42 3 u r.length (cells3 r) := fun {u r} hu =>
    own_grown hu (grown_setRow13 _ _ _ _) (fun k hk e => kind13 hu hrow4 (by decide) k hk e)
  refine ⟨by rw [List.length_set]; exact own_put13 hrow4 i _, fun j u r h1 h2 => ?_, fun a b y z k hne hy hz hk hk' => ?_⟩
  · by_cases e : i = j
    · subst e
      rw [List.getElem?_set_self (by omega)] at h1
      rw [List.getElem?_set_self hi] at h2
      cases h1; cases h2
      exact keep ho
    · rw [List.getElem?_set_ne e] at h1 h2
      have h3 := h.each j u r h1 h2
      exact keep (own_grown h3 hg (fun k hk e' => h.ap j i u _ k (fun e2 => e e2.symm) h1 hui hk (by rw [← e']; rfl)))
  · have old : ∀ {a : Nat} {y : Value}, a ≠ i → (us.set i x)[a]? = some y → us[a]? = some y := fun {a y} hne hy => by rwa [List.getElem?_set_ne (Ne.symm hne)] at hy
    have new : ∀ {y : Value}, (us.set i x)[i]? = some y → y = x := fun {y} hy => by
      rw [List.getElem?_set_self (by omega)] at hy
      exact (Option.some.inj hy).symm
    have cross : ∀ {a : Nat} {y : Value} {k : Nat}, a ≠ i → us[a]? = some y → x.ownBlock = some k → y.ownBlock ≠ some k := fun {a y k} hne hy hxk hk => by
      have hal : a < ps.length := by have := (List.getElem?_eq_some_iff.1 hy).1; omega
      have h5 := (h.each a y ps[a] hy (by simp [hal])).lt k hk
      rcases hq k hxk with rfl | hq
      · exact h.ap a i y _ k hne hy hui hk rfl
      · omega
    by_cases e1 : a = i
    · subst e1
      have h6 := new hy
      subst h6
      exact cross (Ne.symm hne) (old (Ne.symm hne) hz) hk hk'
    · by_cases e2 : b = i
      · subst e2
        have h6 := new hz
        subst h6
        exact cross e1 (old e1 hy) hk' hk
      · exact h.ap a b y z k hne (old e1 hy) (old e2 hz) hk hk'

end Go.Proofs.YtjdmmpdcafbneaaDoor

/-
  spec.l13Do: one statement more.
-/
namespace Go.Proofs.YtjdmmpdcafbneaaDoor
open Go.RowKit
set_option linter.unusedVariables false
set_option linter.unusedSimpArgs false
set_option maxHeartbeats 8000000
set_option maxRecDepth 20000

end Go.Proofs.YtjdmmpdcafbneaaDoor

/-
  spec.l13Do: one statement goes.
-/
namespace Go.Proofs.YtjdmmpdcafbneaaDoor
open Go.RowKit
set_option linter.unusedVariables false
set_option linter.unusedSimpArgs false
set_option maxHeartbeats 8000000
set_option maxRecDepth 20000

end Go.Proofs.YtjdmmpdcafbneaaDoor

/-
  spec.l13Do: a procedure more; where there is no such place.
-/
namespace Go.Proofs.YtjdmmpdcafbneaaDoor
open Go.RowKit
set_option linter.unusedVariables false
set_option linter.unusedSimpArgs false
set_option maxHeartbeats 8000000
set_option maxRecDepth 20000

end Go.Proofs.YtjdmmpdcafbneaaDoor

/-
  spec.l13Do, all of it; spec.Edited.
-/
namespace Go.Proofs.YtjdmmpdcafbneaaDoor
open Go.RowKit
set_option linter.unusedVariables false
set_option linter.unusedSimpArgs false
set_option maxHeartbeats 4000000
set_option maxRecDepth 20000

theorem own13_form {w : World} {base : Nat} {u : Value} {us : List Value} {ps : List (List Stm)} (h : Own13 w base u us ps) (h0 : 0 < ps.length) : ∃ G cap, u = .slice (some ⟨G, 0, none⟩) ps.length cap := by
  rcases h.row.2 with ⟨_, hn⟩ | ⟨g, cap, cur, rfl, _⟩
  · omega
  · exact ⟨g, cap, rfl⟩

end Go.Proofs.YtjdmmpdcafbneaaDoor

/-
  markStmtS, markProc: they write into the rows of statements alone.
-/
namespace Go.Proofs.YtjdmmpdcafbneaaDoor
open Go.RowKit
set_option linter.unusedVariables false
set_option maxHeartbeats 1000000

/-- Only rows of statements from block base on and below top have been written into. -/
structure Marks (base top : Nat) (w w' : World) : Prop where
  os : w'.os = w.os
  tape : w'.tape = w.tape
  output : w'.output = w.output
  size : w.heap.size ≤ w'.heap.size
  out : ∀ k, k < w.heap.size → k < base ∨ top ≤ k → w'.heap[k]? = w.heap[k]?
  other : ∀ (g : Nat) (cur : Array Value) (t : TypeId) (f : Nat × Nat), w.heap[g]? = some (Obj.cells cur t f) → t ≠ 42 → w'.heap[g]? = some (Obj.cells cur t f)
  stm : ∀ (g : Nat) (cur : Array Value), w.heap[g]? = some (Obj.cells cur 42 (0, 0)) → ∃ cur' : Array Value, w'.heap[g]? = some (Obj.cells cur' 42 (0, 0)) ∧ cur'.size = cur.size

theorem Marks.refl (base top : Nat) (w : World) : Marks base top w w := ⟨rfl, rfl, rfl, Nat.le_refl _, fun _ _ _ => rfl, fun _ _ _ _ h _ => h, fun _ cur h => ⟨cur, h, rfl⟩⟩

theorem Marks.trans {base top : Nat} {a b c : World} (h : Marks base top a b) (k : Marks base top b c) : Marks base top a c :=
  ⟨k.os.trans h.os, k.tape.trans h.tape, k.output.trans h.output, Nat.le_trans h.size k.size, fun i hi ho => (k.out i (Nat.lt_of_lt_of_le hi h.size) ho).trans (h.out i hi ho),
    fun g cur t f hg ht => k.other g cur t f (h.other g cur t f hg ht) ht, fun g cur hg => by
      obtain ⟨c1, h1, s1⟩ := h.stm g cur hg
      obtain ⟨c2, h2, s2⟩ := k.stm g c1 h1
      exact ⟨c2, h2, s2.trans s1⟩⟩

theorem Marks.setCell {base top : Nat} {a w : World} (h : Marks base top a w) {g j : Nat} {cur : Array Value} (hg : w.heap[g]? = some (.cells cur 42 (0, 0))) (hb : base ≤ g) (ht : g < top) (u : Value) : Marks base top a (w.setCell ⟨g, j, none⟩ u) := by
  refine h.trans ⟨rfl, rfl, rfl, by simp [World.setCell], fun k _ hk => Below.heap_setCell _ _ _ _ (by simp; omega), fun g' cur' t f hg' ht' => ?_, fun g' cur' hg' => ?_⟩
  · by_cases e : g' = g
    · subst e
      rw [hg] at hg'
      simp at hg'
      exact absurd hg'.2.1.symm ht'
    · rw [Below.heap_setCell _ _ _ _ e]; exact hg'
  · by_cases e : g' = g
    · subst e
      rw [hg] at hg'
      simp only [Option.some.injEq, Obj.cells.injEq] at hg'
      obtain ⟨rfl, _⟩ := hg'
      exact ⟨_, heap_setCell_same w g' j cur _ u hg, by simp⟩
    · exact ⟨cur', by rw [Below.heap_setCell _ _ _ _ e]; exact hg', rfl⟩

/-- A new block. -/
theorem Marks.alloc {base top : Nat} {a w : World} (h : Marks base top a w) (o : Obj) : Marks base top a (w.alloc o) := by
  refine h.trans ⟨rfl, rfl, rfl, by simp, fun k hk _ => old_block hk, fun g cur t f hg _ => ?_, fun g cur hg => ⟨cur, ?_, rfl⟩⟩
  · rw [old_block (Array.getElem?_eq_some_iff.1 hg).1]; exact hg
  · rw [old_block (Array.getElem?_eq_some_iff.1 hg).1]; exact hg

/-- A row of n statements that may be written into. -/
def Room (base top : Nat) (w : World) (u : Value) (n : Nat) : Prop :=
  (u = .slice none 0 0 ∧ n = 0) ∨ ∃ (g cap : Nat) (cur : Array Value), u = .slice (some ⟨g, 0, none⟩) n cap ∧ w.heap[g]? = some (Obj.cells cur 42 (0, 0)) ∧ n * 3 ≤ cur.size ∧ base ≤ g ∧ g < top

theorem Room.kept {base top : Nat} {w w' : World} {u : Value} {n : Nat} (h : Room base top w u n) (hm : Marks base top w w') : Room base top w' u n := by
  rcases h with h | ⟨g, cap, cur, rfl, hg, hs, h1, h2⟩
  · exact .inl h
  · obtain ⟨c, hc, hz⟩ := hm.stm g cur hg
    exact .inr ⟨g, cap, c, rfl, hc, by omega, h1, h2⟩

theorem room_own {base top : Nat} {w : World} {u : Value} {n : Nat} {xs : List Value} (h : w.ownsRow base 42 3 u n xs) (ht : ∀ k, u.ownBlock = some k → k < top) : Room base top w u n := by
  rcases h.2 with h0 | ⟨g, cap, cur, rfl, hb, hg, hn, hm, hs, _⟩
  · exact .inl h0
  · exact .inr ⟨g, cap, cur, rfl, hg, by rw [hs]; exact Nat.mul_le_mul_right _ hn, hb, ht g rfl⟩

theorem row_at {w : World} {g j : Nat} {cur : Array Value} {t : TypeId} (hg : w.heap[g]? = some (.cells cur t (0, 0))) (hj : j < cur.size) : (∃ x, w.cell? ⟨g, j, none⟩ = some x) ∧ w.frozen? ⟨g, j, none⟩ = false := by
  refine ⟨⟨cur[j], ?_⟩, frozen_of_row w g j cur t hg⟩
  rw [cell_of_row w g j cur t (0, 0) hg]
  simp [hj]

theorem Marks.below {base top B : Nat} {w w' : World} (h : Marks base top w w') (hB : B ≤ base) (hs : B ≤ w.heap.size) : Below B w w' :=
  ⟨h.os, h.tape, h.output, h.size, fun k hk => h.out k (by omega) (.inl (by omega))⟩

/-- A row that lies elsewhere stays. -/
theorem own_marks {base top b : Nat} {e : TypeId} {s : Nat} {v : Value} {n : Nat} {xs : List Value} {w w' : World} (h : w.ownsRow b e s v n xs) (hm : Marks base top w w') (hb : ∀ k, v.ownBlock = some k → k < base ∨ top ≤ k) : w'.ownsRow b e s v n xs := by
  refine ⟨h.1, ?_⟩
  rcases h.2 with hn | ⟨g, cap, cur, rfl, hbg, hg, r⟩
  · exact .inl hn
  · exact .inr ⟨g, cap, cur, rfl, hbg, by rw [hm.out g (Array.getElem?_eq_some_iff.1 hg).1 (hb g rfl)]; exact hg, r⟩


end Go.Proofs.YtjdmmpdcafbneaaDoor

/-
  markProcS, markProgram: they write into the rows of statements alone.
-/
namespace Go.Proofs.YtjdmmpdcafbneaaDoor
open Go.RowKit
set_option linter.unusedVariables false
set_option maxHeartbeats 1000000

end Go.Proofs.YtjdmmpdcafbneaaDoor
