/-
  A set in a block of its own: laid, read, written.
-/
import Derived.Test.YtjlfmjoallnojadSets2
namespace Go.Proofs.Ytjlfmjoallnojad
open Go.RowKit
set_option linter.unusedVariables false
set_option maxHeartbeats 1000000

/-- Block X holds the set bs. -/
def SetAt (w : World) (X : Nat) (bs : List Bool) : Prop := w.heap[X]? = some (.cells (bls bs).toArray 46 (0, 0))

theorem heap_setCells_some (b : Nat) (t : TypeId) : ∀ (vs : List Value) (o : Nat) (w : World) (C : Array Value), w.heap[b]? = some (.cells C t (0, 0)) → ∃ C' : Array Value, (w.setCells b o vs).heap[b]? = some (.cells C' t (0, 0)) ∧ C'.size = C.size
  | [], _, w, C, h => ⟨C, h, rfl⟩
  | v :: r, o, w, C, h => by
    have h1 := heap_setCell_same w b o C t v h
    obtain ⟨C', h2, h3⟩ := heap_setCells_some b t r (o + 1) _ _ h1
    exact ⟨C', h2, by rw [h3]; simp⟩

theorem setAt_store {w : World} {X : Nat} {bs cs : List Bool} (h : SetAt w X cs) (hl : bs.length = cs.length) : SetAt (w.setCells X 0 (bls bs)) X bs := by
  obtain ⟨C', h1, h2⟩ := heap_setCells_some X 46 (bls bs) 0 w _ h
  have hr := World.rangeAt_setCells_same w X 0 (bls bs) (by rw [List.length_map, hl]; exact there_of h)
  unfold SetAt
  rw [h1]
  have e : C' = (bls bs).toArray := by
    apply Array.ext_getElem?
    intro j
    by_cases hj : j < bs.length
    · have h3 := hr j (.bool bs[j]) (by simp [hj])
      rw [Nat.zero_add, cell_of_row _ X j C' _ (0, 0) h1] at h3
      rw [h3]
      simp [hj]
    · have hs : C'.size = bs.length := by rw [h2, List.size_toArray, List.length_map, hl]
      rw [Array.getElem?_eq_none (by omega), List.getElem?_toArray, List.getElem?_eq_none (by rw [List.length_map]; omega)]
  rw [e]

theorem setAt_lt {w : World} {X : Nat} {bs : List Bool} (h : SetAt w X bs) : X < w.heap.size := set_lt h

theorem setAt_kept {w w' : World} {X : Nat} {bs : List Bool} (h : SetAt w X bs) (hb : w'.heap[X]? = w.heap[X]?) : SetAt w' X bs := hb.trans h

theorem wpList_storeSetH {ops : Array Oper} {rest : List Oper} {op : Oper} {a : Act} {w : World} {Q : Exit → Act → World → Prop} (hgd : op.guard = none) (hdst : op.dst = none) (x y : Operand) (ho : op.op = .store 46 x y)
    (b : Nat) (bs : List Bool) (hx : a.eval x = .pointer (some ⟨b, 0, none⟩)) (hy : a.eval y = setV bs) (hl : bs.length = 12) (cs : List Bool) (hc : cs.length = 12) (ht : SetAt w b cs)
    (h : ∀ w', SetAt w' b bs → w.grownBy w' (some b) → wpList Try.prog ops Q rest a w') : wpList Try.prog ops Q (op :: rest) a w :=
  wpList_storeSet hgd hdst x y ho b 0 bs hx hy hl (by have := there_of ht; rwa [hc] at this) (h _ (setAt_store ht (by omega)) (grown_setCells _ _ _ _))

theorem wpList_loadSetA {ops : Array Oper} {rest : List Oper} {op : Oper} {a : Act} {w : World} {Q : Exit → Act → World → Prop} (hgd : op.guard = none) (x : Operand) (ho : op.op = .load 46 x)
    (b : Nat) (bs : List Bool) (hx : a.eval x = .pointer (some ⟨b, 0, none⟩)) (hl : bs.length = 12) (hc : SetAt w b bs)
    (h : wpList Try.prog ops Q rest (a.put op.dst (.agg (bls bs).toArray)) w) : wpList Try.prog ops Q (op :: rest) a w :=
  wpList_loadSet hgd x ho b 0 bs hx hl (range_of hc) h

theorem setAt_new (w : World) : SetAt (w.alloc (.cells #[.bool false, .bool false, .bool false, .bool false, .bool false, .bool false, .bool false, .bool false, .bool false, .bool false, .bool false, .bool false] 46)) w.heap.size (List.replicate 12 false) := heap_alloc_new w _

/-- What the search for a body has in hand. -/
structure BSt (v : Value) (w : World) (B X : Nat) (bs bf : List Bool) (wr : World) : Prop where
  b : SetAt wr B bs
  x : SetAt wr X bf
  bl : Below w.heap.size w wr
  p : wr.heap[w.heap.size]? = some (.cells #[v] 26 (0, 0))
  hB : w.heap.size < B
  hX : B < X

theorem BSt.grow {v : Value} {w : World} {B X : Nat} {bs bf : List Bool} {wr wr' : World} (h : BSt v w B X bs bf wr) (hb : Below wr.heap.size wr wr') : BSt v w B X bs bf wr' where
  b := setAt_kept h.b (hb.block _ (setAt_lt h.b))
  x := setAt_kept h.x (hb.block _ (setAt_lt h.x))
  bl := h.bl.trans (hb.mono h.bl.size)
  p := (hb.block _ (set_lt h.p)).trans h.p
  hB := h.hB
  hX := h.hX

theorem BSt.setB {v : Value} {w : World} {B X : Nat} {bs bf : List Bool} {wr : World} (h : BSt v w B X bs bf wr) (j : Nat) (z : Bool) : BSt v w B X (bs.set j z) bf (wr.setCell ⟨B, j, none⟩ (.bool z)) where
  b := bcell_set h.b j z
  x := setAt_kept h.x ((grown_setCell1 wr B j (.bool z)).block _ (setAt_lt h.x) (fun e => by have := h.hX; simp at e; omega))
  bl := h.bl.setCell (by have := h.hB; show w.heap.size ≤ B; omega) _
  p := ((grown_setCell1 wr B j (.bool z)).block _ (set_lt h.p) (fun e => by have := h.hB; simp at e; omega)).trans h.p
  hB := h.hB
  hX := h.hX

theorem BSt.storeX {v : Value} {w : World} {B X : Nat} {bs bf bg : List Bool} {wr wr' : World} (h : BSt v w B X bs bf wr) (hx : SetAt wr' X bg) (hg : wr.grownBy wr' (some X)) : BSt v w B X bs bg wr' where
  b := setAt_kept h.b (hg.block _ (setAt_lt h.b) (fun e => by have := h.hX; simp at e; omega))
  x := hx
  bl := h.bl.grown hg h.bl.size (fun k e => by have := h.hX; have := h.hB; cases e; omega)
  p := (hg.block _ (set_lt h.p) (fun e => by have := h.hX; have := h.hB; simp at e; omega)).trans h.p
  hB := h.hB
  hX := h.hX

/-- The set of before in another block. -/
theorem BSt.moveX {v : Value} {w : World} {B X X' : Nat} {bs bf bg : List Bool} {wr : World} (h : BSt v w B X bs bf wr) (hx : SetAt wr X' bg) (hX' : B < X') : BSt v w B X' bs bg wr := { h with x := hx, hX := hX' }

end Go.Proofs.Ytjlfmjoallnojad
