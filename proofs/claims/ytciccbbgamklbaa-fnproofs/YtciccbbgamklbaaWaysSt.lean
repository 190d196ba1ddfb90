/-
  What the search for ways has in hand: three lists of lists, apart.
-/
import Derived.Test.YtciccbbgamklbaaG04VisitsM
import Derived.Test.YtciccbbgamklbaaListsLaw
import Derived.Deep.AppendLies
namespace Go.Proofs.Ytciccbbgamklbaa
open Go.RowKit
set_option linter.unusedVariables false
set_option maxHeartbeats 1000000

theorem cell_alloc_kept {w : World} {a : Addr} {x : Value} (o : Obj) (h : w.cell? a = some x) : (w.alloc o).cell? a = some x := by
  rw [World.cell?_alloc_lt _ _ _ (World.block_lt_of_cell? w _ h)]; exact h

theorem news1 {w : World} {b : Nat} {x : Value} (h : w.cell? ⟨b, 0, none⟩ = some x) : ∀ j u, [x][j]? = some u → w.cell? ((⟨b, 0, none⟩ : Addr).add j) = some u := fun j u hu => by
  cases j with
  | zero =>
    simp at hu
    subst hu
    have e : (⟨b, 0, none⟩ : Addr).add 0 = ⟨b, 0, none⟩ := by unfold Addr.add; split <;> simp_all
    rw [e]
    exact h
  | succ j => simp at hu

theorem row_kept {base base' : Nat} {ov lv : Value} {us : List Value} {n : Nat} {W w' : World} {xs : List Value} {m : Nat} (hl : W.ownsRow base' 2 1 lv n xs) (ho : W.ownsRow base 26 1 ov m us) (hg : W.grownBy w' ov.ownBlock) : w'.ownsRow base' 2 1 lv n xs :=
  own_same hl (fun k hk => hg.block k (hl.lt k hk).2 (fun e => row_kind hl ho (by decide) hk e.symm))

structure WSt (v : Value) (w : World) (ov : Value) (us : List Value) (xss : List (List Int)) (nv : Value) (ns : List Value) (yss : List (List Int)) (rv : Value) (vs : List Value) (zss : List (List Int)) (wr : World) : Prop where
  o : OwnSS wr (w.heap.size + 1) ov us xss
  n : OwnSS wr (w.heap.size + 1) nv ns yss
  r : OwnSS wr (w.heap.size + 1) rv vs zss
  on : ∀ k, ov.ownBlock = some k → nv.ownBlock ≠ some k
  or : ∀ k, ov.ownBlock = some k → rv.ownBlock ≠ some k
  nr : ∀ k, nv.ownBlock = some k → rv.ownBlock ≠ some k
  bl : Below w.heap.size w wr
  p : wr.heap[w.heap.size]? = some (.cells #[v] 30 (0, 0))

section
variable {v : Value} {w : World} {ov : Value} {us : List Value} {xss : List (List Int)} {nv : Value} {ns : List Value} {yss : List (List Int)} {rv : Value} {vs : List Value} {zss : List (List Int)} {wr wr' : World}

theorem WSt.below (h : WSt v w ov us xss nv ns yss rv vs zss wr) (hb : Below wr.heap.size wr wr') : WSt v w ov us xss nv ns yss rv vs zss wr' where
  o := h.o.below hb
  n := h.n.below hb
  r := h.r.below hb
  on := h.on
  or := h.or
  nr := h.nr
  bl := h.bl.trans (hb.mono h.bl.size)
  p := (hb.block _ (Array.getElem?_eq_some_iff.1 h.p).1).trans h.p

theorem WSt.plt (h : WSt v w ov us xss nv ns yss rv vs zss wr) : w.heap.size + 1 ≤ wr.heap.size := (Array.getElem?_eq_some_iff.1 h.p).1

theorem WSt.appO {u : Value} {xs : List Int} {g n cap : Nat} (h : WSt v w ov us xss nv ns yss rv vs zss wr) (hu : wr.ownsRow (w.heap.size + 1) 2 1 u xs.length (ints xs))
    (hr : wr'.ownsRow (w.heap.size + 1) 26 1 (.slice (some ⟨g, 0, none⟩) n cap) (xss.length + 1) (us ++ [u])) (hg : wr.grownBy wr' ov.ownBlock) (hat : ov.ownBlock = some g ∨ g = wr.heap.size) :
    WSt v w (.slice (some ⟨g, 0, none⟩) n cap) (us ++ [u]) (xss ++ [xs]) nv ns yss rv vs zss wr' where
  o := h.o.appended hu hr hg
  n := h.n.other h.o.row hg (fun k hk e => h.on k e hk)
  r := h.r.other h.o.row hg (fun k hk e => h.or k e hk)
  on := fun k hk e => by
    simp [Value.ownBlock] at hk
    subst hk
    rcases hat with h1 | h1
    · exact h.on g h1 e
    · have := (h.n.row.lt g e).2; omega
  or := fun k hk e => by
    simp [Value.ownBlock] at hk
    subst hk
    rcases hat with h1 | h1
    · exact h.or g h1 e
    · have := (h.r.row.lt g e).2; omega
  nr := h.nr
  bl := h.bl.grown hg h.bl.size (fun k e => by have := (h.o.row.lt k e).1; omega)
  p := (hg.block _ (Array.getElem?_eq_some_iff.1 h.p).1 (fun e => by have := (h.o.row.lt _ e.symm).1; omega)).trans h.p

theorem WSt.appN {u : Value} {xs : List Int} {g n cap : Nat} (h : WSt v w ov us xss nv ns yss rv vs zss wr) (hu : wr.ownsRow (w.heap.size + 1) 2 1 u xs.length (ints xs))
    (hr : wr'.ownsRow (w.heap.size + 1) 26 1 (.slice (some ⟨g, 0, none⟩) n cap) (yss.length + 1) (ns ++ [u])) (hg : wr.grownBy wr' nv.ownBlock) (hat : nv.ownBlock = some g ∨ g = wr.heap.size) :
    WSt v w ov us xss (.slice (some ⟨g, 0, none⟩) n cap) (ns ++ [u]) (yss ++ [xs]) rv vs zss wr' where
  n := h.n.appended hu hr hg
  o := h.o.other h.n.row hg (fun k hk e => h.on k hk e)
  r := h.r.other h.n.row hg (fun k hk e => h.nr k e hk)
  on := fun k hk e => by
    simp [Value.ownBlock] at e
    subst e
    rcases hat with h1 | h1
    · exact h.on _ hk h1
    · have := (h.o.row.lt _ hk).2; omega
  nr := fun k hk e => by
    simp [Value.ownBlock] at hk
    subst hk
    rcases hat with h1 | h1
    · exact h.nr g h1 e
    · have := (h.r.row.lt g e).2; omega
  or := h.or
  bl := h.bl.grown hg h.bl.size (fun k e => by have := (h.n.row.lt k e).1; omega)
  p := (hg.block _ (Array.getElem?_eq_some_iff.1 h.p).1 (fun e => by have := (h.n.row.lt _ e.symm).1; omega)).trans h.p

/-- A row of numbers that is none of the lists' own stays where an inner append writes another row of numbers. -/
theorem WSt.inner {gv : Value} {n : Nat} {xs : List Value} (h : WSt v w ov us xss nv ns yss rv vs zss wr) (hg : wr.grownBy wr' gv.ownBlock)
    (ho : ∀ k, gv.ownBlock = some k → ov.ownBlock ≠ some k ∧ nv.ownBlock ≠ some k ∧ rv.ownBlock ≠ some k ∧ (∀ u ∈ us, u.ownBlock ≠ some k) ∧ (∀ u ∈ ns, u.ownBlock ≠ some k) ∧ (∀ u ∈ vs, u.ownBlock ≠ some k) ∧ w.heap.size < k) : WSt v w ov us xss nv ns yss rv vs zss wr' where
  o := h.o.same (fun k hk => hg.block k (h.o.row.lt k hk).2 (fun e => (ho k e.symm).1 hk)) (fun u hu k hk => hg.block k (h.o.ltI hu hk).2 (fun e => (ho k e.symm).2.2.2.1 u hu hk))
  n := h.n.same (fun k hk => hg.block k (h.n.row.lt k hk).2 (fun e => (ho k e.symm).2.1 hk)) (fun u hu k hk => hg.block k (h.n.ltI hu hk).2 (fun e => (ho k e.symm).2.2.2.2.1 u hu hk))
  r := h.r.same (fun k hk => hg.block k (h.r.row.lt k hk).2 (fun e => (ho k e.symm).2.2.1 hk)) (fun u hu k hk => hg.block k (h.r.ltI hu hk).2 (fun e => (ho k e.symm).2.2.2.2.2.1 u hu hk))
  on := h.on
  or := h.or
  nr := h.nr
  bl := h.bl.grown hg h.bl.size (fun k e => by have := (ho k e).2.2.2.2.2.2; omega)
  p := (hg.block _ (Array.getElem?_eq_some_iff.1 h.p).1 (fun e => by have := (ho _ e.symm).2.2.2.2.2.2; omega)).trans h.p

/-- A block that was not there is none of theirs. -/
theorem WSt.fresh (h : WSt v w ov us xss nv ns yss rv vs zss wr) (k : Nat) (hk : wr.heap.size ≤ k) : ov.ownBlock ≠ some k ∧ nv.ownBlock ≠ some k ∧ rv.ownBlock ≠ some k ∧ (∀ u ∈ us, u.ownBlock ≠ some k) ∧ (∀ u ∈ ns, u.ownBlock ≠ some k) ∧ (∀ u ∈ vs, u.ownBlock ≠ some k) ∧ w.heap.size < k :=
  ⟨fun e => by have := (h.o.row.lt k e).2; omega, fun e => by have := (h.n.row.lt k e).2; omega, fun e => by have := (h.r.row.lt k e).2; omega, fun u hu e => by have := (h.o.ltI hu e).2; omega, fun u hu e => by have := (h.n.ltI hu e).2; omega, fun u hu e => by have := (h.r.ltI hu e).2; omega, by have := h.plt; omega⟩

end

end Go.Proofs.Ytciccbbgamklbaa
