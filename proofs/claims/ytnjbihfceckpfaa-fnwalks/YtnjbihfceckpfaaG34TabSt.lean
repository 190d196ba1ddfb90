/-
 Put together out of: SpecEff, TabSt.
-/
import Derived.Test.YtnjbihfceckpfaaTabM
import Derived.Test.YtnjbihfceckpfaaG33ListsLaw
/-
 Chapter 10, the specification's side: l10Effect.
-/
namespace Go.Proofs.Ytnjbihfceckpfaa
open Go.RowKit
set_option linter.unusedVariables false
set_option linter.unusedSimpArgs false
set_option maxHeartbeats 4000000
set_option maxRecDepth 20000

end Go.Proofs.Ytnjbihfceckpfaa

/-
 Chapter 10: lists of relations in memory: one is put in another's place; how much room is left in them.
-/
namespace Go.Proofs.Ytnjbihfceckpfaa
open Go.RowKit
set_option linter.unusedVariables false
set_option maxHeartbeats 1000000

/-- What l10Inner has in hand. -/
structure LS (v : Value) (w : World) (ov : Value) (us : List Value) (xss : List (List Int)) (wr : World) : Prop where
 o : OwnSS wr (w.heap.size + 1) ov us xss
 bl : Below w.heap.size w wr
 p : wr.heap[w.heap.size]? = some (.cells #[v] 81 (0, 0))

theorem LS.below {v : Value} {w : World} {ov : Value} {us : List Value} {xss : List (List Int)} {wr wr' : World} (h : LS v w ov us xss wr) (hb : Below wr.heap.size wr wr') : LS v w ov us xss wr' where
 o := h.o.below hb
 bl := h.bl.trans (hb.mono h.bl.size)
 p := (hb.block _ (Array.getElem?_eq_some_iff.1 h.p).1).trans h.p

theorem LS.app {v : Value} {w : World} {ov v' u : Value} {us : List Value} {xss : List (List Int)} {xs : List Int} {W w' : World} (h : LS v w ov us xss W) (hu : W.ownsRow (w.heap.size + 1) 2 1 u xs.length (ints xs))
 (hr : w'.ownsRow (w.heap.size + 1) 26 1 v' (xss.length + 1) (us ++ [u])) (hg : W.grownBy w' ov.ownBlock) : LS v w v' (us ++ [u]) (xss ++ [xs]) w' where
 o := h.o.appended hu hr hg
 bl := h.bl.grown hg h.bl.size (fun k e => by have := (h.o.row.lt k e).1; omega)
 p := (hg.block _ (Array.getElem?_eq_some_iff.1 h.p).1 (fun e => by have := (h.o.row.lt _ e.symm).1; omega)).trans h.p

theorem own_put {base base' g n cap : Nat} {lv : Value} {us : List Value} {m : Nat} {W : World} {xs : List Value} (hl : W.ownsRow base' 2 1 lv m xs) (ho : W.ownsRow base 26 1 (.slice (some ⟨g, 0, none⟩) n cap) n us) (j : Nat) (u : Value) : (W.setCell ⟨g, j, none⟩ u).ownsRow base' 2 1 lv m xs :=
 own_same hl (fun k hk => (ho.stored j u).2.block k (hl.lt k hk).2 (fun e => row_kind hl ho (by decide) hk e.symm))

/-- Another list at place j. -/
theorem OwnSS.put {w : World} {base g cap : Nat} {u : Value} {us : List Value} {xss : List (List Int)} {xs : List Int} (h : OwnSS w base (.slice (some ⟨g, 0, none⟩) xss.length cap) us xss) (hu : w.ownsRow base 2 1 u xs.length (ints xs)) (j : Nat) :
 OwnSS (w.setCell ⟨g, j, none⟩ u) base (.slice (some ⟨g, 0, none⟩) xss.length cap) (us.set j u) (xss.set j xs) := by
 refine ⟨by simpa using (h.row.stored j u).1, fun i x ys hi hx => ?_⟩
 have hl := h.len
 by_cases e : j = i
 · subst e
   have hj : j < us.length := by have := (List.getElem?_eq_some_iff.1 hi).1; simpa using this
   rw [List.getElem?_set_self hj] at hi
   rw [List.getElem?_set_self (by omega)] at hx
   simp at hi hx
   subst hi hx
   exact own_put hu h.row j _
 · rw [List.getElem?_set_ne e] at hi hx
   exact own_put (h.each i x ys hi hx) h.row j _

theorem LS.put {v : Value} {w : World} {g cap : Nat} {u : Value} {us : List Value} {xss : List (List Int)} {xs : List Int} {wr : World} (h : LS v w (.slice (some ⟨g, 0, none⟩) xss.length cap) us xss wr) (hu : wr.ownsRow (w.heap.size + 1) 2 1 u xs.length (ints xs)) (j : Nat) :
 LS v w (.slice (some ⟨g, 0, none⟩) xss.length cap) (us.set j u) (xss.set j xs) (wr.setCell ⟨g, j, none⟩ u) where
 o := h.o.put hu j
 bl := h.bl.setCell (by have := (h.o.row.lt g rfl).1; show w.heap.size ≤ g; omega) _
 p := by
  have hg : g ≠ w.heap.size := by have := (h.o.row.lt g rfl).1; omega
  rw [heap_setCell_other wr ⟨g, j, none⟩ _ u (fun e => hg e.symm)]
  exact h.p

theorem LS.at {v : Value} {w : World} {g cap n : Nat} {us : List Value} {xss : List (List Int)} {wr : World} (hn : xss.length = n) (h : LS v w (.slice (some ⟨g, 0, none⟩) n cap) us xss wr) {j : Nat} (hj : j < n) : ∃ u, wr.cell? ⟨g, j, none⟩ = some u ∧ wr.frozen? ⟨g, j, none⟩ = false ∧ Reads wr u (ints (xss.getD j [])) := by
 subst hn
 obtain ⟨u, h1, h2, h3⟩ := h.o.at hj
 have e : xss.getD j [] = xss[j] := by simp [List.getD, hj]
 exact ⟨u, h2, h.o.row.frozenAt j, by rw [e]; exact reads_own h3⟩

end Go.Proofs.Ytnjbihfceckpfaa
