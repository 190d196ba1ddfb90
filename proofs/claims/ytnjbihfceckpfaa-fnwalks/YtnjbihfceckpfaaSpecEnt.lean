/-
 Chapter 11, the specification's side: l11Entries.
-/
import Derived.Test.YtnjbihfceckpfaaG32EntM
import Derived.Test.YtnjbihfceckpfaaSpecTables
import Derived.Test.YtnjbihfceckpfaaRelTab
import Derived.BigRegion
import Derived.Deep.RegionHeld3
namespace Go.Proofs.Ytnjbihfceckpfaa
open Go.RowKit
set_option linter.unusedVariables false
set_option linter.unusedSimpArgs false
set_option maxHeartbeats 4000000
set_option maxRecDepth 20000

theorem OwnSS.grown {w w' : World} {base B : Nat} {v : Value} {us : List Value} {xss : List (List Int)} (h : OwnSS w base v us xss) (hg : w.grownBy w' (some B)) (hB : B < base) : OwnSS w' base v us xss :=
 ⟨own_same h.row (fun k hk => hg.block k (h.row.lt k hk).2 (fun e => by have := (h.row.lt k hk).1; have := Option.some.inj e; omega)),
  fun j u xs hj hx => own_same (h.each j u xs hj hx) (fun k hk => hg.block k ((h.each j u xs hj hx).lt k hk).2 (fun e => by have := ((h.each j u xs hj hx).lt k hk).1; have := Option.some.inj e; omega))⟩

/-- What l11Entries has: the sets at the entries, and the program. -/
structure LE (v : Value) (w : World) (n : Nat) (E : List Int) (wr : World) : Prop where
 o : wr.ownsRow (w.heap.size + 1) 2 1 (.slice (some ⟨w.heap.size + 1, 0, none⟩) n n) n (ints E)
 bl : Below w.heap.size w wr
 p : wr.heap[w.heap.size]? = some (.cells #[v] 30 (0, 0))

theorem LE.below {v : Value} {w : World} {n : Nat} {E : List Int} {wr wr' : World} (h : LE v w n E wr) (hb : Below wr.heap.size wr wr') : LE v w n E wr' :=
 ⟨own_kept h.o hb, h.bl.trans (hb.mono h.bl.size), (hb.block _ (Array.getElem?_eq_some_iff.1 h.p).1).trans h.p⟩
theorem LE.set {v : Value} {w : World} {n : Nat} {E : List Int} {wr : World} (h : LE v w n E wr) (j : Nat) (x : Int) : LE v w n (E.set j x) (wr.setCell ⟨w.heap.size + 1, j, none⟩ (.int .i64 x)) := by
 have hst := h.o.stored j (.int .i64 x)
 refine ⟨?_, h.bl.grown hst.2 h.bl.size (fun k hk => by cases hk; omega), (hst.2.block _ (Array.getElem?_eq_some_iff.1 h.p).1 (fun e => by have := Option.some.inj e; omega)).trans h.p⟩
 have e : ints (E.set j x) = (ints E).set j (.int .i64 x) := by simp [ints, List.map_set]
 rw [e]
 exact hst.1
theorem LE.cell {v : Value} {w : World} {n : Nat} {E : List Int} {wr : World} (h : LE v w n E wr) (hl : E.length = n) {j : Nat} (hj : j < n) : wr.cell? ⟨w.heap.size + 1, j, none⟩ = some (.int .i64 (E.getD j 0)) ∧ wr.frozen? ⟨w.heap.size + 1, j, none⟩ = false := by
 refine ⟨(h.o.cellAt j (by omega)).trans ?_, h.o.frozenAt j⟩
 simp [ints, List.getD, hl, hj]

def roomE (w : World) (B n : Nat) : Nat := room ((List.range n).map fun i => intOf ((w.cell? ⟨B, i, none⟩).getD undef))
theorem LE.room {v : Value} {w : World} {n : Nat} {E : List Int} {wr : World} (h : LE v w n E wr) (hl : E.length = n) : roomE wr (w.heap.size + 1) n = room E := by
 unfold roomE
 congr 1
 refine List.ext_getElem (by simp [hl]) (fun i h1 h2 => ?_)
 have hi : i < n := by simpa using h1
 simp [(h.cell hl hi).1, intOf, List.getD, hl, hi]

end Go.Proofs.Ytnjbihfceckpfaa
