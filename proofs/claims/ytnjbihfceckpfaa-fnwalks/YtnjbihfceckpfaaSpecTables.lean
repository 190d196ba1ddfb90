/-
 Chapter 10, the specification's side: l10Table, l10Round, l10Like, l10Tables.
-/
import Derived.Test.YtnjbihfceckpfaaSpecInner
namespace Go.Proofs.Ytnjbihfceckpfaa
open Go.RowKit
set_option linter.unusedVariables false
set_option linter.unusedSimpArgs false
set_option maxHeartbeats 4000000
set_option maxRecDepth 20000

/-- What l10Round has in hand. -/
structure RS (v : Value) (w : World) (ov : Value) (us : List Value) (xss : List (List Int)) (wr : World) : Prop where
 o : OwnSS wr (w.heap.size + 1) ov us xss
 bl : Below w.heap.size w wr
 p : wr.heap[w.heap.size]? = some (.cells #[v] 30 (0, 0))

theorem RS.below {v : Value} {w : World} {ov : Value} {us : List Value} {xss : List (List Int)} {wr wr' : World} (h : RS v w ov us xss wr) (hb : Below wr.heap.size wr wr') : RS v w ov us xss wr' where
 o := h.o.below hb
 bl := h.bl.trans (hb.mono h.bl.size)
 p := (hb.block _ (Array.getElem?_eq_some_iff.1 h.p).1).trans h.p

theorem RS.app {v : Value} {w : World} {ov v' u : Value} {us : List Value} {xss : List (List Int)} {xs : List Int} {W w' : World} (h : RS v w ov us xss W) (hu : W.ownsRow (w.heap.size + 1) 2 1 u xs.length (ints xs))
 (hr : w'.ownsRow (w.heap.size + 1) 26 1 v' (xss.length + 1) (us ++ [u])) (hg : W.grownBy w' ov.ownBlock) : RS v w v' (us ++ [u]) (xss ++ [xs]) w' where
 o := h.o.appended hu hr hg
 bl := h.bl.grown hg h.bl.size (fun k e => by have := (h.o.row.lt k e).1; omega)
 p := (hg.block _ (Array.getElem?_eq_some_iff.1 h.p).1 (fun e => by have := (h.o.row.lt _ e.symm).1; omega)).trans h.p

end Go.Proofs.Ytnjbihfceckpfaa
