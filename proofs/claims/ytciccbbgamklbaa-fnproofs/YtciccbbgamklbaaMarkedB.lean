/-
  Marked lists of lists stay as they are where nothing old has turned.
-/
import Derived.Test.YtciccbbgamklbaaMarkSS
namespace Go.Proofs.Ytciccbbgamklbaa
open Go.RowKit

theorem MarkedSS.below {base : Nat} {us : List Value} {xss : List (List Int)} {k : Int} {m : Nat} {w w' : World} (h : MarkedSS base us xss k m w) (hb : Below w.heap.size w w') : MarkedSS base us xss k m w' :=
  ⟨fun j u hj hm hu => own_kept (h.done j u hj hm hu) hb, fun j u hj hm hu => own_kept (h.todo j u hj hm hu) hb⟩

end Go.Proofs.Ytciccbbgamklbaa
