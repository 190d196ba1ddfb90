/-
  No cell of these rows narrows 'for every input' (looked for: loops, veiled, ifaces, maps, wideKeys, modest, calm, conditions, laid).
  DERIVED. THE GIVEN ROWS OF THIS SEAT. 5 by the template 'for every input the law returns true; each argument reads behind the call as it read before'; 0 by the template 'total and deterministic' (their statements: YtbpiagfmapbikaaTotals.lean).
  GIVEN WITH THE SEED: the statements are not yours to turn. If you find one false, say at which input.
  Laid BY PROGRAM, IN A SANDBOX (cutbox-rows.mjs): the forced cells as the released guide's own fill.sh prints them over the translation 28edbabbe54d2f9f… (all of the seat's roots in one cut). By AI agents, Wed Nov 11 2026. No macro, syntax, notation, axiom, sorry.
-/
import Derived.Test.YtbpiagfmapbikaaChecked
import GoSem.Claim
import GoSem.ClaimJoined
import GoSem.ClaimMapViews
import Derived.JoinedTies
import Derived.KernelRfl
namespace Go.Proofs.Ytbpiagfmapbikaa
/- THE CELL 'sum', in the pinned program and in every row, IS THE sha256 OF THE DUMP (.gsa) THAT YtbpiagfmapbikaaProg.lean LOADS. Nothing in Lean hashes anything: it is a label: what it is worth is what the hold of that sum in a sandbox is worth. -/
noncomputable def Try.pinned : Pinned := { name := "ytbpiagfmapbikaa", sum := "28edbabbe54d2f9f6b80b3ab9e5d4c8c3ab359d932aec36329dec5b19e74395c", checked := Try.checked }
namespace Rows
def none {H : Type} : Left H := { results := [], args := [] }

/-- 'laws.FnExactWays': WHATEVER THE INPUT: true; the input reads as it did. -/
def fnExactWaysSpec : ChangeSpec := { name := "fnExactWays", fn := fun _ => fun
  | [d1, d2, d3] => { results := [.lit (.bool true)], args := [d1, d2, d3] }
  | _ => none }
def fnExactWaysRow : OpenClaim := { program := "ytbpiagfmapbikaa", sum := "28edbabbe54d2f9f6b80b3ab9e5d4c8c3ab359d932aec36329dec5b19e74395c", func := "loop.example/g00291/laws.FnExactWays", spec := "fnExactWays", unfollowed := true, recurses := true, apart := false }
def FnExactWaysSaid : Prop := fnExactWaysRow.holds Try.pinned (OpenSpec.ofChange fnExactWaysSpec)

/-- ITS FALSE NEIGHBOUR: 'it returns false'. Refute it at one input. -/
def fnExactWaysWrong : ChangeSpec := { name := "fnExactWays", fn := fun _ => fun
  | [d1, d2, d3] => { results := [.lit (.bool false)], args := [d1, d2, d3] }
  | _ => none }
def FnExactWaysWrongFalsely : Prop := fnExactWaysRow.holds Try.pinned (OpenSpec.ofChange fnExactWaysWrong)

/-- 'laws.FnExactGates': WHATEVER THE INPUT: true; the input reads as it did. -/
def fnExactGatesSpec : ChangeSpec := { name := "fnExactGates", fn := fun _ => fun
  | [d1, d2] => { results := [.lit (.bool true)], args := [d1, d2] }
  | _ => none }
def fnExactGatesRow : OpenClaim := { program := "ytbpiagfmapbikaa", sum := "28edbabbe54d2f9f6b80b3ab9e5d4c8c3ab359d932aec36329dec5b19e74395c", func := "loop.example/g00291/laws.FnExactGates", spec := "fnExactGates", unfollowed := true, recurses := true, apart := false }
def FnExactGatesSaid : Prop := fnExactGatesRow.holds Try.pinned (OpenSpec.ofChange fnExactGatesSpec)

/-- ITS FALSE NEIGHBOUR: 'it returns false'. Refute it at one input. -/
def fnExactGatesWrong : ChangeSpec := { name := "fnExactGates", fn := fun _ => fun
  | [d1, d2] => { results := [.lit (.bool false)], args := [d1, d2] }
  | _ => none }
def FnExactGatesWrongFalsely : Prop := fnExactGatesRow.holds Try.pinned (OpenSpec.ofChange fnExactGatesWrong)

/-- 'laws.FnExactGate': WHATEVER THE INPUT: true; the input reads as it did. -/
def fnExactGateSpec : ChangeSpec := { name := "fnExactGate", fn := fun _ => fun
  | [d1, d2] => { results := [.lit (.bool true)], args := [d1, d2] }
  | _ => none }
def fnExactGateRow : OpenClaim := { program := "ytbpiagfmapbikaa", sum := "28edbabbe54d2f9f6b80b3ab9e5d4c8c3ab359d932aec36329dec5b19e74395c", func := "loop.example/g00291/laws.FnExactGate", spec := "fnExactGate", unfollowed := true, recurses := true, apart := false }
def FnExactGateSaid : Prop := fnExactGateRow.holds Try.pinned (OpenSpec.ofChange fnExactGateSpec)

/-- ITS FALSE NEIGHBOUR: 'it returns false'. Refute it at one input. -/
def fnExactGateWrong : ChangeSpec := { name := "fnExactGate", fn := fun _ => fun
  | [d1, d2] => { results := [.lit (.bool false)], args := [d1, d2] }
  | _ => none }
def FnExactGateWrongFalsely : Prop := fnExactGateRow.holds Try.pinned (OpenSpec.ofChange fnExactGateWrong)

/-- 'laws.FnExactLoops': WHATEVER THE INPUT: true; the input reads as it did. -/
def fnExactLoopsSpec : ChangeSpec := { name := "fnExactLoops", fn := fun _ => fun
  | [d] => { results := [.lit (.bool true)], args := [d] }
  | _ => none }
def fnExactLoopsRow : OpenClaim := { program := "ytbpiagfmapbikaa", sum := "28edbabbe54d2f9f6b80b3ab9e5d4c8c3ab359d932aec36329dec5b19e74395c", func := "loop.example/g00291/laws.FnExactLoops", spec := "fnExactLoops", unfollowed := true, recurses := true, apart := false }
def FnExactLoopsSaid : Prop := fnExactLoopsRow.holds Try.pinned (OpenSpec.ofChange fnExactLoopsSpec)

/-- ITS FALSE NEIGHBOUR: 'it returns false'. Refute it at one input. -/
def fnExactLoopsWrong : ChangeSpec := { name := "fnExactLoops", fn := fun _ => fun
  | [d] => { results := [.lit (.bool false)], args := [d] }
  | _ => none }
def FnExactLoopsWrongFalsely : Prop := fnExactLoopsRow.holds Try.pinned (OpenSpec.ofChange fnExactLoopsWrong)

/-- 'laws.FnExactBody': WHATEVER THE INPUT: true; the input reads as it did. -/
def fnExactBodySpec : ChangeSpec := { name := "fnExactBody", fn := fun _ => fun
  | [d1, d2, d3] => { results := [.lit (.bool true)], args := [d1, d2, d3] }
  | _ => none }
def fnExactBodyRow : OpenClaim := { program := "ytbpiagfmapbikaa", sum := "28edbabbe54d2f9f6b80b3ab9e5d4c8c3ab359d932aec36329dec5b19e74395c", func := "loop.example/g00291/laws.FnExactBody", spec := "fnExactBody", unfollowed := true, recurses := true, apart := false }
def FnExactBodySaid : Prop := fnExactBodyRow.holds Try.pinned (OpenSpec.ofChange fnExactBodySpec)

/-- ITS FALSE NEIGHBOUR: 'it returns false'. Refute it at one input. -/
def fnExactBodyWrong : ChangeSpec := { name := "fnExactBody", fn := fun _ => fun
  | [d1, d2, d3] => { results := [.lit (.bool false)], args := [d1, d2, d3] }
  | _ => none }
def FnExactBodyWrongFalsely : Prop := fnExactBodyRow.holds Try.pinned (OpenSpec.ofChange fnExactBodyWrong)

/- THE SECOND FORM. 'bulk': how many values and letters a reading holds, each counted each time it is reached (what is shared counts as often as it is met; a slice's spare places count too). A statement '..UptoSaid' is the law's where the arguments, and the package variables that the reading takes, are together of bulk at most 1048576: NARROWER than '..Said'. Prove '..Said' where nothing that the law and all that it calls make is longer than what came in: it says more and counts as full. Else prove '..UptoSaid'. A law counts once. -/
mutual
def uptoBulk {H : Type} : DataW H → Nat
  | .lit (.string bytes) => bytes.length + 1
  | .lit _ => 1
  | .nil => 1
  | .ptr d => uptoBulk d + 1
  | .slice elems spare => uptoBulkAll elems + uptoBulkAll spare + 1
  | .agg parts => uptoBulkAll parts + 1
  | .iface _ d => uptoBulk d + 1
  | .map entries => uptoBulkEntries entries + 1
  | .held _ => 1
def uptoBulkAll {H : Type} : List (DataW H) → Nat
  | [] => 0
  | d :: r => uptoBulk d + uptoBulkAll r
def uptoBulkEntries {H : Type} : List (Lit × DataW H) → Nat
  | [] => 0
  | x :: r => uptoBulkEntry x + uptoBulkEntries r
def uptoBulkEntry {H : Type} : Lit × DataW H → Nat
  | (.string bytes, d) => bytes.length + uptoBulk d + 1
  | (_, d) => uptoBulk d + 1
 end
def uptoSmall : (H : Type) → List (DataW H) → Bool := fun _ ds => decide (uptoBulkAll ds ≤ 1048576)
def OpenSpec.upto (s : _root_.Go.ChangeSpec) : _root_.Go.OpenSpec := { _root_.Go.OpenSpec.ofChange s with cond := some uptoSmall }

/-- 'laws.FnExactWays', WHERE WHAT IT READS IS OF BULK AT MOST 1048576: true; the input reads as it did. -/
def fnExactWaysUptoRow : OpenClaim := { program := "ytbpiagfmapbikaa", sum := "28edbabbe54d2f9f6b80b3ab9e5d4c8c3ab359d932aec36329dec5b19e74395c", func := "loop.example/g00291/laws.FnExactWays", spec := "fnExactWays", unfollowed := true, recurses := true, apart := false, narrowed := true }
def FnExactWaysUptoSaid : Prop := fnExactWaysUptoRow.holds Try.pinned (OpenSpec.upto fnExactWaysSpec)

/-- 'laws.FnExactGates', WHERE WHAT IT READS IS OF BULK AT MOST 1048576: true; the input reads as it did. -/
def fnExactGatesUptoRow : OpenClaim := { program := "ytbpiagfmapbikaa", sum := "28edbabbe54d2f9f6b80b3ab9e5d4c8c3ab359d932aec36329dec5b19e74395c", func := "loop.example/g00291/laws.FnExactGates", spec := "fnExactGates", unfollowed := true, recurses := true, apart := false, narrowed := true }
def FnExactGatesUptoSaid : Prop := fnExactGatesUptoRow.holds Try.pinned (OpenSpec.upto fnExactGatesSpec)

/-- 'laws.FnExactGate', WHERE WHAT IT READS IS OF BULK AT MOST 1048576: true; the input reads as it did. -/
def fnExactGateUptoRow : OpenClaim := { program := "ytbpiagfmapbikaa", sum := "28edbabbe54d2f9f6b80b3ab9e5d4c8c3ab359d932aec36329dec5b19e74395c", func := "loop.example/g00291/laws.FnExactGate", spec := "fnExactGate", unfollowed := true, recurses := true, apart := false, narrowed := true }
def FnExactGateUptoSaid : Prop := fnExactGateUptoRow.holds Try.pinned (OpenSpec.upto fnExactGateSpec)

/-- 'laws.FnExactLoops', WHERE WHAT IT READS IS OF BULK AT MOST 1048576: true; the input reads as it did. -/
def fnExactLoopsUptoRow : OpenClaim := { program := "ytbpiagfmapbikaa", sum := "28edbabbe54d2f9f6b80b3ab9e5d4c8c3ab359d932aec36329dec5b19e74395c", func := "loop.example/g00291/laws.FnExactLoops", spec := "fnExactLoops", unfollowed := true, recurses := true, apart := false, narrowed := true }
def FnExactLoopsUptoSaid : Prop := fnExactLoopsUptoRow.holds Try.pinned (OpenSpec.upto fnExactLoopsSpec)

/-- 'laws.FnExactBody', WHERE WHAT IT READS IS OF BULK AT MOST 1048576: true; the input reads as it did. -/
def fnExactBodyUptoRow : OpenClaim := { program := "ytbpiagfmapbikaa", sum := "28edbabbe54d2f9f6b80b3ab9e5d4c8c3ab359d932aec36329dec5b19e74395c", func := "loop.example/g00291/laws.FnExactBody", spec := "fnExactBody", unfollowed := true, recurses := true, apart := false, narrowed := true }
def FnExactBodyUptoSaid : Prop := fnExactBodyUptoRow.holds Try.pinned (OpenSpec.upto fnExactBodySpec)

end Rows
end Go.Proofs.Ytbpiagfmapbikaa
