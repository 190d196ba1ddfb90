/-
  No cell of these rows narrows 'for every input' (looked for: loops, veiled, ifaces, maps, wideKeys, modest, calm, conditions, laid).
  DERIVED. THE GIVEN ROWS OF THIS SEAT. 3 by the template 'for every input the law returns true; each argument reads behind the call as it read before'; 0 by the template 'total and deterministic' (their statements: YtcecfmdlefkjfaaTotals.lean).
  GIVEN WITH THE SEED: the statements are not yours to turn. If you find one false, say at which input.
  Laid BY PROGRAM, IN A SANDBOX (cutbox-rows.mjs): the forced cells as the released guide's own fill.sh prints them over the translation 2c4ec124f6b69c7a… (all of the seat's roots in one cut). By AI agents, Wed Nov 11 2026. No macro, syntax, notation, axiom, sorry.
-/
import Derived.Test.YtcecfmdlefkjfaaChecked
import GoSem.Claim
import GoSem.ClaimJoined
import GoSem.ClaimMapViews
import Derived.JoinedTies
import Derived.KernelRfl
namespace Go.Proofs.Ytcecfmdlefkjfaa
/- THE CELL 'sum', in the pinned program and in every row, IS THE sha256 OF THE DUMP (.gsa) THAT YtcecfmdlefkjfaaProg.lean LOADS. Nothing in Lean hashes anything: it is a label: what it is worth is what the hold of that sum in a sandbox is worth. -/
noncomputable def Try.pinned : Pinned := { name := "ytcecfmdlefkjfaa", sum := "2c4ec124f6b69c7aeae56e508b7ff8055f17601fba7c634a449fa0c9a1f39585", checked := Try.checked }
namespace Rows
def none {H : Type} : Left H := { results := [], args := [] }

/-- 'laws.FnKildall': WHATEVER THE INPUT: true; the input reads as it did. -/
def fnKildallSpec : ChangeSpec := { name := "fnKildall", fn := fun _ => fun
  | [d] => { results := [.lit (.bool true)], args := [d] }
  | _ => none }
def fnKildallRow : OpenClaim := { program := "ytcecfmdlefkjfaa", sum := "2c4ec124f6b69c7aeae56e508b7ff8055f17601fba7c634a449fa0c9a1f39585", func := "loop.example/g00291/laws.FnKildall", spec := "fnKildall", unfollowed := true, recurses := true, apart := false }
def FnKildallSaid : Prop := fnKildallRow.holds Try.pinned (OpenSpec.ofChange fnKildallSpec)

/-- ITS FALSE NEIGHBOUR: 'it returns false'. Refute it at one input. -/
def fnKildallWrong : ChangeSpec := { name := "fnKildall", fn := fun _ => fun
  | [d] => { results := [.lit (.bool false)], args := [d] }
  | _ => none }
def FnKildallWrongFalsely : Prop := fnKildallRow.holds Try.pinned (OpenSpec.ofChange fnKildallWrong)

/-- 'laws.FnProofs': WHATEVER THE INPUT: true; the input reads as it did. -/
def fnProofsSpec : ChangeSpec := { name := "fnProofs", fn := fun _ => fun
  | [d] => { results := [.lit (.bool true)], args := [d] }
  | _ => none }
def fnProofsRow : OpenClaim := { program := "ytcecfmdlefkjfaa", sum := "2c4ec124f6b69c7aeae56e508b7ff8055f17601fba7c634a449fa0c9a1f39585", func := "loop.example/g00291/laws.FnProofs", spec := "fnProofs", unfollowed := true, recurses := true, apart := false }
def FnProofsSaid : Prop := fnProofsRow.holds Try.pinned (OpenSpec.ofChange fnProofsSpec)

/-- ITS FALSE NEIGHBOUR: 'it returns false'. Refute it at one input. -/
def fnProofsWrong : ChangeSpec := { name := "fnProofs", fn := fun _ => fun
  | [d] => { results := [.lit (.bool false)], args := [d] }
  | _ => none }
def FnProofsWrongFalsely : Prop := fnProofsRow.holds Try.pinned (OpenSpec.ofChange fnProofsWrong)

/-- 'laws.FnLeastInside': WHATEVER THE INPUT: true; the input reads as it did. -/
def fnLeastInsideSpec : ChangeSpec := { name := "fnLeastInside", fn := fun _ => fun
  | [d] => { results := [.lit (.bool true)], args := [d] }
  | _ => none }
def fnLeastInsideRow : OpenClaim := { program := "ytcecfmdlefkjfaa", sum := "2c4ec124f6b69c7aeae56e508b7ff8055f17601fba7c634a449fa0c9a1f39585", func := "loop.example/g00291/laws.FnLeastInside", spec := "fnLeastInside", unfollowed := true, recurses := true, apart := false }
def FnLeastInsideSaid : Prop := fnLeastInsideRow.holds Try.pinned (OpenSpec.ofChange fnLeastInsideSpec)

/-- ITS FALSE NEIGHBOUR: 'it returns false'. Refute it at one input. -/
def fnLeastInsideWrong : ChangeSpec := { name := "fnLeastInside", fn := fun _ => fun
  | [d] => { results := [.lit (.bool false)], args := [d] }
  | _ => none }
def FnLeastInsideWrongFalsely : Prop := fnLeastInsideRow.holds Try.pinned (OpenSpec.ofChange fnLeastInsideWrong)

/- THE SECOND FORM. 'bulk': how many values and letters a reading holds, each counted each time it is reached (what is shared counts as often as it is met; a slice's spare places count too). A statement '..UptoSaid' is the law's where the arguments, and the package variables that the reading takes, are together of bulk at most 1048576: NARROWER than '..Said'. Prove '..Said' where nothing that the law and all that it calls make is longer than what came in: it says more and counts as full. Else prove '..UptoSaid'. A law counts once. -/
mutual
def uptoBulk {H : Type} : DataW H → Nat
  | .lit (.string bytes) => bytes.length + 1
  | .lit _ => 1
  | .nil => 1
  | .ptr d => uptoBulk d + 1
  | .slice elems spare => uptoBulkAll elems + uptoBulkAll spare + 1
  | .agg parts => uptoBulkAll parts + 1
  | .iface _ d => uptoBulk d + 1
  | .map entries => uptoBulkEntries entries + 1
  | .held _ => 1
def uptoBulkAll {H : Type} : List (DataW H) → Nat
  | [] => 0
  | d :: r => uptoBulk d + uptoBulkAll r
def uptoBulkEntries {H : Type} : List (Lit × DataW H) → Nat
  | [] => 0
  | x :: r => uptoBulkEntry x + uptoBulkEntries r
def uptoBulkEntry {H : Type} : Lit × DataW H → Nat
  | (.string bytes, d) => bytes.length + uptoBulk d + 1
  | (_, d) => uptoBulk d + 1
 end
def uptoSmall : (H : Type) → List (DataW H) → Bool := fun _ ds => decide (uptoBulkAll ds ≤ 1048576)
def OpenSpec.upto (s : _root_.Go.ChangeSpec) : _root_.Go.OpenSpec := { _root_.Go.OpenSpec.ofChange s with cond := some uptoSmall }

/-- 'laws.FnKildall', WHERE WHAT IT READS IS OF BULK AT MOST 1048576: true; the input reads as it did. -/
def fnKildallUptoRow : OpenClaim := { program := "ytcecfmdlefkjfaa", sum := "2c4ec124f6b69c7aeae56e508b7ff8055f17601fba7c634a449fa0c9a1f39585", func := "loop.example/g00291/laws.FnKildall", spec := "fnKildall", unfollowed := true, recurses := true, apart := false, narrowed := true }
def FnKildallUptoSaid : Prop := fnKildallUptoRow.holds Try.pinned (OpenSpec.upto fnKildallSpec)

/-- 'laws.FnProofs', WHERE WHAT IT READS IS OF BULK AT MOST 1048576: true; the input reads as it did. -/
def fnProofsUptoRow : OpenClaim := { program := "ytcecfmdlefkjfaa", sum := "2c4ec124f6b69c7aeae56e508b7ff8055f17601fba7c634a449fa0c9a1f39585", func := "loop.example/g00291/laws.FnProofs", spec := "fnProofs", unfollowed := true, recurses := true, apart := false, narrowed := true }
def FnProofsUptoSaid : Prop := fnProofsUptoRow.holds Try.pinned (OpenSpec.upto fnProofsSpec)

/-- 'laws.FnLeastInside', WHERE WHAT IT READS IS OF BULK AT MOST 1048576: true; the input reads as it did. -/
def fnLeastInsideUptoRow : OpenClaim := { program := "ytcecfmdlefkjfaa", sum := "2c4ec124f6b69c7aeae56e508b7ff8055f17601fba7c634a449fa0c9a1f39585", func := "loop.example/g00291/laws.FnLeastInside", spec := "fnLeastInside", unfollowed := true, recurses := true, apart := false, narrowed := true }
def FnLeastInsideUptoSaid : Prop := fnLeastInsideUptoRow.holds Try.pinned (OpenSpec.upto fnLeastInsideSpec)

end Rows
end Go.Proofs.Ytcecfmdlefkjfaa
