/-
  No cell of these rows narrows 'for every input' (looked for: loops, veiled, ifaces, maps, wideKeys, modest, calm, conditions, laid).
  DERIVED. THE GIVEN ROWS OF THIS SEAT. 6 by the template 'for every input the law returns true; each argument reads behind the call as it read before'; 0 by the template 'total and deterministic' (their statements: YtgnklkoifhkinaaTotals.lean).
  GIVEN WITH THE SEED: the statements are not yours to turn. If you find one false, say at which input.
  Laid BY PROGRAM, IN A SANDBOX (cutbox-rows.mjs): the forced cells as the released guide's own fill.sh prints them over the translation a750923089274171… (all of the seat's roots in one cut). By AI agents, Wed Nov 11 2026. No macro, syntax, notation, axiom, sorry.
-/
import Derived.Test.YtgnklkoifhkinaaChecked
import GoSem.Claim
import GoSem.ClaimJoined
import GoSem.ClaimMapViews
import Derived.JoinedTies
import Derived.KernelRfl
namespace Go.Proofs.Ytgnklkoifhkinaa
/- THE CELL 'sum', in the pinned program and in every row, IS THE sha256 OF THE DUMP (.gsa) THAT YtgnklkoifhkinaaProg.lean LOADS. Nothing in Lean hashes anything: it is a label: what it is worth is what the hold of that sum in a sandbox is worth. -/
noncomputable def Try.pinned : Pinned := { name := "ytgnklkoifhkinaa", sum := "a750923089274171b5c04d35d3c44c57ccc4b0c94a93a5292aeec0467e764735", checked := Try.checked }
namespace Rows
def none {H : Type} : Left H := { results := [], args := [] }

/-- 'laws.FnExactStmtOk': WHATEVER THE INPUT: true; the input reads as it did. -/
def fnExactStmtOkSpec : ChangeSpec := { name := "fnExactStmtOk", fn := fun _ => fun
  | [d] => { results := [.lit (.bool true)], args := [d] }
  | _ => none }
def fnExactStmtOkRow : OpenClaim := { program := "ytgnklkoifhkinaa", sum := "a750923089274171b5c04d35d3c44c57ccc4b0c94a93a5292aeec0467e764735", func := "loop.example/g00291/laws.FnExactStmtOk", spec := "fnExactStmtOk", apart := false }
def FnExactStmtOkSaid : Prop := fnExactStmtOkRow.holds Try.pinned (OpenSpec.ofChange fnExactStmtOkSpec)

/-- ITS FALSE NEIGHBOUR: 'it returns false'. Refute it at one input. -/
def fnExactStmtOkWrong : ChangeSpec := { name := "fnExactStmtOk", fn := fun _ => fun
  | [d] => { results := [.lit (.bool false)], args := [d] }
  | _ => none }
def FnExactStmtOkWrongFalsely : Prop := fnExactStmtOkRow.holds Try.pinned (OpenSpec.ofChange fnExactStmtOkWrong)

/-- 'laws.FnExactProcOk': WHATEVER THE INPUT: true; the input reads as it did. -/
def fnExactProcOkSpec : ChangeSpec := { name := "fnExactProcOk", fn := fun _ => fun
  | [d] => { results := [.lit (.bool true)], args := [d] }
  | _ => none }
def fnExactProcOkRow : OpenClaim := { program := "ytgnklkoifhkinaa", sum := "a750923089274171b5c04d35d3c44c57ccc4b0c94a93a5292aeec0467e764735", func := "loop.example/g00291/laws.FnExactProcOk", spec := "fnExactProcOk", apart := false }
def FnExactProcOkSaid : Prop := fnExactProcOkRow.holds Try.pinned (OpenSpec.ofChange fnExactProcOkSpec)

/-- ITS FALSE NEIGHBOUR: 'it returns false'. Refute it at one input. -/
def fnExactProcOkWrong : ChangeSpec := { name := "fnExactProcOk", fn := fun _ => fun
  | [d] => { results := [.lit (.bool false)], args := [d] }
  | _ => none }
def FnExactProcOkWrongFalsely : Prop := fnExactProcOkRow.holds Try.pinned (OpenSpec.ofChange fnExactProcOkWrong)

/-- 'laws.FnExactProgramOk': WHATEVER THE INPUT: true; the input reads as it did. -/
def fnExactProgramOkSpec : ChangeSpec := { name := "fnExactProgramOk", fn := fun _ => fun
  | [d] => { results := [.lit (.bool true)], args := [d] }
  | _ => none }
def fnExactProgramOkRow : OpenClaim := { program := "ytgnklkoifhkinaa", sum := "a750923089274171b5c04d35d3c44c57ccc4b0c94a93a5292aeec0467e764735", func := "loop.example/g00291/laws.FnExactProgramOk", spec := "fnExactProgramOk", apart := false }
def FnExactProgramOkSaid : Prop := fnExactProgramOkRow.holds Try.pinned (OpenSpec.ofChange fnExactProgramOkSpec)

/-- ITS FALSE NEIGHBOUR: 'it returns false'. Refute it at one input. -/
def fnExactProgramOkWrong : ChangeSpec := { name := "fnExactProgramOk", fn := fun _ => fun
  | [d] => { results := [.lit (.bool false)], args := [d] }
  | _ => none }
def FnExactProgramOkWrongFalsely : Prop := fnExactProgramOkRow.holds Try.pinned (OpenSpec.ofChange fnExactProgramOkWrong)

/-- 'laws.FnExactSize': WHATEVER THE INPUT: true; the input reads as it did. -/
def fnExactSizeSpec : ChangeSpec := { name := "fnExactSize", fn := fun _ => fun
  | [d] => { results := [.lit (.bool true)], args := [d] }
  | _ => none }
def fnExactSizeRow : OpenClaim := { program := "ytgnklkoifhkinaa", sum := "a750923089274171b5c04d35d3c44c57ccc4b0c94a93a5292aeec0467e764735", func := "loop.example/g00291/laws.FnExactSize", spec := "fnExactSize", apart := false }
def FnExactSizeSaid : Prop := fnExactSizeRow.holds Try.pinned (OpenSpec.ofChange fnExactSizeSpec)

/-- ITS FALSE NEIGHBOUR: 'it returns false'. Refute it at one input. -/
def fnExactSizeWrong : ChangeSpec := { name := "fnExactSize", fn := fun _ => fun
  | [d] => { results := [.lit (.bool false)], args := [d] }
  | _ => none }
def FnExactSizeWrongFalsely : Prop := fnExactSizeRow.holds Try.pinned (OpenSpec.ofChange fnExactSizeWrong)

/-- 'laws.FnExactCalls': WHATEVER THE INPUT: true; the input reads as it did. -/
def fnExactCallsSpec : ChangeSpec := { name := "fnExactCalls", fn := fun _ => fun
  | [d1, d2] => { results := [.lit (.bool true)], args := [d1, d2] }
  | _ => none }
def fnExactCallsRow : OpenClaim := { program := "ytgnklkoifhkinaa", sum := "a750923089274171b5c04d35d3c44c57ccc4b0c94a93a5292aeec0467e764735", func := "loop.example/g00291/laws.FnExactCalls", spec := "fnExactCalls", apart := false }
def FnExactCallsSaid : Prop := fnExactCallsRow.holds Try.pinned (OpenSpec.ofChange fnExactCallsSpec)

/-- ITS FALSE NEIGHBOUR: 'it returns false'. Refute it at one input. -/
def fnExactCallsWrong : ChangeSpec := { name := "fnExactCalls", fn := fun _ => fun
  | [d1, d2] => { results := [.lit (.bool false)], args := [d1, d2] }
  | _ => none }
def FnExactCallsWrongFalsely : Prop := fnExactCallsRow.holds Try.pinned (OpenSpec.ofChange fnExactCallsWrong)

/-- 'laws.FnExactCallers': WHATEVER THE INPUT: true; the input reads as it did. -/
def fnExactCallersSpec : ChangeSpec := { name := "fnExactCallers", fn := fun _ => fun
  | [d1, d2] => { results := [.lit (.bool true)], args := [d1, d2] }
  | _ => none }
def fnExactCallersRow : OpenClaim := { program := "ytgnklkoifhkinaa", sum := "a750923089274171b5c04d35d3c44c57ccc4b0c94a93a5292aeec0467e764735", func := "loop.example/g00291/laws.FnExactCallers", spec := "fnExactCallers", apart := false }
def FnExactCallersSaid : Prop := fnExactCallersRow.holds Try.pinned (OpenSpec.ofChange fnExactCallersSpec)

/-- ITS FALSE NEIGHBOUR: 'it returns false'. Refute it at one input. -/
def fnExactCallersWrong : ChangeSpec := { name := "fnExactCallers", fn := fun _ => fun
  | [d1, d2] => { results := [.lit (.bool false)], args := [d1, d2] }
  | _ => none }
def FnExactCallersWrongFalsely : Prop := fnExactCallersRow.holds Try.pinned (OpenSpec.ofChange fnExactCallersWrong)

/- THE SECOND FORM. 'bulk': how many values and letters a reading holds, each counted each time it is reached (what is shared counts as often as it is met; a slice's spare places count too). A statement '..UptoSaid' is the law's where the arguments, and the package variables that the reading takes, are together of bulk at most 1048576: NARROWER than '..Said'. Prove '..Said' where nothing that the law and all that it calls make is longer than what came in: it says more and counts as full. Else prove '..UptoSaid'. A law counts once. -/
mutual
def uptoBulk {H : Type} : DataW H → Nat
  | .lit (.string bytes) => bytes.length + 1
  | .lit _ => 1
  | .nil => 1
  | .ptr d => uptoBulk d + 1
  | .slice elems spare => uptoBulkAll elems + uptoBulkAll spare + 1
  | .agg parts => uptoBulkAll parts + 1
  | .iface _ d => uptoBulk d + 1
  | .map entries => uptoBulkEntries entries + 1
  | .held _ => 1
def uptoBulkAll {H : Type} : List (DataW H) → Nat
  | [] => 0
  | d :: r => uptoBulk d + uptoBulkAll r
def uptoBulkEntries {H : Type} : List (Lit × DataW H) → Nat
  | [] => 0
  | x :: r => uptoBulkEntry x + uptoBulkEntries r
def uptoBulkEntry {H : Type} : Lit × DataW H → Nat
  | (.string bytes, d) => bytes.length + uptoBulk d + 1
  | (_, d) => uptoBulk d + 1
 end
def uptoSmall : (H : Type) → List (DataW H) → Bool := fun _ ds => decide (uptoBulkAll ds ≤ 1048576)
def OpenSpec.upto (s : _root_.Go.ChangeSpec) : _root_.Go.OpenSpec := { _root_.Go.OpenSpec.ofChange s with cond := some uptoSmall }

/-- 'laws.FnExactStmtOk', WHERE WHAT IT READS IS OF BULK AT MOST 1048576: true; the input reads as it did. -/
def fnExactStmtOkUptoRow : OpenClaim := { program := "ytgnklkoifhkinaa", sum := "a750923089274171b5c04d35d3c44c57ccc4b0c94a93a5292aeec0467e764735", func := "loop.example/g00291/laws.FnExactStmtOk", spec := "fnExactStmtOk", apart := false, narrowed := true }
def FnExactStmtOkUptoSaid : Prop := fnExactStmtOkUptoRow.holds Try.pinned (OpenSpec.upto fnExactStmtOkSpec)

/-- 'laws.FnExactProcOk', WHERE WHAT IT READS IS OF BULK AT MOST 1048576: true; the input reads as it did. -/
def fnExactProcOkUptoRow : OpenClaim := { program := "ytgnklkoifhkinaa", sum := "a750923089274171b5c04d35d3c44c57ccc4b0c94a93a5292aeec0467e764735", func := "loop.example/g00291/laws.FnExactProcOk", spec := "fnExactProcOk", apart := false, narrowed := true }
def FnExactProcOkUptoSaid : Prop := fnExactProcOkUptoRow.holds Try.pinned (OpenSpec.upto fnExactProcOkSpec)

/-- 'laws.FnExactProgramOk', WHERE WHAT IT READS IS OF BULK AT MOST 1048576: true; the input reads as it did. -/
def fnExactProgramOkUptoRow : OpenClaim := { program := "ytgnklkoifhkinaa", sum := "a750923089274171b5c04d35d3c44c57ccc4b0c94a93a5292aeec0467e764735", func := "loop.example/g00291/laws.FnExactProgramOk", spec := "fnExactProgramOk", apart := false, narrowed := true }
def FnExactProgramOkUptoSaid : Prop := fnExactProgramOkUptoRow.holds Try.pinned (OpenSpec.upto fnExactProgramOkSpec)

/-- 'laws.FnExactSize', WHERE WHAT IT READS IS OF BULK AT MOST 1048576: true; the input reads as it did. -/
def fnExactSizeUptoRow : OpenClaim := { program := "ytgnklkoifhkinaa", sum := "a750923089274171b5c04d35d3c44c57ccc4b0c94a93a5292aeec0467e764735", func := "loop.example/g00291/laws.FnExactSize", spec := "fnExactSize", apart := false, narrowed := true }
def FnExactSizeUptoSaid : Prop := fnExactSizeUptoRow.holds Try.pinned (OpenSpec.upto fnExactSizeSpec)

/-- 'laws.FnExactCalls', WHERE WHAT IT READS IS OF BULK AT MOST 1048576: true; the input reads as it did. -/
def fnExactCallsUptoRow : OpenClaim := { program := "ytgnklkoifhkinaa", sum := "a750923089274171b5c04d35d3c44c57ccc4b0c94a93a5292aeec0467e764735", func := "loop.example/g00291/laws.FnExactCalls", spec := "fnExactCalls", apart := false, narrowed := true }
def FnExactCallsUptoSaid : Prop := fnExactCallsUptoRow.holds Try.pinned (OpenSpec.upto fnExactCallsSpec)

/-- 'laws.FnExactCallers', WHERE WHAT IT READS IS OF BULK AT MOST 1048576: true; the input reads as it did. -/
def fnExactCallersUptoRow : OpenClaim := { program := "ytgnklkoifhkinaa", sum := "a750923089274171b5c04d35d3c44c57ccc4b0c94a93a5292aeec0467e764735", func := "loop.example/g00291/laws.FnExactCallers", spec := "fnExactCallers", apart := false, narrowed := true }
def FnExactCallersUptoSaid : Prop := fnExactCallersUptoRow.holds Try.pinned (OpenSpec.upto fnExactCallersSpec)

end Rows
end Go.Proofs.Ytgnklkoifhkinaa
