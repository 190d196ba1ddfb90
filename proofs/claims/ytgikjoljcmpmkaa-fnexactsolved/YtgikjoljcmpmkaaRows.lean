/-
  No cell of these rows narrows 'for every input' (looked for: loops, veiled, ifaces, maps, wideKeys, modest, calm, conditions, laid).
  DERIVED. THE GIVEN ROWS OF THIS SEAT. 4 by the template 'for every input the law returns true; each argument reads behind the call as it read before'; 0 by the template 'total and deterministic' (their statements: YtgikjoljcmpmkaaTotals.lean).
  GIVEN WITH THE SEED: the statements are not yours to turn. If you find one false, say at which input.
  Laid BY PROGRAM, IN A SANDBOX (cutbox-rows.mjs): the forced cells as the released guide's own fill.sh prints them over the translation 562e2b7ded56986e… (all of the seat's roots in one cut). By AI agents, Wed Nov 11 2026. No macro, syntax, notation, axiom, sorry.
-/
import Derived.Test.YtgikjoljcmpmkaaChecked
import GoSem.Claim
import GoSem.ClaimJoined
import GoSem.ClaimMapViews
import Derived.JoinedTies
import Derived.KernelRfl
namespace Go.Proofs.Ytgikjoljcmpmkaa
/- THE CELL 'sum', in the pinned program and in every row, IS THE sha256 OF THE DUMP (.gsa) THAT YtgikjoljcmpmkaaProg.lean LOADS. Nothing in Lean hashes anything: it is a label: what it is worth is what the hold of that sum in a sandbox is worth. -/
noncomputable def Try.pinned : Pinned := { name := "ytgikjoljcmpmkaa", sum := "562e2b7ded56986ee4010af552a05448098717b0a734cc874e8be1be1b7e09d9", checked := Try.checked }
namespace Rows
def none {H : Type} : Left H := { results := [], args := [] }

/-- 'laws.FnExactAlong': WHATEVER THE INPUT: true; the input reads as it did. -/
def fnExactAlongSpec : ChangeSpec := { name := "fnExactAlong", fn := fun _ => fun
  | [d1, d2, d3, d4] => { results := [.lit (.bool true)], args := [d1, d2, d3, d4] }
  | _ => none }
def fnExactAlongRow : OpenClaim := { program := "ytgikjoljcmpmkaa", sum := "562e2b7ded56986ee4010af552a05448098717b0a734cc874e8be1be1b7e09d9", func := "loop.example/g00291/laws.FnExactAlong", spec := "fnExactAlong", unfollowed := true, recurses := true, apart := false }
def FnExactAlongSaid : Prop := fnExactAlongRow.holds Try.pinned (OpenSpec.ofChange fnExactAlongSpec)

/-- ITS FALSE NEIGHBOUR: 'it returns false'. Refute it at one input. -/
def fnExactAlongWrong : ChangeSpec := { name := "fnExactAlong", fn := fun _ => fun
  | [d1, d2, d3, d4] => { results := [.lit (.bool false)], args := [d1, d2, d3, d4] }
  | _ => none }
def FnExactAlongWrongFalsely : Prop := fnExactAlongRow.holds Try.pinned (OpenSpec.ofChange fnExactAlongWrong)

/-- 'laws.FnExactSolved': WHATEVER THE INPUT: true; the input reads as it did. -/
def fnExactSolvedSpec : ChangeSpec := { name := "fnExactSolved", fn := fun _ => fun
  | [d1, d2, d3] => { results := [.lit (.bool true)], args := [d1, d2, d3] }
  | _ => none }
def fnExactSolvedRow : OpenClaim := { program := "ytgikjoljcmpmkaa", sum := "562e2b7ded56986ee4010af552a05448098717b0a734cc874e8be1be1b7e09d9", func := "loop.example/g00291/laws.FnExactSolved", spec := "fnExactSolved", unfollowed := true, recurses := true, apart := false }
def FnExactSolvedSaid : Prop := fnExactSolvedRow.holds Try.pinned (OpenSpec.ofChange fnExactSolvedSpec)

/-- ITS FALSE NEIGHBOUR: 'it returns false'. Refute it at one input. -/
def fnExactSolvedWrong : ChangeSpec := { name := "fnExactSolved", fn := fun _ => fun
  | [d1, d2, d3] => { results := [.lit (.bool false)], args := [d1, d2, d3] }
  | _ => none }
def FnExactSolvedWrongFalsely : Prop := fnExactSolvedRow.holds Try.pinned (OpenSpec.ofChange fnExactSolvedWrong)

/-- 'laws.FnExactCovers': WHATEVER THE INPUT: true; the input reads as it did. -/
def fnExactCoversSpec : ChangeSpec := { name := "fnExactCovers", fn := fun _ => fun
  | [d1, d2, d3, d4] => { results := [.lit (.bool true)], args := [d1, d2, d3, d4] }
  | _ => none }
def fnExactCoversRow : OpenClaim := { program := "ytgikjoljcmpmkaa", sum := "562e2b7ded56986ee4010af552a05448098717b0a734cc874e8be1be1b7e09d9", func := "loop.example/g00291/laws.FnExactCovers", spec := "fnExactCovers", unfollowed := true, recurses := true, apart := false }
def FnExactCoversSaid : Prop := fnExactCoversRow.holds Try.pinned (OpenSpec.ofChange fnExactCoversSpec)

/-- ITS FALSE NEIGHBOUR: 'it returns false'. Refute it at one input. -/
def fnExactCoversWrong : ChangeSpec := { name := "fnExactCovers", fn := fun _ => fun
  | [d1, d2, d3, d4] => { results := [.lit (.bool false)], args := [d1, d2, d3, d4] }
  | _ => none }
def FnExactCoversWrongFalsely : Prop := fnExactCoversRow.holds Try.pinned (OpenSpec.ofChange fnExactCoversWrong)

/-- 'laws.FnExactProof': WHATEVER THE INPUT: true; the input reads as it did. -/
def fnExactProofSpec : ChangeSpec := { name := "fnExactProof", fn := fun _ => fun
  | [d1, d2, d3, d4, d5] => { results := [.lit (.bool true)], args := [d1, d2, d3, d4, d5] }
  | _ => none }
def fnExactProofRow : OpenClaim := { program := "ytgikjoljcmpmkaa", sum := "562e2b7ded56986ee4010af552a05448098717b0a734cc874e8be1be1b7e09d9", func := "loop.example/g00291/laws.FnExactProof", spec := "fnExactProof", unfollowed := true, recurses := true, apart := false }
def FnExactProofSaid : Prop := fnExactProofRow.holds Try.pinned (OpenSpec.ofChange fnExactProofSpec)

/-- ITS FALSE NEIGHBOUR: 'it returns false'. Refute it at one input. -/
def fnExactProofWrong : ChangeSpec := { name := "fnExactProof", fn := fun _ => fun
  | [d1, d2, d3, d4, d5] => { results := [.lit (.bool false)], args := [d1, d2, d3, d4, d5] }
  | _ => none }
def FnExactProofWrongFalsely : Prop := fnExactProofRow.holds Try.pinned (OpenSpec.ofChange fnExactProofWrong)

/- THE SECOND FORM. 'bulk': how many values and letters a reading holds, each counted each time it is reached (what is shared counts as often as it is met; a slice's spare places count too). A statement '..UptoSaid' is the law's where the arguments, and the package variables that the reading takes, are together of bulk at most 1048576: NARROWER than '..Said'. Prove '..Said' where nothing that the law and all that it calls make is longer than what came in: it says more and counts as full. Else prove '..UptoSaid'. A law counts once. -/
mutual
def uptoBulk {H : Type} : DataW H → Nat
  | .lit (.string bytes) => bytes.length + 1
  | .lit _ => 1
  | .nil => 1
  | .ptr d => uptoBulk d + 1
  | .slice elems spare => uptoBulkAll elems + uptoBulkAll spare + 1
  | .agg parts => uptoBulkAll parts + 1
  | .iface _ d => uptoBulk d + 1
  | .map entries => uptoBulkEntries entries + 1
  | .held _ => 1
def uptoBulkAll {H : Type} : List (DataW H) → Nat
  | [] => 0
  | d :: r => uptoBulk d + uptoBulkAll r
def uptoBulkEntries {H : Type} : List (Lit × DataW H) → Nat
  | [] => 0
  | x :: r => uptoBulkEntry x + uptoBulkEntries r
def uptoBulkEntry {H : Type} : Lit × DataW H → Nat
  | (.string bytes, d) => bytes.length + uptoBulk d + 1
  | (_, d) => uptoBulk d + 1
 end
def uptoSmall : (H : Type) → List (DataW H) → Bool := fun _ ds => decide (uptoBulkAll ds ≤ 1048576)
def OpenSpec.upto (s : _root_.Go.ChangeSpec) : _root_.Go.OpenSpec := { _root_.Go.OpenSpec.ofChange s with cond := some uptoSmall }

/-- 'laws.FnExactAlong', WHERE WHAT IT READS IS OF BULK AT MOST 1048576: true; the input reads as it did. -/
def fnExactAlongUptoRow : OpenClaim := { program := "ytgikjoljcmpmkaa", sum := "562e2b7ded56986ee4010af552a05448098717b0a734cc874e8be1be1b7e09d9", func := "loop.example/g00291/laws.FnExactAlong", spec := "fnExactAlong", unfollowed := true, recurses := true, apart := false, narrowed := true }
def FnExactAlongUptoSaid : Prop := fnExactAlongUptoRow.holds Try.pinned (OpenSpec.upto fnExactAlongSpec)

/-- 'laws.FnExactSolved', WHERE WHAT IT READS IS OF BULK AT MOST 1048576: true; the input reads as it did. -/
def fnExactSolvedUptoRow : OpenClaim := { program := "ytgikjoljcmpmkaa", sum := "562e2b7ded56986ee4010af552a05448098717b0a734cc874e8be1be1b7e09d9", func := "loop.example/g00291/laws.FnExactSolved", spec := "fnExactSolved", unfollowed := true, recurses := true, apart := false, narrowed := true }
def FnExactSolvedUptoSaid : Prop := fnExactSolvedUptoRow.holds Try.pinned (OpenSpec.upto fnExactSolvedSpec)

/-- 'laws.FnExactCovers', WHERE WHAT IT READS IS OF BULK AT MOST 1048576: true; the input reads as it did. -/
def fnExactCoversUptoRow : OpenClaim := { program := "ytgikjoljcmpmkaa", sum := "562e2b7ded56986ee4010af552a05448098717b0a734cc874e8be1be1b7e09d9", func := "loop.example/g00291/laws.FnExactCovers", spec := "fnExactCovers", unfollowed := true, recurses := true, apart := false, narrowed := true }
def FnExactCoversUptoSaid : Prop := fnExactCoversUptoRow.holds Try.pinned (OpenSpec.upto fnExactCoversSpec)

/-- 'laws.FnExactProof', WHERE WHAT IT READS IS OF BULK AT MOST 1048576: true; the input reads as it did. -/
def fnExactProofUptoRow : OpenClaim := { program := "ytgikjoljcmpmkaa", sum := "562e2b7ded56986ee4010af552a05448098717b0a734cc874e8be1be1b7e09d9", func := "loop.example/g00291/laws.FnExactProof", spec := "fnExactProof", unfollowed := true, recurses := true, apart := false, narrowed := true }
def FnExactProofUptoSaid : Prop := fnExactProofUptoRow.holds Try.pinned (OpenSpec.upto fnExactProofSpec)

end Rows
end Go.Proofs.Ytgikjoljcmpmkaa
