/-
  No cell of these rows narrows 'for every input' (looked for: loops, veiled, ifaces, maps, wideKeys, modest, calm, conditions, laid).
  DERIVED. THE GIVEN ROWS OF THIS SEAT. 6 by the template 'for every input the law returns true; each argument reads behind the call as it read before'; 0 by the template 'total and deterministic' (their statements: YtnjbihfceckpfaaTotals.lean).
  GIVEN WITH THE SEED: the statements are not yours to turn. If you find one false, say at which input.
  Laid BY PROGRAM, IN A SANDBOX (cutbox-rows.mjs): the forced cells as the released guide's own fill.sh prints them over the translation a3ad2722e1678436… (all of the seat's roots in one cut). By AI agents, Wed Nov 11 2026. No macro, syntax, notation, axiom, sorry.
-/
import Derived.Test.YtnjbihfceckpfaaChecked
import GoSem.Claim
import GoSem.ClaimJoined
import GoSem.ClaimMapViews
import Derived.JoinedTies
import Derived.KernelRfl
namespace Go.Proofs.Ytnjbihfceckpfaa
/- THE CELL 'sum', in the pinned program and in every row, IS THE sha256 OF THE DUMP (.gsa) THAT YtnjbihfceckpfaaProg.lean LOADS. Nothing in Lean hashes anything: it is a label: what it is worth is what the hold of that sum in a sandbox is worth. -/
noncomputable def Try.pinned : Pinned := { name := "ytnjbihfceckpfaa", sum := "a3ad2722e16784361cf02a2f1f72697460f903c32f95c2f64e44487b7f705ea6", checked := Try.checked }
namespace Rows
def none {H : Type} : Left H := { results := [], args := [] }

/-- 'laws.FnExactEntries': WHATEVER THE INPUT: true; the input reads as it did. -/
def fnExactEntriesSpec : ChangeSpec := { name := "fnExactEntries", fn := fun _ => fun
  | [d1, d2] => { results := [.lit (.bool true)], args := [d1, d2] }
  | _ => none }
def fnExactEntriesRow : OpenClaim := { program := "ytnjbihfceckpfaa", sum := "a3ad2722e16784361cf02a2f1f72697460f903c32f95c2f64e44487b7f705ea6", func := "loop.example/g00291/laws.FnExactEntries", spec := "fnExactEntries", unfollowed := true, recurses := true, plainKeys := false, apart := false }
def FnExactEntriesSaid : Prop := fnExactEntriesRow.holds Try.pinned (OpenSpec.ofChange fnExactEntriesSpec)

/-- ITS FALSE NEIGHBOUR: 'it returns false'. Refute it at one input. -/
def fnExactEntriesWrong : ChangeSpec := { name := "fnExactEntries", fn := fun _ => fun
  | [d1, d2] => { results := [.lit (.bool false)], args := [d1, d2] }
  | _ => none }
def FnExactEntriesWrongFalsely : Prop := fnExactEntriesRow.holds Try.pinned (OpenSpec.ofChange fnExactEntriesWrong)

/-- 'laws.FnExactFacts': WHATEVER THE INPUT: true; the input reads as it did. -/
def fnExactFactsSpec : ChangeSpec := { name := "fnExactFacts", fn := fun _ => fun
  | [d1, d2] => { results := [.lit (.bool true)], args := [d1, d2] }
  | _ => none }
def fnExactFactsRow : OpenClaim := { program := "ytnjbihfceckpfaa", sum := "a3ad2722e16784361cf02a2f1f72697460f903c32f95c2f64e44487b7f705ea6", func := "loop.example/g00291/laws.FnExactFacts", spec := "fnExactFacts", unfollowed := true, recurses := true, plainKeys := false, apart := false }
def FnExactFactsSaid : Prop := fnExactFactsRow.holds Try.pinned (OpenSpec.ofChange fnExactFactsSpec)

/-- ITS FALSE NEIGHBOUR: 'it returns false'. Refute it at one input. -/
def fnExactFactsWrong : ChangeSpec := { name := "fnExactFacts", fn := fun _ => fun
  | [d1, d2] => { results := [.lit (.bool false)], args := [d1, d2] }
  | _ => none }
def FnExactFactsWrongFalsely : Prop := fnExactFactsRow.holds Try.pinned (OpenSpec.ofChange fnExactFactsWrong)

/-- 'laws.FnExactAsked': WHATEVER THE INPUT: true; the input reads as it did. -/
def fnExactAskedSpec : ChangeSpec := { name := "fnExactAsked", fn := fun _ => fun
  | [d1, d2, d3, d4, d5] => { results := [.lit (.bool true)], args := [d1, d2, d3, d4, d5] }
  | _ => none }
def fnExactAskedRow : OpenClaim := { program := "ytnjbihfceckpfaa", sum := "a3ad2722e16784361cf02a2f1f72697460f903c32f95c2f64e44487b7f705ea6", func := "loop.example/g00291/laws.FnExactAsked", spec := "fnExactAsked", unfollowed := true, recurses := true, plainKeys := false, apart := false }
def FnExactAskedSaid : Prop := fnExactAskedRow.holds Try.pinned (OpenSpec.ofChange fnExactAskedSpec)

/-- ITS FALSE NEIGHBOUR: 'it returns false'. Refute it at one input. -/
def fnExactAskedWrong : ChangeSpec := { name := "fnExactAsked", fn := fun _ => fun
  | [d1, d2, d3, d4, d5] => { results := [.lit (.bool false)], args := [d1, d2, d3, d4, d5] }
  | _ => none }
def FnExactAskedWrongFalsely : Prop := fnExactAskedRow.holds Try.pinned (OpenSpec.ofChange fnExactAskedWrong)

/-- 'laws.FnExactNowhere': WHATEVER THE INPUT: true; the input reads as it did. -/
def fnExactNowhereSpec : ChangeSpec := { name := "fnExactNowhere", fn := fun _ => fun
  | [d] => { results := [.lit (.bool true)], args := [d] }
  | _ => none }
def fnExactNowhereRow : OpenClaim := { program := "ytnjbihfceckpfaa", sum := "a3ad2722e16784361cf02a2f1f72697460f903c32f95c2f64e44487b7f705ea6", func := "loop.example/g00291/laws.FnExactNowhere", spec := "fnExactNowhere", unfollowed := true, recurses := true, plainKeys := false, apart := false }
def FnExactNowhereSaid : Prop := fnExactNowhereRow.holds Try.pinned (OpenSpec.ofChange fnExactNowhereSpec)

/-- ITS FALSE NEIGHBOUR: 'it returns false'. Refute it at one input. -/
def fnExactNowhereWrong : ChangeSpec := { name := "fnExactNowhere", fn := fun _ => fun
  | [d] => { results := [.lit (.bool false)], args := [d] }
  | _ => none }
def FnExactNowhereWrongFalsely : Prop := fnExactNowhereRow.holds Try.pinned (OpenSpec.ofChange fnExactNowhereWrong)

/-- 'laws.FnExactTests': WHATEVER THE INPUT: true; the input reads as it did. -/
def fnExactTestsSpec : ChangeSpec := { name := "fnExactTests", fn := fun _ => fun
  | [d1, d2] => { results := [.lit (.bool true)], args := [d1, d2] }
  | _ => none }
def fnExactTestsRow : OpenClaim := { program := "ytnjbihfceckpfaa", sum := "a3ad2722e16784361cf02a2f1f72697460f903c32f95c2f64e44487b7f705ea6", func := "loop.example/g00291/laws.FnExactTests", spec := "fnExactTests", unfollowed := true, recurses := true, plainKeys := false, apart := false }
def FnExactTestsSaid : Prop := fnExactTestsRow.holds Try.pinned (OpenSpec.ofChange fnExactTestsSpec)

/-- ITS FALSE NEIGHBOUR: 'it returns false'. Refute it at one input. -/
def fnExactTestsWrong : ChangeSpec := { name := "fnExactTests", fn := fun _ => fun
  | [d1, d2] => { results := [.lit (.bool false)], args := [d1, d2] }
  | _ => none }
def FnExactTestsWrongFalsely : Prop := fnExactTestsRow.holds Try.pinned (OpenSpec.ofChange fnExactTestsWrong)

/-- 'laws.FnWalks': WHATEVER THE INPUT: true; the input reads as it did. -/
def fnWalksSpec : ChangeSpec := { name := "fnWalks", fn := fun _ => fun
  | [d] => { results := [.lit (.bool true)], args := [d] }
  | _ => none }
def fnWalksRow : OpenClaim := { program := "ytnjbihfceckpfaa", sum := "a3ad2722e16784361cf02a2f1f72697460f903c32f95c2f64e44487b7f705ea6", func := "loop.example/g00291/laws.FnWalks", spec := "fnWalks", unfollowed := true, recurses := true, plainKeys := false, apart := false }
def FnWalksSaid : Prop := fnWalksRow.holds Try.pinned (OpenSpec.ofChange fnWalksSpec)

/-- ITS FALSE NEIGHBOUR: 'it returns false'. Refute it at one input. -/
def fnWalksWrong : ChangeSpec := { name := "fnWalks", fn := fun _ => fun
  | [d] => { results := [.lit (.bool false)], args := [d] }
  | _ => none }
def FnWalksWrongFalsely : Prop := fnWalksRow.holds Try.pinned (OpenSpec.ofChange fnWalksWrong)

/- THE SECOND FORM. 'bulk': how many values and letters a reading holds, each counted each time it is reached (what is shared counts as often as it is met; a slice's spare places count too). A statement '..UptoSaid' is the law's where the arguments, and the package variables that the reading takes, are together of bulk at most 1048576: NARROWER than '..Said'. Prove '..Said' where nothing that the law and all that it calls make is longer than what came in: it says more and counts as full. Else prove '..UptoSaid'. A law counts once. -/
mutual
def uptoBulk {H : Type} : DataW H → Nat
  | .lit (.string bytes) => bytes.length + 1
  | .lit _ => 1
  | .nil => 1
  | .ptr d => uptoBulk d + 1
  | .slice elems spare => uptoBulkAll elems + uptoBulkAll spare + 1
  | .agg parts => uptoBulkAll parts + 1
  | .iface _ d => uptoBulk d + 1
  | .map entries => uptoBulkEntries entries + 1
  | .held _ => 1
def uptoBulkAll {H : Type} : List (DataW H) → Nat
  | [] => 0
  | d :: r => uptoBulk d + uptoBulkAll r
def uptoBulkEntries {H : Type} : List (Lit × DataW H) → Nat
  | [] => 0
  | x :: r => uptoBulkEntry x + uptoBulkEntries r
def uptoBulkEntry {H : Type} : Lit × DataW H → Nat
  | (.string bytes, d) => bytes.length + uptoBulk d + 1
  | (_, d) => uptoBulk d + 1
 end
def uptoSmall : (H : Type) → List (DataW H) → Bool := fun _ ds => decide (uptoBulkAll ds ≤ 1048576)
def OpenSpec.upto (s : _root_.Go.ChangeSpec) : _root_.Go.OpenSpec := { _root_.Go.OpenSpec.ofChange s with cond := some uptoSmall }

/-- 'laws.FnExactEntries', WHERE WHAT IT READS IS OF BULK AT MOST 1048576: true; the input reads as it did. -/
def fnExactEntriesUptoRow : OpenClaim := { program := "ytnjbihfceckpfaa", sum := "a3ad2722e16784361cf02a2f1f72697460f903c32f95c2f64e44487b7f705ea6", func := "loop.example/g00291/laws.FnExactEntries", spec := "fnExactEntries", unfollowed := true, recurses := true, plainKeys := false, apart := false, narrowed := true }
def FnExactEntriesUptoSaid : Prop := fnExactEntriesUptoRow.holds Try.pinned (OpenSpec.upto fnExactEntriesSpec)

/-- 'laws.FnExactFacts', WHERE WHAT IT READS IS OF BULK AT MOST 1048576: true; the input reads as it did. -/
def fnExactFactsUptoRow : OpenClaim := { program := "ytnjbihfceckpfaa", sum := "a3ad2722e16784361cf02a2f1f72697460f903c32f95c2f64e44487b7f705ea6", func := "loop.example/g00291/laws.FnExactFacts", spec := "fnExactFacts", unfollowed := true, recurses := true, plainKeys := false, apart := false, narrowed := true }
def FnExactFactsUptoSaid : Prop := fnExactFactsUptoRow.holds Try.pinned (OpenSpec.upto fnExactFactsSpec)

/-- 'laws.FnExactAsked', WHERE WHAT IT READS IS OF BULK AT MOST 1048576: true; the input reads as it did. -/
def fnExactAskedUptoRow : OpenClaim := { program := "ytnjbihfceckpfaa", sum := "a3ad2722e16784361cf02a2f1f72697460f903c32f95c2f64e44487b7f705ea6", func := "loop.example/g00291/laws.FnExactAsked", spec := "fnExactAsked", unfollowed := true, recurses := true, plainKeys := false, apart := false, narrowed := true }
def FnExactAskedUptoSaid : Prop := fnExactAskedUptoRow.holds Try.pinned (OpenSpec.upto fnExactAskedSpec)

/-- 'laws.FnExactNowhere', WHERE WHAT IT READS IS OF BULK AT MOST 1048576: true; the input reads as it did. -/
def fnExactNowhereUptoRow : OpenClaim := { program := "ytnjbihfceckpfaa", sum := "a3ad2722e16784361cf02a2f1f72697460f903c32f95c2f64e44487b7f705ea6", func := "loop.example/g00291/laws.FnExactNowhere", spec := "fnExactNowhere", unfollowed := true, recurses := true, plainKeys := false, apart := false, narrowed := true }
def FnExactNowhereUptoSaid : Prop := fnExactNowhereUptoRow.holds Try.pinned (OpenSpec.upto fnExactNowhereSpec)

/-- 'laws.FnExactTests', WHERE WHAT IT READS IS OF BULK AT MOST 1048576: true; the input reads as it did. -/
def fnExactTestsUptoRow : OpenClaim := { program := "ytnjbihfceckpfaa", sum := "a3ad2722e16784361cf02a2f1f72697460f903c32f95c2f64e44487b7f705ea6", func := "loop.example/g00291/laws.FnExactTests", spec := "fnExactTests", unfollowed := true, recurses := true, plainKeys := false, apart := false, narrowed := true }
def FnExactTestsUptoSaid : Prop := fnExactTestsUptoRow.holds Try.pinned (OpenSpec.upto fnExactTestsSpec)

/-- 'laws.FnWalks', WHERE WHAT IT READS IS OF BULK AT MOST 1048576: true; the input reads as it did. -/
def fnWalksUptoRow : OpenClaim := { program := "ytnjbihfceckpfaa", sum := "a3ad2722e16784361cf02a2f1f72697460f903c32f95c2f64e44487b7f705ea6", func := "loop.example/g00291/laws.FnWalks", spec := "fnWalks", unfollowed := true, recurses := true, plainKeys := false, apart := false, narrowed := true }
def FnWalksUptoSaid : Prop := fnWalksUptoRow.holds Try.pinned (OpenSpec.upto fnWalksSpec)

end Rows
end Go.Proofs.Ytnjbihfceckpfaa
