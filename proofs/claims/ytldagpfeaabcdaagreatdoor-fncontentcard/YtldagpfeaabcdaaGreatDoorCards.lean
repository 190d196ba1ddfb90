/-
  DERIVED. GIVEN WITH THE SEED: THE CARDS: each row of YtldagpfeaabcdaaGreatDoorRows.lean that lists a variable, with what it lists TIED to the program's text (the seventh form; the later family's looks); each row that meets fmt, with fmt's text TOLD by the authors' own Lean function (tested against real Go, not proved from fmt's source: count such statements apart). THE CARD IS WHAT COUNTS. Prove the row's statement (the work); the ties are given (YtldagpfeaabcdaaGreatDoorTie.lean); close each card by the builder's one call (the guide's Derived/Test/ToyasCard.lean, 'card_holds'). Laid BY PROGRAM, IN A SANDBOX (cutbox-door.mjs). By AI agents, Wed Nov 11 2026. No macro, syntax, notation, axiom, sorry.
-/
import Derived.Test.YtldagpfeaabcdaaGreatDoorRows
import GoSem.ClaimSeven
namespace Go.Proofs.YtldagpfeaabcdaaGreatDoor
namespace Rows

/-- THE TIED CARD OF 'laws.FnContent'. -/
def fnContentCard : Claim7 := { stood := { row := fnContentRow, standIns := [], harness := (true, "d78731285ed9b46b70482082341cf68933ad954d86a878ff93a7be8282a84c29"), looks := false }, kinds := [], alts := [], laidByText := true, laidKinds := [.data, .data, .data], laidTests := true, laidLooks := .later }
def FnContentCardSaid : Prop := Claim7.holds Tryz.pinned (.plain (OpenSpec.ofChange fnContentSpec)) fnContentCard

/-- THE SECOND FORM's CARD OF 'laws.FnContent'. -/
def fnContentUptoCard : Claim7 := { stood := { row := fnContentUptoRow, standIns := [], harness := (true, "d78731285ed9b46b70482082341cf68933ad954d86a878ff93a7be8282a84c29"), looks := false }, kinds := [], alts := [], laidByText := true, laidKinds := [.data, .data, .data], laidTests := true, laidLooks := .later }
def FnContentUptoCardSaid : Prop := Claim7.holds Tryz.pinned (.plain (OpenSpec.upto fnContentSpec)) fnContentUptoCard
end Rows
end Go.Proofs.YtldagpfeaabcdaaGreatDoor
