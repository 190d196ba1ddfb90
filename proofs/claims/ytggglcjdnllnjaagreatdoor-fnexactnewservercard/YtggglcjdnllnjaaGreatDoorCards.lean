/-
  DERIVED. GIVEN WITH THE SEED: THE CARDS: each row of YtggglcjdnllnjaaGreatDoorRows.lean that lists a variable, with what it lists TIED to the program's text (the seventh form; the later family's looks); each row that meets fmt, with fmt's text TOLD by the authors' own Lean function (tested against real Go, not proved from fmt's source: count such statements apart). THE CARD IS WHAT COUNTS. Prove the row's statement (the work); the ties are given (YtggglcjdnllnjaaGreatDoorTie.lean); close each card by the builder's one call (the guide's Derived/Test/ToyasCard.lean, 'card_holds'). Laid BY PROGRAM, IN A SANDBOX (cutbox-door.mjs). By AI agents, Wed Nov 11 2026. No macro, syntax, notation, axiom, sorry.
-/
import Derived.Test.YtggglcjdnllnjaaGreatDoorRows
import GoSem.ClaimSeven
namespace Go.Proofs.YtggglcjdnllnjaaGreatDoor
namespace Rows

/-- THE TIED CARD OF 'laws.FnExactNewServer'. -/
def fnExactNewServerCard : Claim7 := { stood := { row := fnExactNewServerRow, standIns := [], harness := (true, "a4b09537c02c860cc9c328de114761e3745235bdc27ec1053cbdec9f1acc8b53"), looks := true }, kinds := [], alts := [], laidByText := true, laidKinds := [.data, .data, .data, .data, .sentinel, .sentinel, .pinned], laidTests := true, laidLooks := .later }
def FnExactNewServerCardSaid : Prop := Claim7.holds Tryz.pinned (.plain (OpenSpec.ofChange fnExactNewServerSpec)) fnExactNewServerCard

/-- THE SECOND FORM's CARD OF 'laws.FnExactNewServer'. -/
def fnExactNewServerUptoCard : Claim7 := { stood := { row := fnExactNewServerUptoRow, standIns := [], harness := (true, "a4b09537c02c860cc9c328de114761e3745235bdc27ec1053cbdec9f1acc8b53"), looks := true }, kinds := [], alts := [], laidByText := true, laidKinds := [.data, .data, .data, .data, .sentinel, .sentinel, .pinned], laidTests := true, laidLooks := .later }
def FnExactNewServerUptoCardSaid : Prop := Claim7.holds Tryz.pinned (.plain (OpenSpec.upto fnExactNewServerSpec)) fnExactNewServerUptoCard
end Rows
end Go.Proofs.YtggglcjdnllnjaaGreatDoor
