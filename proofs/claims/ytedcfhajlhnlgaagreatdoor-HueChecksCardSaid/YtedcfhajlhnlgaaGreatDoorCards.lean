/-
  DERIVED. GIVEN WITH THE SEED: THE CARDS: each row of YtedcfhajlhnlgaaGreatDoorRows.lean that lists a variable, with what it lists TIED to the program's text (the seventh form; the later family's looks); each row that meets fmt, with fmt's text TOLD by the authors' own Lean function (tested against real Go, not proved from fmt's source: count such statements apart). THE CARD IS WHAT COUNTS. Prove the row's statement (the work); the ties are given (YtedcfhajlhnlgaaGreatDoorTie.lean); close each card by the builder's one call (the guide's Derived/Test/ToyasCard.lean, 'card_holds'). Laid BY PROGRAM, IN A SANDBOX (cutbox-door.mjs). By AI agents, Wed Nov 11 2026. No macro, syntax, notation, axiom, sorry.
-/
import Derived.Test.YtedcfhajlhnlgaaGreatDoorRows
import GoSem.ClaimSeven
namespace Go.Proofs.YtedcfhajlhnlgaaGreatDoor
namespace Rows

/-- THE TIED CARD OF 'forcolalaw07.HueChecks'. -/
def hueChecksCard : Claim7 := { stood := { row := hueChecksRow, standIns := [], harness := (true, "4d2c0e972e7563ee4858ec8e8fb2864edaf1a800ed9fb8bc20e4536fae676540"), looks := false }, kinds := [], alts := [], laidByText := true, laidKinds := [.data, .data], laidTests := true, laidLooks := .later }
def HueChecksCardSaid : Prop := Claim7.holds Tryz.pinned (.plain (OpenSpec.ofChange hueChecksSpec)) hueChecksCard

/-- THE SECOND FORM's CARD OF 'forcolalaw07.HueChecks'. -/
def hueChecksUptoCard : Claim7 := { stood := { row := hueChecksUptoRow, standIns := [], harness := (true, "4d2c0e972e7563ee4858ec8e8fb2864edaf1a800ed9fb8bc20e4536fae676540"), looks := false }, kinds := [], alts := [], laidByText := true, laidKinds := [.data, .data], laidTests := true, laidLooks := .later }
def HueChecksUptoCardSaid : Prop := Claim7.holds Tryz.pinned (.plain (OpenSpec.upto hueChecksSpec)) hueChecksUptoCard
end Rows
end Go.Proofs.YtedcfhajlhnlgaaGreatDoor
