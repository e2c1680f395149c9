/-
  DERIVED. GIVEN WITH THE SEED: THE CARDS: each row of YtjoefeidjgakoaaGreatDoorRows.lean that lists a variable, with what it lists TIED to the program's text (the seventh form; the later family's looks); each row that meets fmt, with fmt's text TOLD by the authors' own Lean function (tested against real Go, not proved from fmt's source: count such statements apart). THE CARD IS WHAT COUNTS. Prove the row's statement (the work); the ties are given (YtjoefeidjgakoaaGreatDoorTie.lean); close each card by the builder's one call (the guide's Derived/Test/ToyasCard.lean, 'card_holds'). Laid BY PROGRAM, IN A SANDBOX (cutbox-door.mjs). By AI agents, Wed Nov 11 2026. No macro, syntax, notation, axiom, sorry.
-/
import Derived.Test.YtjoefeidjgakoaaGreatDoorRows
import GoSem.ClaimSeven
namespace Go.Proofs.YtjoefeidjgakoaaGreatDoor
namespace Rows

/-- THE TIED CARD OF 'forcolalaw05.ScoreSays'. -/
def scoreSaysCard : Claim7 := { stood := { row := scoreSaysRow, standIns := [], harness := (true, "7d64667cbf559be4139fc588ece0235c9f66957651be68b7aa1eb4d9ef69a996"), looks := false }, kinds := [], alts := [], laidByText := true, laidKinds := [.data, .data], laidTests := true, laidLooks := .later }
def ScoreSaysCardSaid : Prop := Claim7.holds Tryz.pinned (.plain (OpenSpec.ofChange scoreSaysSpec)) scoreSaysCard

/-- THE SECOND FORM's CARD OF 'forcolalaw05.ScoreSays'. -/
def scoreSaysUptoCard : Claim7 := { stood := { row := scoreSaysUptoRow, standIns := [], harness := (true, "7d64667cbf559be4139fc588ece0235c9f66957651be68b7aa1eb4d9ef69a996"), looks := false }, kinds := [], alts := [], laidByText := true, laidKinds := [.data, .data], laidTests := true, laidLooks := .later }
def ScoreSaysUptoCardSaid : Prop := Claim7.holds Tryz.pinned (.plain (OpenSpec.upto scoreSaysSpec)) scoreSaysUptoCard
end Rows
end Go.Proofs.YtjoefeidjgakoaaGreatDoor
