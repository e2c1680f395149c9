/-
  DERIVED. GIVEN WITH THE SEED: THE CARDS: each row of YtffcidnblfckcaaGreatDoorRows.lean that lists a variable, with what it lists TIED to the program's text (the seventh form; the later family's looks); each row that meets fmt, with fmt's text TOLD by the authors' own Lean function (tested against real Go, not proved from fmt's source: count such statements apart). THE CARD IS WHAT COUNTS. Prove the row's statement (the work); the ties are given (YtffcidnblfckcaaGreatDoorTie.lean); close each card by the builder's one call (the guide's Derived/Test/ToyasCard.lean, 'card_holds'). Laid BY PROGRAM, IN A SANDBOX (cutbox-door.mjs). By AI agents, Wed Nov 11 2026. No macro, syntax, notation, axiom, sorry.
-/
import Derived.Test.YtffcidnblfckcaaGreatDoorRows
import GoSem.ClaimSeven
namespace Go.Proofs.YtffcidnblfckcaaGreatDoor
namespace Rows

/-- THE TIED CARD OF 'forcolalaw04.PartChecks'. -/
def partChecksCard : Claim7 := { stood := { row := partChecksRow, standIns := [], harness := (true, "2d9998e5b28e2e452431e98e75c40ffae7b022d2a7927c21369ee04151a0e5e9"), looks := false }, kinds := [], alts := [], laidByText := true, laidKinds := [.data, .data], laidTests := true, laidLooks := .later }
def PartChecksCardSaid : Prop := Claim7.holds Tryz.pinned (.plain (OpenSpec.ofChange partChecksSpec)) partChecksCard

/-- THE SECOND FORM's CARD OF 'forcolalaw04.PartChecks'. -/
def partChecksUptoCard : Claim7 := { stood := { row := partChecksUptoRow, standIns := [], harness := (true, "2d9998e5b28e2e452431e98e75c40ffae7b022d2a7927c21369ee04151a0e5e9"), looks := false }, kinds := [], alts := [], laidByText := true, laidKinds := [.data, .data], laidTests := true, laidLooks := .later }
def PartChecksUptoCardSaid : Prop := Claim7.holds Tryz.pinned (.plain (OpenSpec.upto partChecksSpec)) partChecksUptoCard
end Rows
end Go.Proofs.YtffcidnblfckcaaGreatDoor
