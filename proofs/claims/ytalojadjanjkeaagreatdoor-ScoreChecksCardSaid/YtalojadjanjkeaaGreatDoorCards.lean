/-
  DERIVED. GIVEN WITH THE SEED: THE CARDS: each row of YtalojadjanjkeaaGreatDoorRows.lean that lists a variable, with what it lists TIED to the program's text (the seventh form; the later family's looks); each row that meets fmt, with fmt's text TOLD by the authors' own Lean function (tested against real Go, not proved from fmt's source: count such statements apart). THE CARD IS WHAT COUNTS. Prove the row's statement (the work); the ties are given (YtalojadjanjkeaaGreatDoorTie.lean); close each card by the builder's one call (the guide's Derived/Test/ToyasCard.lean, 'card_holds'). Laid BY PROGRAM, IN A SANDBOX (cutbox-door.mjs). By AI agents, Wed Nov 11 2026. No macro, syntax, notation, axiom, sorry.
-/
import Derived.Test.YtalojadjanjkeaaGreatDoorRows
import GoSem.ClaimSeven
namespace Go.Proofs.YtalojadjanjkeaaGreatDoor
namespace Rows

/-- THE TIED CARD OF 'forcolalaw05.ScoreHolds'. -/
def scoreHoldsCard : Claim7 := { stood := { row := scoreHoldsRow, standIns := [], harness := (true, "4fb0a9e25da9e2493adcbd8854acf9b3d9d78415fa9ea1b8cf553efef77a8ea2"), looks := false }, kinds := [], alts := [], laidByText := true, laidKinds := [.data, .data], laidTests := true, laidLooks := .later }
def ScoreHoldsCardSaid : Prop := Claim7.holds Tryz.pinned (.plain (OpenSpec.ofChange scoreHoldsSpec)) scoreHoldsCard

/-- THE TIED CARD OF 'forcolalaw05.ScoreChecks'. -/
def scoreChecksCard : Claim7 := { stood := { row := scoreChecksRow, standIns := [], harness := (true, "4fb0a9e25da9e2493adcbd8854acf9b3d9d78415fa9ea1b8cf553efef77a8ea2"), looks := false }, kinds := [], alts := [], laidByText := true, laidKinds := [.data, .data], laidTests := true, laidLooks := .later }
def ScoreChecksCardSaid : Prop := Claim7.holds Tryz.pinned (.plain (OpenSpec.ofChange scoreChecksSpec)) scoreChecksCard

/-- THE SECOND FORM's CARD OF 'forcolalaw05.ScoreHolds'. -/
def scoreHoldsUptoCard : Claim7 := { stood := { row := scoreHoldsUptoRow, standIns := [], harness := (true, "4fb0a9e25da9e2493adcbd8854acf9b3d9d78415fa9ea1b8cf553efef77a8ea2"), looks := false }, kinds := [], alts := [], laidByText := true, laidKinds := [.data, .data], laidTests := true, laidLooks := .later }
def ScoreHoldsUptoCardSaid : Prop := Claim7.holds Tryz.pinned (.plain (OpenSpec.upto scoreHoldsSpec)) scoreHoldsUptoCard

/-- THE SECOND FORM's CARD OF 'forcolalaw05.ScoreChecks'. -/
def scoreChecksUptoCard : Claim7 := { stood := { row := scoreChecksUptoRow, standIns := [], harness := (true, "4fb0a9e25da9e2493adcbd8854acf9b3d9d78415fa9ea1b8cf553efef77a8ea2"), looks := false }, kinds := [], alts := [], laidByText := true, laidKinds := [.data, .data], laidTests := true, laidLooks := .later }
def ScoreChecksUptoCardSaid : Prop := Claim7.holds Tryz.pinned (.plain (OpenSpec.upto scoreChecksSpec)) scoreChecksUptoCard
end Rows
end Go.Proofs.YtalojadjanjkeaaGreatDoor
