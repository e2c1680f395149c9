/-
  DERIVED. GIVEN WITH THE SEED: THE CARDS: each row of YtlcjjmdmobkhiaaGreatDoorRows.lean that lists a variable, with what it lists TIED to the program's text (the seventh form; the later family's looks); each row that meets fmt, with fmt's text TOLD by the authors' own Lean function (tested against real Go, not proved from fmt's source: count such statements apart). THE CARD IS WHAT COUNTS. Prove the row's statement (the work); the ties are given (YtlcjjmdmobkhiaaGreatDoorTie.lean); close each card by the builder's one call (the guide's Derived/Test/ToyasCard.lean, 'card_holds'). Laid BY PROGRAM, IN A SANDBOX (cutbox-door.mjs). By AI agents, Wed Nov 11 2026. No macro, syntax, notation, axiom, sorry.
-/
import Derived.Test.YtlcjjmdmobkhiaaGreatDoorRows
import GoSem.ClaimSeven
namespace Go.Proofs.YtlcjjmdmobkhiaaGreatDoor
namespace Rows

/-- THE TIED CARD OF 'forcolalaw10.ShiftChecks'. -/
def shiftChecksCard : Claim7 := { stood := { row := shiftChecksRow, standIns := [], harness := (true, "1c41771dfffa9cd46ebe37d98868f656f1efb2f09da8c5362b6feef3af40dcbe"), looks := false }, kinds := [], alts := [], laidByText := true, laidKinds := [.data], laidTests := true, laidLooks := .later }
def ShiftChecksCardSaid : Prop := Claim7.holds Tryz.pinned (.plain (OpenSpec.ofChange shiftChecksSpec)) shiftChecksCard

/-- THE TIED CARD OF 'forcolalaw10.ShiftJudges'. -/
def shiftJudgesCard : Claim7 := { stood := { row := shiftJudgesRow, standIns := [], harness := (true, "1c41771dfffa9cd46ebe37d98868f656f1efb2f09da8c5362b6feef3af40dcbe"), looks := false }, kinds := [], alts := [], laidByText := true, laidKinds := [.data], laidTests := true, laidLooks := .later }
def ShiftJudgesCardSaid : Prop := Claim7.holds Tryz.pinned (.plain (OpenSpec.ofChange shiftJudgesSpec)) shiftJudgesCard

/-- THE SECOND FORM's CARD OF 'forcolalaw10.ShiftChecks'. -/
def shiftChecksUptoCard : Claim7 := { stood := { row := shiftChecksUptoRow, standIns := [], harness := (true, "1c41771dfffa9cd46ebe37d98868f656f1efb2f09da8c5362b6feef3af40dcbe"), looks := false }, kinds := [], alts := [], laidByText := true, laidKinds := [.data], laidTests := true, laidLooks := .later }
def ShiftChecksUptoCardSaid : Prop := Claim7.holds Tryz.pinned (.plain (OpenSpec.upto shiftChecksSpec)) shiftChecksUptoCard

/-- THE SECOND FORM's CARD OF 'forcolalaw10.ShiftJudges'. -/
def shiftJudgesUptoCard : Claim7 := { stood := { row := shiftJudgesUptoRow, standIns := [], harness := (true, "1c41771dfffa9cd46ebe37d98868f656f1efb2f09da8c5362b6feef3af40dcbe"), looks := false }, kinds := [], alts := [], laidByText := true, laidKinds := [.data], laidTests := true, laidLooks := .later }
def ShiftJudgesUptoCardSaid : Prop := Claim7.holds Tryz.pinned (.plain (OpenSpec.upto shiftJudgesSpec)) shiftJudgesUptoCard
end Rows
end Go.Proofs.YtlcjjmdmobkhiaaGreatDoor
