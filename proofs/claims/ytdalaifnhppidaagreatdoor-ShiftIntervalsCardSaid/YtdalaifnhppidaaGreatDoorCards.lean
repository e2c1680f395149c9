/-
  DERIVED. GIVEN WITH THE SEED: THE CARDS: each row of YtdalaifnhppidaaGreatDoorRows.lean that lists a variable, with what it lists TIED to the program's text (the seventh form; the later family's looks); each row that meets fmt, with fmt's text TOLD by the authors' own Lean function (tested against real Go, not proved from fmt's source: count such statements apart). THE CARD IS WHAT COUNTS. Prove the row's statement (the work); the ties are given (YtdalaifnhppidaaGreatDoorTie.lean); close each card by the builder's one call (the guide's Derived/Test/ToyasCard.lean, 'card_holds'). Laid BY PROGRAM, IN A SANDBOX (cutbox-door.mjs). By AI agents, Wed Nov 11 2026. No macro, syntax, notation, axiom, sorry.
-/
import Derived.Test.YtdalaifnhppidaaGreatDoorRows
import GoSem.ClaimSeven
namespace Go.Proofs.YtdalaifnhppidaaGreatDoor
namespace Rows

/-- THE TIED CARD OF 'forcolalaw10.ShiftIntervals'. -/
def shiftIntervalsCard : Claim7 := { stood := { row := shiftIntervalsRow, standIns := [], harness := (true, "f11dc3f8e40362023f4e34a8725514f26b11d04afa1cfa12af6c7a43a4276384"), looks := false }, kinds := [], alts := [], laidByText := true, laidKinds := [.data], laidTests := true, laidLooks := .later }
def ShiftIntervalsCardSaid : Prop := Claim7.holds Tryz.pinned (.plain (OpenSpec.ofChange shiftIntervalsSpec)) shiftIntervalsCard

/-- THE TIED CARD OF 'forcolalaw10.ShiftPositions'. -/
def shiftPositionsCard : Claim7 := { stood := { row := shiftPositionsRow, standIns := [], harness := (true, "f11dc3f8e40362023f4e34a8725514f26b11d04afa1cfa12af6c7a43a4276384"), looks := false }, kinds := [], alts := [], laidByText := true, laidKinds := [.data], laidTests := true, laidLooks := .later }
def ShiftPositionsCardSaid : Prop := Claim7.holds Tryz.pinned (.plain (OpenSpec.ofChange shiftPositionsSpec)) shiftPositionsCard

/-- THE TIED CARD OF 'forcolalaw10.ShiftJudges'. -/
def shiftJudgesCard : Claim7 := { stood := { row := shiftJudgesRow, standIns := [], harness := (true, "f11dc3f8e40362023f4e34a8725514f26b11d04afa1cfa12af6c7a43a4276384"), looks := false }, kinds := [], alts := [], laidByText := true, laidKinds := [.data], laidTests := true, laidLooks := .later }
def ShiftJudgesCardSaid : Prop := Claim7.holds Tryz.pinned (.plain (OpenSpec.ofChange shiftJudgesSpec)) shiftJudgesCard

/-- THE TIED CARD OF 'forcolalaw10.ShiftScott'. -/
def shiftScottCard : Claim7 := { stood := { row := shiftScottRow, standIns := [], harness := (true, "f11dc3f8e40362023f4e34a8725514f26b11d04afa1cfa12af6c7a43a4276384"), looks := false }, kinds := [], alts := [], laidByText := true, laidKinds := [.data], laidTests := true, laidLooks := .later }
def ShiftScottCardSaid : Prop := Claim7.holds Tryz.pinned (.plain (OpenSpec.ofChange shiftScottSpec)) shiftScottCard

/-- THE SECOND FORM's CARD OF 'forcolalaw10.ShiftIntervals'. -/
def shiftIntervalsUptoCard : Claim7 := { stood := { row := shiftIntervalsUptoRow, standIns := [], harness := (true, "f11dc3f8e40362023f4e34a8725514f26b11d04afa1cfa12af6c7a43a4276384"), looks := false }, kinds := [], alts := [], laidByText := true, laidKinds := [.data], laidTests := true, laidLooks := .later }
def ShiftIntervalsUptoCardSaid : Prop := Claim7.holds Tryz.pinned (.plain (OpenSpec.upto shiftIntervalsSpec)) shiftIntervalsUptoCard

/-- THE SECOND FORM's CARD OF 'forcolalaw10.ShiftPositions'. -/
def shiftPositionsUptoCard : Claim7 := { stood := { row := shiftPositionsUptoRow, standIns := [], harness := (true, "f11dc3f8e40362023f4e34a8725514f26b11d04afa1cfa12af6c7a43a4276384"), looks := false }, kinds := [], alts := [], laidByText := true, laidKinds := [.data], laidTests := true, laidLooks := .later }
def ShiftPositionsUptoCardSaid : Prop := Claim7.holds Tryz.pinned (.plain (OpenSpec.upto shiftPositionsSpec)) shiftPositionsUptoCard

/-- THE SECOND FORM's CARD OF 'forcolalaw10.ShiftJudges'. -/
def shiftJudgesUptoCard : Claim7 := { stood := { row := shiftJudgesUptoRow, standIns := [], harness := (true, "f11dc3f8e40362023f4e34a8725514f26b11d04afa1cfa12af6c7a43a4276384"), looks := false }, kinds := [], alts := [], laidByText := true, laidKinds := [.data], laidTests := true, laidLooks := .later }
def ShiftJudgesUptoCardSaid : Prop := Claim7.holds Tryz.pinned (.plain (OpenSpec.upto shiftJudgesSpec)) shiftJudgesUptoCard

/-- THE SECOND FORM's CARD OF 'forcolalaw10.ShiftScott'. -/
def shiftScottUptoCard : Claim7 := { stood := { row := shiftScottUptoRow, standIns := [], harness := (true, "f11dc3f8e40362023f4e34a8725514f26b11d04afa1cfa12af6c7a43a4276384"), looks := false }, kinds := [], alts := [], laidByText := true, laidKinds := [.data], laidTests := true, laidLooks := .later }
def ShiftScottUptoCardSaid : Prop := Claim7.holds Tryz.pinned (.plain (OpenSpec.upto shiftScottSpec)) shiftScottUptoCard
end Rows
end Go.Proofs.YtdalaifnhppidaaGreatDoor
