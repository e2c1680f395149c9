/-
  DERIVED. GIVEN WITH THE SEED: THE CARDS: each row of YtoomckijepdikaaDoorRows.lean that lists a variable, with what it lists TIED to the program's text (the seventh form; the later family's looks); each row that meets fmt, with fmt's text TOLD by the authors' own Lean function (tested against real Go, not proved from fmt's source: count such statements apart). THE CARD IS WHAT COUNTS. Prove the row's statement (the work); the ties are given (YtoomckijepdikaaDoorTie.lean); close each card by the builder's one call (the guide's Derived/Test/ToyasCard.lean, 'card_holds'). Laid BY PROGRAM, IN A SANDBOX (cutbox-door.mjs). By AI agents, Wed Nov 11 2026. No macro, syntax, notation, axiom, sorry.
-/
import Derived.Test.YtoomckijepdikaaDoorRows
import GoSem.ClaimSeven
namespace Go.Proofs.YtoomckijepdikaaDoor
namespace Rows

/-- THE TIED CARD OF 'forcolalaw06.TangleValues'. -/
def tangleValuesCard : Claim7 := { stood := { row := tangleValuesRow, standIns := [], harness := (true, "f54f8004590a9e7b6fdccc787d6bb38feb50380ef2e135f5a887ba3afe281e16"), looks := false }, kinds := [], alts := [], laidByText := true, laidKinds := [.data], laidTests := true, laidLooks := .later }
def TangleValuesCardSaid : Prop := Claim7.holds Tryd.pinned (.plain (OpenSpec.ofChange tangleValuesSpec)) tangleValuesCard

/-- THE TIED CARD OF 'forcolalaw06.TangleWords'. -/
def tangleWordsCard : Claim7 := { stood := { row := tangleWordsRow, standIns := [], harness := (true, "f54f8004590a9e7b6fdccc787d6bb38feb50380ef2e135f5a887ba3afe281e16"), looks := false }, kinds := [], alts := [], laidByText := true, laidKinds := [.data], laidTests := true, laidLooks := .later }
def TangleWordsCardSaid : Prop := Claim7.holds Tryd.pinned (.plain (OpenSpec.ofChange tangleWordsSpec)) tangleWordsCard

/-- THE TIED CARD OF 'forcolalaw06.TangleConway'. -/
def tangleConwayCard : Claim7 := { stood := { row := tangleConwayRow, standIns := [], harness := (true, "f54f8004590a9e7b6fdccc787d6bb38feb50380ef2e135f5a887ba3afe281e16"), looks := false }, kinds := [], alts := [], laidByText := true, laidKinds := [.data], laidTests := true, laidLooks := .later }
def TangleConwayCardSaid : Prop := Claim7.holds Tryd.pinned (.plain (OpenSpec.ofChange tangleConwaySpec)) tangleConwayCard

/-- THE SECOND FORM's CARD OF 'forcolalaw06.TangleValues'. -/
def tangleValuesUptoCard : Claim7 := { stood := { row := tangleValuesUptoRow, standIns := [], harness := (true, "f54f8004590a9e7b6fdccc787d6bb38feb50380ef2e135f5a887ba3afe281e16"), looks := false }, kinds := [], alts := [], laidByText := true, laidKinds := [.data], laidTests := true, laidLooks := .later }
def TangleValuesUptoCardSaid : Prop := Claim7.holds Tryd.pinned (.plain (OpenSpec.upto tangleValuesSpec)) tangleValuesUptoCard

/-- THE SECOND FORM's CARD OF 'forcolalaw06.TangleWords'. -/
def tangleWordsUptoCard : Claim7 := { stood := { row := tangleWordsUptoRow, standIns := [], harness := (true, "f54f8004590a9e7b6fdccc787d6bb38feb50380ef2e135f5a887ba3afe281e16"), looks := false }, kinds := [], alts := [], laidByText := true, laidKinds := [.data], laidTests := true, laidLooks := .later }
def TangleWordsUptoCardSaid : Prop := Claim7.holds Tryd.pinned (.plain (OpenSpec.upto tangleWordsSpec)) tangleWordsUptoCard

/-- THE SECOND FORM's CARD OF 'forcolalaw06.TangleConway'. -/
def tangleConwayUptoCard : Claim7 := { stood := { row := tangleConwayUptoRow, standIns := [], harness := (true, "f54f8004590a9e7b6fdccc787d6bb38feb50380ef2e135f5a887ba3afe281e16"), looks := false }, kinds := [], alts := [], laidByText := true, laidKinds := [.data], laidTests := true, laidLooks := .later }
def TangleConwayUptoCardSaid : Prop := Claim7.holds Tryd.pinned (.plain (OpenSpec.upto tangleConwaySpec)) tangleConwayUptoCard
end Rows
end Go.Proofs.YtoomckijepdikaaDoor
