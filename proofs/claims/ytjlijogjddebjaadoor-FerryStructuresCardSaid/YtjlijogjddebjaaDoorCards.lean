/-
  DERIVED. GIVEN WITH THE SEED: THE CARDS: each row of YtjlijogjddebjaaDoorRows.lean that lists a variable, with what it lists TIED to the program's text (the seventh form; the later family's looks); each row that meets fmt, with fmt's text TOLD by the authors' own Lean function (tested against real Go, not proved from fmt's source: count such statements apart). THE CARD IS WHAT COUNTS. Prove the row's statement (the work); the ties are given (YtjlijogjddebjaaDoorTie.lean); close each card by the builder's one call (the guide's Derived/Test/ToyasCard.lean, 'card_holds'). Laid BY PROGRAM, IN A SANDBOX (cutbox-door.mjs). By AI agents, Wed Nov 11 2026. No macro, syntax, notation, axiom, sorry.
-/
import Derived.Test.YtjlijogjddebjaaDoorRows
import GoSem.ClaimSeven
namespace Go.Proofs.YtjlijogjddebjaaDoor
namespace Rows

/-- THE TIED CARD OF 'forcolalaw08.FerryCovers'. -/
def ferryCoversCard : Claim7 := { stood := { row := ferryCoversRow, standIns := [], harness := (true, "479e2b175b9f6fd74f884cbc34d036a816c809c0aff82f853bed958070b0801a"), looks := false }, kinds := [], alts := [], laidByText := true, laidKinds := [.data, .data], laidTests := true, laidLooks := .later }
def FerryCoversCardSaid : Prop := Claim7.holds Tryd.pinned (.plain (OpenSpec.ofChange ferryCoversSpec)) ferryCoversCard

/-- THE TIED CARD OF 'forcolalaw08.FerryJudges'. -/
def ferryJudgesCard : Claim7 := { stood := { row := ferryJudgesRow, standIns := [], harness := (true, "479e2b175b9f6fd74f884cbc34d036a816c809c0aff82f853bed958070b0801a"), looks := false }, kinds := [], alts := [], laidByText := true, laidKinds := [.data, .data], laidTests := true, laidLooks := .later }
def FerryJudgesCardSaid : Prop := Claim7.holds Tryd.pinned (.plain (OpenSpec.ofChange ferryJudgesSpec)) ferryJudgesCard

/-- THE TIED CARD OF 'forcolalaw08.FerryStructures'. -/
def ferryStructuresCard : Claim7 := { stood := { row := ferryStructuresRow, standIns := [], harness := (true, "479e2b175b9f6fd74f884cbc34d036a816c809c0aff82f853bed958070b0801a"), looks := false }, kinds := [], alts := [], laidByText := true, laidKinds := [.data, .data], laidTests := true, laidLooks := .later }
def FerryStructuresCardSaid : Prop := Claim7.holds Tryd.pinned (.plain (OpenSpec.ofChange ferryStructuresSpec)) ferryStructuresCard

/-- THE TIED CARD OF 'forcolalaw08.FerryFives'. -/
def ferryFivesCard : Claim7 := { stood := { row := ferryFivesRow, standIns := [], harness := (true, "479e2b175b9f6fd74f884cbc34d036a816c809c0aff82f853bed958070b0801a"), looks := false }, kinds := [], alts := [], laidByText := true, laidKinds := [.data, .data], laidTests := true, laidLooks := .later }
def FerryFivesCardSaid : Prop := Claim7.holds Tryd.pinned (.plain (OpenSpec.ofChange ferryFivesSpec)) ferryFivesCard

/-- THE SECOND FORM's CARD OF 'forcolalaw08.FerryCovers'. -/
def ferryCoversUptoCard : Claim7 := { stood := { row := ferryCoversUptoRow, standIns := [], harness := (true, "479e2b175b9f6fd74f884cbc34d036a816c809c0aff82f853bed958070b0801a"), looks := false }, kinds := [], alts := [], laidByText := true, laidKinds := [.data, .data], laidTests := true, laidLooks := .later }
def FerryCoversUptoCardSaid : Prop := Claim7.holds Tryd.pinned (.plain (OpenSpec.upto ferryCoversSpec)) ferryCoversUptoCard

/-- THE SECOND FORM's CARD OF 'forcolalaw08.FerryJudges'. -/
def ferryJudgesUptoCard : Claim7 := { stood := { row := ferryJudgesUptoRow, standIns := [], harness := (true, "479e2b175b9f6fd74f884cbc34d036a816c809c0aff82f853bed958070b0801a"), looks := false }, kinds := [], alts := [], laidByText := true, laidKinds := [.data, .data], laidTests := true, laidLooks := .later }
def FerryJudgesUptoCardSaid : Prop := Claim7.holds Tryd.pinned (.plain (OpenSpec.upto ferryJudgesSpec)) ferryJudgesUptoCard

/-- THE SECOND FORM's CARD OF 'forcolalaw08.FerryStructures'. -/
def ferryStructuresUptoCard : Claim7 := { stood := { row := ferryStructuresUptoRow, standIns := [], harness := (true, "479e2b175b9f6fd74f884cbc34d036a816c809c0aff82f853bed958070b0801a"), looks := false }, kinds := [], alts := [], laidByText := true, laidKinds := [.data, .data], laidTests := true, laidLooks := .later }
def FerryStructuresUptoCardSaid : Prop := Claim7.holds Tryd.pinned (.plain (OpenSpec.upto ferryStructuresSpec)) ferryStructuresUptoCard

/-- THE SECOND FORM's CARD OF 'forcolalaw08.FerryFives'. -/
def ferryFivesUptoCard : Claim7 := { stood := { row := ferryFivesUptoRow, standIns := [], harness := (true, "479e2b175b9f6fd74f884cbc34d036a816c809c0aff82f853bed958070b0801a"), looks := false }, kinds := [], alts := [], laidByText := true, laidKinds := [.data, .data], laidTests := true, laidLooks := .later }
def FerryFivesUptoCardSaid : Prop := Claim7.holds Tryd.pinned (.plain (OpenSpec.upto ferryFivesSpec)) ferryFivesUptoCard
end Rows
end Go.Proofs.YtjlijogjddebjaaDoor
