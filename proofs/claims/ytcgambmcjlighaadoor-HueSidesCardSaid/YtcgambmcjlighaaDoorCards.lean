/-
  DERIVED. GIVEN WITH THE SEED: THE CARDS: each row of YtcgambmcjlighaaDoorRows.lean that lists a variable, with what it lists TIED to the program's text (the seventh form; the later family's looks); each row that meets fmt, with fmt's text TOLD by the authors' own Lean function (tested against real Go, not proved from fmt's source: count such statements apart). THE CARD IS WHAT COUNTS. Prove the row's statement (the work); the ties are given (YtcgambmcjlighaaDoorTie.lean); close each card by the builder's one call (the guide's Derived/Test/ToyasCard.lean, 'card_holds'). Laid BY PROGRAM, IN A SANDBOX (cutbox-door.mjs). By AI agents, Wed Nov 11 2026. No macro, syntax, notation, axiom, sorry.
-/
import Derived.Test.YtcgambmcjlighaaDoorRows
import GoSem.ClaimSeven
namespace Go.Proofs.YtcgambmcjlighaaDoor
namespace Rows

/-- THE TIED CARD OF 'forcolalaw07.HueSides'. -/
def hueSidesCard : Claim7 := { stood := { row := hueSidesRow, standIns := [], harness := (true, "5215a5b7e3e52354956ea7ed7a2ba9e8b75e0edbb13931dabf61dff616bee1d2"), looks := false }, kinds := [], alts := [], laidByText := true, laidKinds := [.data, .data], laidTests := true, laidLooks := .later }
def HueSidesCardSaid : Prop := Claim7.holds Tryd.pinned (.plain (OpenSpec.ofChange hueSidesSpec)) hueSidesCard

/-- THE TIED CARD OF 'forcolalaw07.HueOrders'. -/
def hueOrdersCard : Claim7 := { stood := { row := hueOrdersRow, standIns := [], harness := (true, "5215a5b7e3e52354956ea7ed7a2ba9e8b75e0edbb13931dabf61dff616bee1d2"), looks := false }, kinds := [], alts := [], laidByText := true, laidKinds := [.data, .data], laidTests := true, laidLooks := .later }
def HueOrdersCardSaid : Prop := Claim7.holds Tryd.pinned (.plain (OpenSpec.ofChange hueOrdersSpec)) hueOrdersCard

/-- THE SECOND FORM's CARD OF 'forcolalaw07.HueSides'. -/
def hueSidesUptoCard : Claim7 := { stood := { row := hueSidesUptoRow, standIns := [], harness := (true, "5215a5b7e3e52354956ea7ed7a2ba9e8b75e0edbb13931dabf61dff616bee1d2"), looks := false }, kinds := [], alts := [], laidByText := true, laidKinds := [.data, .data], laidTests := true, laidLooks := .later }
def HueSidesUptoCardSaid : Prop := Claim7.holds Tryd.pinned (.plain (OpenSpec.upto hueSidesSpec)) hueSidesUptoCard

/-- THE SECOND FORM's CARD OF 'forcolalaw07.HueOrders'. -/
def hueOrdersUptoCard : Claim7 := { stood := { row := hueOrdersUptoRow, standIns := [], harness := (true, "5215a5b7e3e52354956ea7ed7a2ba9e8b75e0edbb13931dabf61dff616bee1d2"), looks := false }, kinds := [], alts := [], laidByText := true, laidKinds := [.data, .data], laidTests := true, laidLooks := .later }
def HueOrdersUptoCardSaid : Prop := Claim7.holds Tryd.pinned (.plain (OpenSpec.upto hueOrdersSpec)) hueOrdersUptoCard
end Rows
end Go.Proofs.YtcgambmcjlighaaDoor
