/-
  DERIVED. GIVEN WITH THE SEED: THE CARDS: each row of YtfoajcmgnkadhaaDoorRows.lean that lists a variable, with what it lists TIED to the program's text (the seventh form; the later family's looks); each row that meets fmt, with fmt's text TOLD by the authors' own Lean function (tested against real Go, not proved from fmt's source: count such statements apart). THE CARD IS WHAT COUNTS. Prove the row's statement (the work); the ties are given (YtfoajcmgnkadhaaDoorTie.lean); close each card by the builder's one call (the guide's Derived/Test/ToyasCard.lean, 'card_holds'). Laid BY PROGRAM, IN A SANDBOX (cutbox-door.mjs). By AI agents, Wed Nov 11 2026. No macro, syntax, notation, axiom, sorry.
-/
import Derived.Test.YtfoajcmgnkadhaaDoorRows
import GoSem.ClaimSeven
namespace Go.Proofs.YtfoajcmgnkadhaaDoor
namespace Rows

/-- THE TIED CARD OF 'forcolalaw10.ShiftPeaks'. -/
def shiftPeaksCard : Claim7 := { stood := { row := shiftPeaksRow, standIns := [], harness := (true, "b798d4d3903c8192ed06727ac2ff0bd9c95d659a7d3652459f2391d1f096a69f"), looks := false }, kinds := [], alts := [], laidByText := true, laidKinds := [.data], laidTests := true, laidLooks := .later }
def ShiftPeaksCardSaid : Prop := Claim7.holds Tryd.pinned (.plain (OpenSpec.ofChange shiftPeaksSpec)) shiftPeaksCard

/-- THE SECOND FORM's CARD OF 'forcolalaw10.ShiftPeaks'. -/
def shiftPeaksUptoCard : Claim7 := { stood := { row := shiftPeaksUptoRow, standIns := [], harness := (true, "b798d4d3903c8192ed06727ac2ff0bd9c95d659a7d3652459f2391d1f096a69f"), looks := false }, kinds := [], alts := [], laidByText := true, laidKinds := [.data], laidTests := true, laidLooks := .later }
def ShiftPeaksUptoCardSaid : Prop := Claim7.holds Tryd.pinned (.plain (OpenSpec.upto shiftPeaksSpec)) shiftPeaksUptoCard
end Rows
end Go.Proofs.YtfoajcmgnkadhaaDoor
