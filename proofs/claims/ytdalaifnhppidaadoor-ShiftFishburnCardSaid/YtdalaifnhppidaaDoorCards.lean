/-
  DERIVED. GIVEN WITH THE SEED: THE CARDS: each row of YtdalaifnhppidaaDoorRows.lean that lists a variable, with what it lists TIED to the program's text (the seventh form; the later family's looks); each row that meets fmt, with fmt's text TOLD by the authors' own Lean function (tested against real Go, not proved from fmt's source: count such statements apart). THE CARD IS WHAT COUNTS. Prove the row's statement (the work); the ties are given (YtdalaifnhppidaaDoorTie.lean); close each card by the builder's one call (the guide's Derived/Test/ToyasCard.lean, 'card_holds'). Laid BY PROGRAM, IN A SANDBOX (cutbox-door.mjs). By AI agents, Wed Nov 11 2026. No macro, syntax, notation, axiom, sorry.
-/
import Derived.Test.YtdalaifnhppidaaDoorRows
import GoSem.ClaimSeven
namespace Go.Proofs.YtdalaifnhppidaaDoor
namespace Rows

/-- THE TIED CARD OF 'forcolalaw10.ShiftFrom'. -/
def shiftFromCard : Claim7 := { stood := { row := shiftFromRow, standIns := [], harness := (true, "e16186bbb48bc68bddf3569afea8d5a1c640ef4d9b265a89d747f70f194b3931"), looks := false }, kinds := [], alts := [], laidByText := true, laidKinds := [.data], laidTests := true, laidLooks := .later }
def ShiftFromCardSaid : Prop := Claim7.holds Tryd.pinned (.plain (OpenSpec.ofChange shiftFromSpec)) shiftFromCard

/-- THE TIED CARD OF 'forcolalaw10.ShiftFishburn'. -/
def shiftFishburnCard : Claim7 := { stood := { row := shiftFishburnRow, standIns := [], harness := (true, "e16186bbb48bc68bddf3569afea8d5a1c640ef4d9b265a89d747f70f194b3931"), looks := false }, kinds := [], alts := [], laidByText := true, laidKinds := [.data], laidTests := true, laidLooks := .later }
def ShiftFishburnCardSaid : Prop := Claim7.holds Tryd.pinned (.plain (OpenSpec.ofChange shiftFishburnSpec)) shiftFishburnCard

/-- THE SECOND FORM's CARD OF 'forcolalaw10.ShiftFrom'. -/
def shiftFromUptoCard : Claim7 := { stood := { row := shiftFromUptoRow, standIns := [], harness := (true, "e16186bbb48bc68bddf3569afea8d5a1c640ef4d9b265a89d747f70f194b3931"), looks := false }, kinds := [], alts := [], laidByText := true, laidKinds := [.data], laidTests := true, laidLooks := .later }
def ShiftFromUptoCardSaid : Prop := Claim7.holds Tryd.pinned (.plain (OpenSpec.upto shiftFromSpec)) shiftFromUptoCard

/-- THE SECOND FORM's CARD OF 'forcolalaw10.ShiftFishburn'. -/
def shiftFishburnUptoCard : Claim7 := { stood := { row := shiftFishburnUptoRow, standIns := [], harness := (true, "e16186bbb48bc68bddf3569afea8d5a1c640ef4d9b265a89d747f70f194b3931"), looks := false }, kinds := [], alts := [], laidByText := true, laidKinds := [.data], laidTests := true, laidLooks := .later }
def ShiftFishburnUptoCardSaid : Prop := Claim7.holds Tryd.pinned (.plain (OpenSpec.upto shiftFishburnSpec)) shiftFishburnUptoCard
end Rows
end Go.Proofs.YtdalaifnhppidaaDoor
