/-
  DERIVED. GIVEN WITH THE SEED: THE CARDS: each row of YtogkblefihbgbaaDoorRows.lean that lists a variable, with what it lists TIED to the program's text (the seventh form; the later family's looks); each row that meets fmt, with fmt's text TOLD by the authors' own Lean function (tested against real Go, not proved from fmt's source: count such statements apart). THE CARD IS WHAT COUNTS. Prove the row's statement (the work); the ties are given (YtogkblefihbgbaaDoorTie.lean); close each card by the builder's one call (the guide's Derived/Test/ToyasCard.lean, 'card_holds'). Laid BY PROGRAM, IN A SANDBOX (cutbox-door.mjs). By AI agents, Wed Nov 11 2026. No macro, syntax, notation, axiom, sorry.
-/
import Derived.Test.YtogkblefihbgbaaDoorRows
import GoSem.ClaimSeven
namespace Go.Proofs.YtogkblefihbgbaaDoor
namespace Rows

/-- THE TIED CARD OF 'forcolalaw10.ShiftClaesson'. -/
def shiftClaessonCard : Claim7 := { stood := { row := shiftClaessonRow, standIns := [], harness := (true, "26259ecf5bf12609baa3c5e4afaf173df04d396c418fc44914e57db9690deb5d"), looks := false }, kinds := [], alts := [], laidByText := true, laidKinds := [.data], laidTests := true, laidLooks := .later }
def ShiftClaessonCardSaid : Prop := Claim7.holds Tryd.pinned (.plain (OpenSpec.ofChange shiftClaessonSpec)) shiftClaessonCard

/-- THE SECOND FORM's CARD OF 'forcolalaw10.ShiftClaesson'. -/
def shiftClaessonUptoCard : Claim7 := { stood := { row := shiftClaessonUptoRow, standIns := [], harness := (true, "26259ecf5bf12609baa3c5e4afaf173df04d396c418fc44914e57db9690deb5d"), looks := false }, kinds := [], alts := [], laidByText := true, laidKinds := [.data], laidTests := true, laidLooks := .later }
def ShiftClaessonUptoCardSaid : Prop := Claim7.holds Tryd.pinned (.plain (OpenSpec.upto shiftClaessonSpec)) shiftClaessonUptoCard
end Rows
end Go.Proofs.YtogkblefihbgbaaDoor
