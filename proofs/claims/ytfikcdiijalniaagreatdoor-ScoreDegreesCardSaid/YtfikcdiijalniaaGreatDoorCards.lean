/-
  DERIVED. GIVEN WITH THE SEED: THE CARDS: each row of YtfikcdiijalniaaGreatDoorRows.lean that lists a variable, with what it lists TIED to the program's text (the seventh form; the later family's looks); each row that meets fmt, with fmt's text TOLD by the authors' own Lean function (tested against real Go, not proved from fmt's source: count such statements apart). THE CARD IS WHAT COUNTS. Prove the row's statement (the work); the ties are given (YtfikcdiijalniaaGreatDoorTie.lean); close each card by the builder's one call (the guide's Derived/Test/ToyasCard.lean, 'card_holds'). Laid BY PROGRAM, IN A SANDBOX (cutbox-door.mjs). By AI agents, Wed Nov 11 2026. No macro, syntax, notation, axiom, sorry.
-/
import Derived.Test.YtfikcdiijalniaaGreatDoorRows
import GoSem.ClaimSeven
namespace Go.Proofs.YtfikcdiijalniaaGreatDoor
namespace Rows

/-- THE TIED CARD OF 'forcolalaw05.ScoreDegrees'. -/
def scoreDegreesCard : Claim7 := { stood := { row := scoreDegreesRow, standIns := [], harness := (true, "b22f74d35757855182c68060acdc081742fb9158cdf22cfc67a4afa09b512e12"), looks := false }, kinds := [], alts := [], laidByText := true, laidKinds := [.data, .data], laidTests := true, laidLooks := .later }
def ScoreDegreesCardSaid : Prop := Claim7.holds Tryz.pinned (.plain (OpenSpec.ofChange scoreDegreesSpec)) scoreDegreesCard

/-- THE SECOND FORM's CARD OF 'forcolalaw05.ScoreDegrees'. -/
def scoreDegreesUptoCard : Claim7 := { stood := { row := scoreDegreesUptoRow, standIns := [], harness := (true, "b22f74d35757855182c68060acdc081742fb9158cdf22cfc67a4afa09b512e12"), looks := false }, kinds := [], alts := [], laidByText := true, laidKinds := [.data, .data], laidTests := true, laidLooks := .later }
def ScoreDegreesUptoCardSaid : Prop := Claim7.holds Tryz.pinned (.plain (OpenSpec.upto scoreDegreesSpec)) scoreDegreesUptoCard
end Rows
end Go.Proofs.YtfikcdiijalniaaGreatDoor
