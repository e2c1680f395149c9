/-
  DERIVED. GIVEN WITH THE SEED: THE CARDS: each row of YtmcgmligdnpejaaDoorRows.lean that lists a variable, with what it lists TIED to the program's text (the seventh form; the later family's looks); each row that meets fmt, with fmt's text TOLD by the authors' own Lean function (tested against real Go, not proved from fmt's source: count such statements apart). THE CARD IS WHAT COUNTS. Prove the row's statement (the work); the ties are given (YtmcgmligdnpejaaDoorTie.lean); close each card by the builder's one call (the guide's Derived/Test/ToyasCard.lean, 'card_holds'). Laid BY PROGRAM, IN A SANDBOX (cutbox-door.mjs). By AI agents, Wed Nov 11 2026. No macro, syntax, notation, axiom, sorry.
-/
import Derived.Test.YtmcgmligdnpejaaDoorRows
import GoSem.ClaimSeven
namespace Go.Proofs.YtmcgmligdnpejaaDoor
namespace Rows

/-- THE TIED CARD OF 'forcolalaw06.TangleValues'. -/
def tangleValuesCard : Claim7 := { stood := { row := tangleValuesRow, standIns := [], harness := (true, "a629a9ad409e6db6fd553371e4961b4464f2371e51bbfdca68825c4776294b1e"), looks := false }, kinds := [], alts := [], laidByText := true, laidKinds := [.data], laidTests := true, laidLooks := .later }
def TangleValuesCardSaid : Prop := Claim7.holds Tryd.pinned (.plain (OpenSpec.ofChange tangleValuesSpec)) tangleValuesCard

/-- THE TIED CARD OF 'forcolalaw06.TangleWords'. -/
def tangleWordsCard : Claim7 := { stood := { row := tangleWordsRow, standIns := [], harness := (true, "a629a9ad409e6db6fd553371e4961b4464f2371e51bbfdca68825c4776294b1e"), looks := false }, kinds := [], alts := [], laidByText := true, laidKinds := [.data], laidTests := true, laidLooks := .later }
def TangleWordsCardSaid : Prop := Claim7.holds Tryd.pinned (.plain (OpenSpec.ofChange tangleWordsSpec)) tangleWordsCard

/-- THE TIED CARD OF 'forcolalaw06.TangleLinks'. -/
def tangleLinksCard : Claim7 := { stood := { row := tangleLinksRow, standIns := [], harness := (true, "a629a9ad409e6db6fd553371e4961b4464f2371e51bbfdca68825c4776294b1e"), looks := false }, kinds := [], alts := [], laidByText := true, laidKinds := [.data], laidTests := true, laidLooks := .later }
def TangleLinksCardSaid : Prop := Claim7.holds Tryd.pinned (.plain (OpenSpec.ofChange tangleLinksSpec)) tangleLinksCard

/-- THE TIED CARD OF 'forcolalaw06.TangleSames'. -/
def tangleSamesCard : Claim7 := { stood := { row := tangleSamesRow, standIns := [], harness := (true, "a629a9ad409e6db6fd553371e4961b4464f2371e51bbfdca68825c4776294b1e"), looks := false }, kinds := [], alts := [], laidByText := true, laidKinds := [.data], laidTests := true, laidLooks := .later }
def TangleSamesCardSaid : Prop := Claim7.holds Tryd.pinned (.plain (OpenSpec.ofChange tangleSamesSpec)) tangleSamesCard

/-- THE TIED CARD OF 'forcolalaw06.TangleTerms'. -/
def tangleTermsCard : Claim7 := { stood := { row := tangleTermsRow, standIns := [], harness := (true, "a629a9ad409e6db6fd553371e4961b4464f2371e51bbfdca68825c4776294b1e"), looks := false }, kinds := [], alts := [], laidByText := true, laidKinds := [.data], laidTests := true, laidLooks := .later }
def TangleTermsCardSaid : Prop := Claim7.holds Tryd.pinned (.plain (OpenSpec.ofChange tangleTermsSpec)) tangleTermsCard

/-- THE TIED CARD OF 'forcolalaw06.TangleLists'. -/
def tangleListsCard : Claim7 := { stood := { row := tangleListsRow, standIns := [], harness := (true, "a629a9ad409e6db6fd553371e4961b4464f2371e51bbfdca68825c4776294b1e"), looks := false }, kinds := [], alts := [], laidByText := true, laidKinds := [.data], laidTests := true, laidLooks := .later }
def TangleListsCardSaid : Prop := Claim7.holds Tryd.pinned (.plain (OpenSpec.ofChange tangleListsSpec)) tangleListsCard

/-- THE TIED CARD OF 'forcolalaw06.TangleCloses'. -/
def tangleClosesCard : Claim7 := { stood := { row := tangleClosesRow, standIns := [], harness := (true, "a629a9ad409e6db6fd553371e4961b4464f2371e51bbfdca68825c4776294b1e"), looks := false }, kinds := [], alts := [], laidByText := true, laidKinds := [.data], laidTests := true, laidLooks := .later }
def TangleClosesCardSaid : Prop := Claim7.holds Tryd.pinned (.plain (OpenSpec.ofChange tangleClosesSpec)) tangleClosesCard

/-- THE TIED CARD OF 'forcolalaw06.TangleConway'. -/
def tangleConwayCard : Claim7 := { stood := { row := tangleConwayRow, standIns := [], harness := (true, "a629a9ad409e6db6fd553371e4961b4464f2371e51bbfdca68825c4776294b1e"), looks := false }, kinds := [], alts := [], laidByText := true, laidKinds := [.data], laidTests := true, laidLooks := .later }
def TangleConwayCardSaid : Prop := Claim7.holds Tryd.pinned (.plain (OpenSpec.ofChange tangleConwaySpec)) tangleConwayCard

/-- THE TIED CARD OF 'forcolalaw06.TangleSchubert'. -/
def tangleSchubertCard : Claim7 := { stood := { row := tangleSchubertRow, standIns := [], harness := (true, "a629a9ad409e6db6fd553371e4961b4464f2371e51bbfdca68825c4776294b1e"), looks := false }, kinds := [], alts := [], laidByText := true, laidKinds := [.data], laidTests := true, laidLooks := .later }
def TangleSchubertCardSaid : Prop := Claim7.holds Tryd.pinned (.plain (OpenSpec.ofChange tangleSchubertSpec)) tangleSchubertCard

/-- THE TIED CARD OF 'forcolalaw06.TangleErnst'. -/
def tangleErnstCard : Claim7 := { stood := { row := tangleErnstRow, standIns := [], harness := (true, "a629a9ad409e6db6fd553371e4961b4464f2371e51bbfdca68825c4776294b1e"), looks := false }, kinds := [], alts := [], laidByText := true, laidKinds := [.data], laidTests := true, laidLooks := .later }
def TangleErnstCardSaid : Prop := Claim7.holds Tryd.pinned (.plain (OpenSpec.ofChange tangleErnstSpec)) tangleErnstCard

/-- THE SECOND FORM's CARD OF 'forcolalaw06.TangleValues'. -/
def tangleValuesUptoCard : Claim7 := { stood := { row := tangleValuesUptoRow, standIns := [], harness := (true, "a629a9ad409e6db6fd553371e4961b4464f2371e51bbfdca68825c4776294b1e"), looks := false }, kinds := [], alts := [], laidByText := true, laidKinds := [.data], laidTests := true, laidLooks := .later }
def TangleValuesUptoCardSaid : Prop := Claim7.holds Tryd.pinned (.plain (OpenSpec.upto tangleValuesSpec)) tangleValuesUptoCard

/-- THE SECOND FORM's CARD OF 'forcolalaw06.TangleWords'. -/
def tangleWordsUptoCard : Claim7 := { stood := { row := tangleWordsUptoRow, standIns := [], harness := (true, "a629a9ad409e6db6fd553371e4961b4464f2371e51bbfdca68825c4776294b1e"), looks := false }, kinds := [], alts := [], laidByText := true, laidKinds := [.data], laidTests := true, laidLooks := .later }
def TangleWordsUptoCardSaid : Prop := Claim7.holds Tryd.pinned (.plain (OpenSpec.upto tangleWordsSpec)) tangleWordsUptoCard

/-- THE SECOND FORM's CARD OF 'forcolalaw06.TangleLinks'. -/
def tangleLinksUptoCard : Claim7 := { stood := { row := tangleLinksUptoRow, standIns := [], harness := (true, "a629a9ad409e6db6fd553371e4961b4464f2371e51bbfdca68825c4776294b1e"), looks := false }, kinds := [], alts := [], laidByText := true, laidKinds := [.data], laidTests := true, laidLooks := .later }
def TangleLinksUptoCardSaid : Prop := Claim7.holds Tryd.pinned (.plain (OpenSpec.upto tangleLinksSpec)) tangleLinksUptoCard

/-- THE SECOND FORM's CARD OF 'forcolalaw06.TangleSames'. -/
def tangleSamesUptoCard : Claim7 := { stood := { row := tangleSamesUptoRow, standIns := [], harness := (true, "a629a9ad409e6db6fd553371e4961b4464f2371e51bbfdca68825c4776294b1e"), looks := false }, kinds := [], alts := [], laidByText := true, laidKinds := [.data], laidTests := true, laidLooks := .later }
def TangleSamesUptoCardSaid : Prop := Claim7.holds Tryd.pinned (.plain (OpenSpec.upto tangleSamesSpec)) tangleSamesUptoCard

/-- THE SECOND FORM's CARD OF 'forcolalaw06.TangleTerms'. -/
def tangleTermsUptoCard : Claim7 := { stood := { row := tangleTermsUptoRow, standIns := [], harness := (true, "a629a9ad409e6db6fd553371e4961b4464f2371e51bbfdca68825c4776294b1e"), looks := false }, kinds := [], alts := [], laidByText := true, laidKinds := [.data], laidTests := true, laidLooks := .later }
def TangleTermsUptoCardSaid : Prop := Claim7.holds Tryd.pinned (.plain (OpenSpec.upto tangleTermsSpec)) tangleTermsUptoCard

/-- THE SECOND FORM's CARD OF 'forcolalaw06.TangleLists'. -/
def tangleListsUptoCard : Claim7 := { stood := { row := tangleListsUptoRow, standIns := [], harness := (true, "a629a9ad409e6db6fd553371e4961b4464f2371e51bbfdca68825c4776294b1e"), looks := false }, kinds := [], alts := [], laidByText := true, laidKinds := [.data], laidTests := true, laidLooks := .later }
def TangleListsUptoCardSaid : Prop := Claim7.holds Tryd.pinned (.plain (OpenSpec.upto tangleListsSpec)) tangleListsUptoCard

/-- THE SECOND FORM's CARD OF 'forcolalaw06.TangleCloses'. -/
def tangleClosesUptoCard : Claim7 := { stood := { row := tangleClosesUptoRow, standIns := [], harness := (true, "a629a9ad409e6db6fd553371e4961b4464f2371e51bbfdca68825c4776294b1e"), looks := false }, kinds := [], alts := [], laidByText := true, laidKinds := [.data], laidTests := true, laidLooks := .later }
def TangleClosesUptoCardSaid : Prop := Claim7.holds Tryd.pinned (.plain (OpenSpec.upto tangleClosesSpec)) tangleClosesUptoCard

/-- THE SECOND FORM's CARD OF 'forcolalaw06.TangleConway'. -/
def tangleConwayUptoCard : Claim7 := { stood := { row := tangleConwayUptoRow, standIns := [], harness := (true, "a629a9ad409e6db6fd553371e4961b4464f2371e51bbfdca68825c4776294b1e"), looks := false }, kinds := [], alts := [], laidByText := true, laidKinds := [.data], laidTests := true, laidLooks := .later }
def TangleConwayUptoCardSaid : Prop := Claim7.holds Tryd.pinned (.plain (OpenSpec.upto tangleConwaySpec)) tangleConwayUptoCard

/-- THE SECOND FORM's CARD OF 'forcolalaw06.TangleSchubert'. -/
def tangleSchubertUptoCard : Claim7 := { stood := { row := tangleSchubertUptoRow, standIns := [], harness := (true, "a629a9ad409e6db6fd553371e4961b4464f2371e51bbfdca68825c4776294b1e"), looks := false }, kinds := [], alts := [], laidByText := true, laidKinds := [.data], laidTests := true, laidLooks := .later }
def TangleSchubertUptoCardSaid : Prop := Claim7.holds Tryd.pinned (.plain (OpenSpec.upto tangleSchubertSpec)) tangleSchubertUptoCard

/-- THE SECOND FORM's CARD OF 'forcolalaw06.TangleErnst'. -/
def tangleErnstUptoCard : Claim7 := { stood := { row := tangleErnstUptoRow, standIns := [], harness := (true, "a629a9ad409e6db6fd553371e4961b4464f2371e51bbfdca68825c4776294b1e"), looks := false }, kinds := [], alts := [], laidByText := true, laidKinds := [.data], laidTests := true, laidLooks := .later }
def TangleErnstUptoCardSaid : Prop := Claim7.holds Tryd.pinned (.plain (OpenSpec.upto tangleErnstSpec)) tangleErnstUptoCard
end Rows
end Go.Proofs.YtmcgmligdnpejaaDoor
