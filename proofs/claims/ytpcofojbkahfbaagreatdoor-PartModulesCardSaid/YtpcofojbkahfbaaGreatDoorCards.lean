/-
  DERIVED. GIVEN WITH THE SEED: THE CARDS: each row of YtpcofojbkahfbaaGreatDoorRows.lean that lists a variable, with what it lists TIED to the program's text (the seventh form; the later family's looks); each row that meets fmt, with fmt's text TOLD by the authors' own Lean function (tested against real Go, not proved from fmt's source: count such statements apart). THE CARD IS WHAT COUNTS. Prove the row's statement (the work); the ties are given (YtpcofojbkahfbaaGreatDoorTie.lean); close each card by the builder's one call (the guide's Derived/Test/ToyasCard.lean, 'card_holds'). Laid BY PROGRAM, IN A SANDBOX (cutbox-door.mjs). By AI agents, Wed Nov 11 2026. No macro, syntax, notation, axiom, sorry.
-/
import Derived.Test.YtpcofojbkahfbaaGreatDoorRows
import GoSem.ClaimSeven
namespace Go.Proofs.YtpcofojbkahfbaaGreatDoor
namespace Rows

/-- THE TIED CARD OF 'forcolalaw04.PartModules'. -/
def partModulesCard : Claim7 := { stood := { row := partModulesRow, standIns := [], harness := (true, "7d381155537a44ed24998841d2759ec1ab722cba05b6d96145d153b35c7e7ec2"), looks := false }, kinds := [], alts := [], laidByText := true, laidKinds := [.data, .data], laidTests := true, laidLooks := .later }
def PartModulesCardSaid : Prop := Claim7.holds Tryz.pinned (.plain (OpenSpec.ofChange partModulesSpec)) partModulesCard

/-- THE TIED CARD OF 'forcolalaw04.PartPaths'. -/
def partPathsCard : Claim7 := { stood := { row := partPathsRow, standIns := [], harness := (true, "7d381155537a44ed24998841d2759ec1ab722cba05b6d96145d153b35c7e7ec2"), looks := false }, kinds := [], alts := [], laidByText := true, laidKinds := [.data, .data], laidTests := true, laidLooks := .later }
def PartPathsCardSaid : Prop := Claim7.holds Tryz.pinned (.plain (OpenSpec.ofChange partPathsSpec)) partPathsCard

/-- THE SECOND FORM's CARD OF 'forcolalaw04.PartModules'. -/
def partModulesUptoCard : Claim7 := { stood := { row := partModulesUptoRow, standIns := [], harness := (true, "7d381155537a44ed24998841d2759ec1ab722cba05b6d96145d153b35c7e7ec2"), looks := false }, kinds := [], alts := [], laidByText := true, laidKinds := [.data, .data], laidTests := true, laidLooks := .later }
def PartModulesUptoCardSaid : Prop := Claim7.holds Tryz.pinned (.plain (OpenSpec.upto partModulesSpec)) partModulesUptoCard

/-- THE SECOND FORM's CARD OF 'forcolalaw04.PartPaths'. -/
def partPathsUptoCard : Claim7 := { stood := { row := partPathsUptoRow, standIns := [], harness := (true, "7d381155537a44ed24998841d2759ec1ab722cba05b6d96145d153b35c7e7ec2"), looks := false }, kinds := [], alts := [], laidByText := true, laidKinds := [.data, .data], laidTests := true, laidLooks := .later }
def PartPathsUptoCardSaid : Prop := Claim7.holds Tryz.pinned (.plain (OpenSpec.upto partPathsSpec)) partPathsUptoCard
end Rows
end Go.Proofs.YtpcofojbkahfbaaGreatDoor
