/-
  NARROWER THAN 'FOR EVERY INPUT', by the rows' own cells (each row's printed sentence says how): TangleValues: laid · TangleWords: laid · TangleLinks: laid · TangleSames: laid · TangleTerms: laid · TangleLists: laid · TangleCloses: laid · TangleConway: laid · TangleSchubert: laid · TangleErnst: laid.
  DERIVED. THE GIVEN ROWS OF THIS SEAT. 10 by the template 'for every input the law returns true; each argument reads behind the call as it read before'; 0 by the template 'total and deterministic' (their statements: YtmcgmligdnpejaaDoorTotals.lean).
  GIVEN WITH THE SEED: the statements are not yours to turn. If you find one false, say at which input.
  Laid BY PROGRAM, IN A SANDBOX (cutbox-rows.mjs): the forced cells as the released guide's own fill.sh prints them over the translation c9604168459edc9f… (all of the seat's roots in one cut). By AI agents, Wed Nov 11 2026. No macro, syntax, notation, axiom, sorry.
-/
import Derived.Test.YtmcgmligdnpejaaDoorChecked
import GoSem.Claim
import GoSem.ClaimJoined
import GoSem.ClaimMapViews
import Derived.JoinedTies
import Derived.KernelRfl
namespace Go.Proofs.YtmcgmligdnpejaaDoor
/- THE CELL 'sum', in the pinned program and in every row, IS THE sha256 OF THE DUMP (.gsa) THAT YtmcgmligdnpejaaDoorProg.lean LOADS. Nothing in Lean hashes anything: it is a label: what it is worth is what the hold of that sum in a sandbox is worth. -/
noncomputable def Tryd.pinned : Pinned := { name := "ytmcgmligdnpejaadoor", sum := "c9604168459edc9f131cdc74181c7c4976548efe083a5c2d4e1736fc559a10e5", checked := Tryd.checked }
namespace Rows
def none {H : Type} : Left H := { results := [], args := [] }

/- WHAT THE LISTED PACKAGE-LEVEL VARIABLES READ AS WHEN THE CALL BEGINS. Each datum BY PROGRAM (the guide's laid-datum.mjs) off the statement by which the dump's own 'gosem.cut.vars' lays the variable. In a bare row this is a premise. The card (YtmcgmligdnpejaaDoorCards.lean) ties it to the program's text. -/
def laid_forcola_tangle_zero {H : Type} : DataW H := .agg [.lit (.int .i64 0), .lit (.int .i64 1)]

/-- 'forcolalaw06.TangleValues': WHATEVER THE INPUT: true; the input reads as it did. -/
def tangleValuesSpec : ChangeSpec := { name := "tangleValues", fn := fun _ => fun
  | [d] => { results := [.lit (.bool true)], args := [d] }
  | _ => none }
def tangleValuesRow : OpenClaim := { program := "ytmcgmligdnpejaadoor", sum := "c9604168459edc9f131cdc74181c7c4976548efe083a5c2d4e1736fc559a10e5", func := "forcola/forcolalaw06.TangleValues", spec := "tangleValues", inPlace := ["internal/abi.NoEscape"], unfollowed := true, recurses := true, named := ["forcola/tangle.zero"], plainKeys := false, apart := false, laid := [("forcola/tangle.zero", laid_forcola_tangle_zero)] }
def TangleValuesSaid : Prop := tangleValuesRow.holds Tryd.pinned (OpenSpec.ofChange tangleValuesSpec)

/-- ITS FALSE NEIGHBOUR: 'it returns false'. Refute it at one input. -/
def tangleValuesWrong : ChangeSpec := { name := "tangleValues", fn := fun _ => fun
  | [d] => { results := [.lit (.bool false)], args := [d] }
  | _ => none }
def TangleValuesWrongFalsely : Prop := tangleValuesRow.holds Tryd.pinned (OpenSpec.ofChange tangleValuesWrong)

/-- 'forcolalaw06.TangleWords': WHATEVER THE INPUT: true; the input reads as it did. -/
def tangleWordsSpec : ChangeSpec := { name := "tangleWords", fn := fun _ => fun
  | [d1, d2] => { results := [.lit (.bool true)], args := [d1, d2] }
  | _ => none }
def tangleWordsRow : OpenClaim := { program := "ytmcgmligdnpejaadoor", sum := "c9604168459edc9f131cdc74181c7c4976548efe083a5c2d4e1736fc559a10e5", func := "forcola/forcolalaw06.TangleWords", spec := "tangleWords", inPlace := ["internal/abi.NoEscape"], unfollowed := true, recurses := true, named := ["forcola/tangle.zero"], plainKeys := false, apart := false, laid := [("forcola/tangle.zero", laid_forcola_tangle_zero)] }
def TangleWordsSaid : Prop := tangleWordsRow.holds Tryd.pinned (OpenSpec.ofChange tangleWordsSpec)

/-- ITS FALSE NEIGHBOUR: 'it returns false'. Refute it at one input. -/
def tangleWordsWrong : ChangeSpec := { name := "tangleWords", fn := fun _ => fun
  | [d1, d2] => { results := [.lit (.bool false)], args := [d1, d2] }
  | _ => none }
def TangleWordsWrongFalsely : Prop := tangleWordsRow.holds Tryd.pinned (OpenSpec.ofChange tangleWordsWrong)

/-- 'forcolalaw06.TangleLinks': WHATEVER THE INPUT: true; the input reads as it did. -/
def tangleLinksSpec : ChangeSpec := { name := "tangleLinks", fn := fun _ => fun
  | [d1, d2] => { results := [.lit (.bool true)], args := [d1, d2] }
  | _ => none }
def tangleLinksRow : OpenClaim := { program := "ytmcgmligdnpejaadoor", sum := "c9604168459edc9f131cdc74181c7c4976548efe083a5c2d4e1736fc559a10e5", func := "forcola/forcolalaw06.TangleLinks", spec := "tangleLinks", unfollowed := true, recurses := true, named := ["forcola/tangle.zero"], plainKeys := false, apart := false, laid := [("forcola/tangle.zero", laid_forcola_tangle_zero)] }
def TangleLinksSaid : Prop := tangleLinksRow.holds Tryd.pinned (OpenSpec.ofChange tangleLinksSpec)

/-- ITS FALSE NEIGHBOUR: 'it returns false'. Refute it at one input. -/
def tangleLinksWrong : ChangeSpec := { name := "tangleLinks", fn := fun _ => fun
  | [d1, d2] => { results := [.lit (.bool false)], args := [d1, d2] }
  | _ => none }
def TangleLinksWrongFalsely : Prop := tangleLinksRow.holds Tryd.pinned (OpenSpec.ofChange tangleLinksWrong)

/-- 'forcolalaw06.TangleSames': WHATEVER THE INPUT: true; the input reads as it did. -/
def tangleSamesSpec : ChangeSpec := { name := "tangleSames", fn := fun _ => fun
  | [d1, d2] => { results := [.lit (.bool true)], args := [d1, d2] }
  | _ => none }
def tangleSamesRow : OpenClaim := { program := "ytmcgmligdnpejaadoor", sum := "c9604168459edc9f131cdc74181c7c4976548efe083a5c2d4e1736fc559a10e5", func := "forcola/forcolalaw06.TangleSames", spec := "tangleSames", unfollowed := true, recurses := true, named := ["forcola/tangle.zero"], plainKeys := false, apart := false, laid := [("forcola/tangle.zero", laid_forcola_tangle_zero)] }
def TangleSamesSaid : Prop := tangleSamesRow.holds Tryd.pinned (OpenSpec.ofChange tangleSamesSpec)

/-- ITS FALSE NEIGHBOUR: 'it returns false'. Refute it at one input. -/
def tangleSamesWrong : ChangeSpec := { name := "tangleSames", fn := fun _ => fun
  | [d1, d2] => { results := [.lit (.bool false)], args := [d1, d2] }
  | _ => none }
def TangleSamesWrongFalsely : Prop := tangleSamesRow.holds Tryd.pinned (OpenSpec.ofChange tangleSamesWrong)

/-- 'forcolalaw06.TangleTerms': WHATEVER THE INPUT: true; the input reads as it did. -/
def tangleTermsSpec : ChangeSpec := { name := "tangleTerms", fn := fun _ => fun
  | [d] => { results := [.lit (.bool true)], args := [d] }
  | _ => none }
def tangleTermsRow : OpenClaim := { program := "ytmcgmligdnpejaadoor", sum := "c9604168459edc9f131cdc74181c7c4976548efe083a5c2d4e1736fc559a10e5", func := "forcola/forcolalaw06.TangleTerms", spec := "tangleTerms", unfollowed := true, recurses := true, named := ["forcola/tangle.zero"], plainKeys := false, apart := false, laid := [("forcola/tangle.zero", laid_forcola_tangle_zero)] }
def TangleTermsSaid : Prop := tangleTermsRow.holds Tryd.pinned (OpenSpec.ofChange tangleTermsSpec)

/-- ITS FALSE NEIGHBOUR: 'it returns false'. Refute it at one input. -/
def tangleTermsWrong : ChangeSpec := { name := "tangleTerms", fn := fun _ => fun
  | [d] => { results := [.lit (.bool false)], args := [d] }
  | _ => none }
def TangleTermsWrongFalsely : Prop := tangleTermsRow.holds Tryd.pinned (OpenSpec.ofChange tangleTermsWrong)

/-- 'forcolalaw06.TangleLists': WHATEVER THE INPUT: true; the input reads as it did. -/
def tangleListsSpec : ChangeSpec := { name := "tangleLists", fn := fun _ => fun
  | [d1, d2] => { results := [.lit (.bool true)], args := [d1, d2] }
  | _ => none }
def tangleListsRow : OpenClaim := { program := "ytmcgmligdnpejaadoor", sum := "c9604168459edc9f131cdc74181c7c4976548efe083a5c2d4e1736fc559a10e5", func := "forcola/forcolalaw06.TangleLists", spec := "tangleLists", unfollowed := true, recurses := true, named := ["forcola/tangle.zero"], plainKeys := false, apart := false, laid := [("forcola/tangle.zero", laid_forcola_tangle_zero)] }
def TangleListsSaid : Prop := tangleListsRow.holds Tryd.pinned (OpenSpec.ofChange tangleListsSpec)

/-- ITS FALSE NEIGHBOUR: 'it returns false'. Refute it at one input. -/
def tangleListsWrong : ChangeSpec := { name := "tangleLists", fn := fun _ => fun
  | [d1, d2] => { results := [.lit (.bool false)], args := [d1, d2] }
  | _ => none }
def TangleListsWrongFalsely : Prop := tangleListsRow.holds Tryd.pinned (OpenSpec.ofChange tangleListsWrong)

/-- 'forcolalaw06.TangleCloses': WHATEVER THE INPUT: true; the input reads as it did. -/
def tangleClosesSpec : ChangeSpec := { name := "tangleCloses", fn := fun _ => fun
  | [d1, d2] => { results := [.lit (.bool true)], args := [d1, d2] }
  | _ => none }
def tangleClosesRow : OpenClaim := { program := "ytmcgmligdnpejaadoor", sum := "c9604168459edc9f131cdc74181c7c4976548efe083a5c2d4e1736fc559a10e5", func := "forcola/forcolalaw06.TangleCloses", spec := "tangleCloses", unfollowed := true, recurses := true, named := ["forcola/tangle.zero"], plainKeys := false, apart := false, laid := [("forcola/tangle.zero", laid_forcola_tangle_zero)] }
def TangleClosesSaid : Prop := tangleClosesRow.holds Tryd.pinned (OpenSpec.ofChange tangleClosesSpec)

/-- ITS FALSE NEIGHBOUR: 'it returns false'. Refute it at one input. -/
def tangleClosesWrong : ChangeSpec := { name := "tangleCloses", fn := fun _ => fun
  | [d1, d2] => { results := [.lit (.bool false)], args := [d1, d2] }
  | _ => none }
def TangleClosesWrongFalsely : Prop := tangleClosesRow.holds Tryd.pinned (OpenSpec.ofChange tangleClosesWrong)

/-- 'forcolalaw06.TangleConway': WHATEVER THE INPUT: true; the input reads as it did. -/
def tangleConwaySpec : ChangeSpec := { name := "tangleConway", fn := fun _ => fun
  | [d1, d2, d3] => { results := [.lit (.bool true)], args := [d1, d2, d3] }
  | _ => none }
def tangleConwayRow : OpenClaim := { program := "ytmcgmligdnpejaadoor", sum := "c9604168459edc9f131cdc74181c7c4976548efe083a5c2d4e1736fc559a10e5", func := "forcola/forcolalaw06.TangleConway", spec := "tangleConway", inPlace := ["internal/abi.NoEscape"], unfollowed := true, recurses := true, named := ["forcola/tangle.zero"], plainKeys := false, apart := false, laid := [("forcola/tangle.zero", laid_forcola_tangle_zero)] }
def TangleConwaySaid : Prop := tangleConwayRow.holds Tryd.pinned (OpenSpec.ofChange tangleConwaySpec)

/-- ITS FALSE NEIGHBOUR: 'it returns false'. Refute it at one input. -/
def tangleConwayWrong : ChangeSpec := { name := "tangleConway", fn := fun _ => fun
  | [d1, d2, d3] => { results := [.lit (.bool false)], args := [d1, d2, d3] }
  | _ => none }
def TangleConwayWrongFalsely : Prop := tangleConwayRow.holds Tryd.pinned (OpenSpec.ofChange tangleConwayWrong)

/-- 'forcolalaw06.TangleSchubert': WHATEVER THE INPUT: true; the input reads as it did. -/
def tangleSchubertSpec : ChangeSpec := { name := "tangleSchubert", fn := fun _ => fun
  | [d1, d2] => { results := [.lit (.bool true)], args := [d1, d2] }
  | _ => none }
def tangleSchubertRow : OpenClaim := { program := "ytmcgmligdnpejaadoor", sum := "c9604168459edc9f131cdc74181c7c4976548efe083a5c2d4e1736fc559a10e5", func := "forcola/forcolalaw06.TangleSchubert", spec := "tangleSchubert", unfollowed := true, recurses := true, named := ["forcola/tangle.zero"], plainKeys := false, apart := false, laid := [("forcola/tangle.zero", laid_forcola_tangle_zero)] }
def TangleSchubertSaid : Prop := tangleSchubertRow.holds Tryd.pinned (OpenSpec.ofChange tangleSchubertSpec)

/-- ITS FALSE NEIGHBOUR: 'it returns false'. Refute it at one input. -/
def tangleSchubertWrong : ChangeSpec := { name := "tangleSchubert", fn := fun _ => fun
  | [d1, d2] => { results := [.lit (.bool false)], args := [d1, d2] }
  | _ => none }
def TangleSchubertWrongFalsely : Prop := tangleSchubertRow.holds Tryd.pinned (OpenSpec.ofChange tangleSchubertWrong)

/-- 'forcolalaw06.TangleErnst': WHATEVER THE INPUT: true; the input reads as it did. -/
def tangleErnstSpec : ChangeSpec := { name := "tangleErnst", fn := fun _ => fun
  | [d1, d2, d3] => { results := [.lit (.bool true)], args := [d1, d2, d3] }
  | _ => none }
def tangleErnstRow : OpenClaim := { program := "ytmcgmligdnpejaadoor", sum := "c9604168459edc9f131cdc74181c7c4976548efe083a5c2d4e1736fc559a10e5", func := "forcola/forcolalaw06.TangleErnst", spec := "tangleErnst", unfollowed := true, recurses := true, named := ["forcola/tangle.zero"], plainKeys := false, apart := false, laid := [("forcola/tangle.zero", laid_forcola_tangle_zero)] }
def TangleErnstSaid : Prop := tangleErnstRow.holds Tryd.pinned (OpenSpec.ofChange tangleErnstSpec)

/-- ITS FALSE NEIGHBOUR: 'it returns false'. Refute it at one input. -/
def tangleErnstWrong : ChangeSpec := { name := "tangleErnst", fn := fun _ => fun
  | [d1, d2, d3] => { results := [.lit (.bool false)], args := [d1, d2, d3] }
  | _ => none }
def TangleErnstWrongFalsely : Prop := tangleErnstRow.holds Tryd.pinned (OpenSpec.ofChange tangleErnstWrong)

/- THE SECOND FORM. 'bulk': how many values and letters a reading holds, each counted each time it is reached (what is shared counts as often as it is met; a slice's spare places count too). A statement '..UptoSaid' is the law's where the arguments, and the package variables that the reading takes, are together of bulk at most 1048576: NARROWER than '..Said'. Prove '..Said' where nothing that the law and all that it calls make is longer than what came in: it says more and counts as full. Else prove '..UptoSaid'. A law counts once. -/
mutual
def uptoBulk {H : Type} : DataW H → Nat
  | .lit (.string bytes) => bytes.length + 1
  | .lit _ => 1
  | .nil => 1
  | .ptr d => uptoBulk d + 1
  | .slice elems spare => uptoBulkAll elems + uptoBulkAll spare + 1
  | .agg parts => uptoBulkAll parts + 1
  | .iface _ d => uptoBulk d + 1
  | .map entries => uptoBulkEntries entries + 1
  | .held _ => 1
def uptoBulkAll {H : Type} : List (DataW H) → Nat
  | [] => 0
  | d :: r => uptoBulk d + uptoBulkAll r
def uptoBulkEntries {H : Type} : List (Lit × DataW H) → Nat
  | [] => 0
  | x :: r => uptoBulkEntry x + uptoBulkEntries r
def uptoBulkEntry {H : Type} : Lit × DataW H → Nat
  | (.string bytes, d) => bytes.length + uptoBulk d + 1
  | (_, d) => uptoBulk d + 1
 end
def uptoSmall : (H : Type) → List (DataW H) → Bool := fun _ ds => decide (uptoBulkAll ds ≤ 1048576)
def OpenSpec.upto (s : _root_.Go.ChangeSpec) : _root_.Go.OpenSpec := { _root_.Go.OpenSpec.ofChange s with cond := some uptoSmall }

/-- 'forcolalaw06.TangleValues', WHERE WHAT IT READS IS OF BULK AT MOST 1048576: true; the input reads as it did. -/
def tangleValuesUptoRow : OpenClaim := { program := "ytmcgmligdnpejaadoor", sum := "c9604168459edc9f131cdc74181c7c4976548efe083a5c2d4e1736fc559a10e5", func := "forcola/forcolalaw06.TangleValues", spec := "tangleValues", inPlace := ["internal/abi.NoEscape"], unfollowed := true, recurses := true, named := ["forcola/tangle.zero"], plainKeys := false, apart := false, laid := [("forcola/tangle.zero", laid_forcola_tangle_zero)], narrowed := true }
def TangleValuesUptoSaid : Prop := tangleValuesUptoRow.holds Tryd.pinned (OpenSpec.upto tangleValuesSpec)

/-- 'forcolalaw06.TangleWords', WHERE WHAT IT READS IS OF BULK AT MOST 1048576: true; the input reads as it did. -/
def tangleWordsUptoRow : OpenClaim := { program := "ytmcgmligdnpejaadoor", sum := "c9604168459edc9f131cdc74181c7c4976548efe083a5c2d4e1736fc559a10e5", func := "forcola/forcolalaw06.TangleWords", spec := "tangleWords", inPlace := ["internal/abi.NoEscape"], unfollowed := true, recurses := true, named := ["forcola/tangle.zero"], plainKeys := false, apart := false, laid := [("forcola/tangle.zero", laid_forcola_tangle_zero)], narrowed := true }
def TangleWordsUptoSaid : Prop := tangleWordsUptoRow.holds Tryd.pinned (OpenSpec.upto tangleWordsSpec)

/-- 'forcolalaw06.TangleLinks', WHERE WHAT IT READS IS OF BULK AT MOST 1048576: true; the input reads as it did. -/
def tangleLinksUptoRow : OpenClaim := { program := "ytmcgmligdnpejaadoor", sum := "c9604168459edc9f131cdc74181c7c4976548efe083a5c2d4e1736fc559a10e5", func := "forcola/forcolalaw06.TangleLinks", spec := "tangleLinks", unfollowed := true, recurses := true, named := ["forcola/tangle.zero"], plainKeys := false, apart := false, laid := [("forcola/tangle.zero", laid_forcola_tangle_zero)], narrowed := true }
def TangleLinksUptoSaid : Prop := tangleLinksUptoRow.holds Tryd.pinned (OpenSpec.upto tangleLinksSpec)

/-- 'forcolalaw06.TangleSames', WHERE WHAT IT READS IS OF BULK AT MOST 1048576: true; the input reads as it did. -/
def tangleSamesUptoRow : OpenClaim := { program := "ytmcgmligdnpejaadoor", sum := "c9604168459edc9f131cdc74181c7c4976548efe083a5c2d4e1736fc559a10e5", func := "forcola/forcolalaw06.TangleSames", spec := "tangleSames", unfollowed := true, recurses := true, named := ["forcola/tangle.zero"], plainKeys := false, apart := false, laid := [("forcola/tangle.zero", laid_forcola_tangle_zero)], narrowed := true }
def TangleSamesUptoSaid : Prop := tangleSamesUptoRow.holds Tryd.pinned (OpenSpec.upto tangleSamesSpec)

/-- 'forcolalaw06.TangleTerms', WHERE WHAT IT READS IS OF BULK AT MOST 1048576: true; the input reads as it did. -/
def tangleTermsUptoRow : OpenClaim := { program := "ytmcgmligdnpejaadoor", sum := "c9604168459edc9f131cdc74181c7c4976548efe083a5c2d4e1736fc559a10e5", func := "forcola/forcolalaw06.TangleTerms", spec := "tangleTerms", unfollowed := true, recurses := true, named := ["forcola/tangle.zero"], plainKeys := false, apart := false, laid := [("forcola/tangle.zero", laid_forcola_tangle_zero)], narrowed := true }
def TangleTermsUptoSaid : Prop := tangleTermsUptoRow.holds Tryd.pinned (OpenSpec.upto tangleTermsSpec)

/-- 'forcolalaw06.TangleLists', WHERE WHAT IT READS IS OF BULK AT MOST 1048576: true; the input reads as it did. -/
def tangleListsUptoRow : OpenClaim := { program := "ytmcgmligdnpejaadoor", sum := "c9604168459edc9f131cdc74181c7c4976548efe083a5c2d4e1736fc559a10e5", func := "forcola/forcolalaw06.TangleLists", spec := "tangleLists", unfollowed := true, recurses := true, named := ["forcola/tangle.zero"], plainKeys := false, apart := false, laid := [("forcola/tangle.zero", laid_forcola_tangle_zero)], narrowed := true }
def TangleListsUptoSaid : Prop := tangleListsUptoRow.holds Tryd.pinned (OpenSpec.upto tangleListsSpec)

/-- 'forcolalaw06.TangleCloses', WHERE WHAT IT READS IS OF BULK AT MOST 1048576: true; the input reads as it did. -/
def tangleClosesUptoRow : OpenClaim := { program := "ytmcgmligdnpejaadoor", sum := "c9604168459edc9f131cdc74181c7c4976548efe083a5c2d4e1736fc559a10e5", func := "forcola/forcolalaw06.TangleCloses", spec := "tangleCloses", unfollowed := true, recurses := true, named := ["forcola/tangle.zero"], plainKeys := false, apart := false, laid := [("forcola/tangle.zero", laid_forcola_tangle_zero)], narrowed := true }
def TangleClosesUptoSaid : Prop := tangleClosesUptoRow.holds Tryd.pinned (OpenSpec.upto tangleClosesSpec)

/-- 'forcolalaw06.TangleConway', WHERE WHAT IT READS IS OF BULK AT MOST 1048576: true; the input reads as it did. -/
def tangleConwayUptoRow : OpenClaim := { program := "ytmcgmligdnpejaadoor", sum := "c9604168459edc9f131cdc74181c7c4976548efe083a5c2d4e1736fc559a10e5", func := "forcola/forcolalaw06.TangleConway", spec := "tangleConway", inPlace := ["internal/abi.NoEscape"], unfollowed := true, recurses := true, named := ["forcola/tangle.zero"], plainKeys := false, apart := false, laid := [("forcola/tangle.zero", laid_forcola_tangle_zero)], narrowed := true }
def TangleConwayUptoSaid : Prop := tangleConwayUptoRow.holds Tryd.pinned (OpenSpec.upto tangleConwaySpec)

/-- 'forcolalaw06.TangleSchubert', WHERE WHAT IT READS IS OF BULK AT MOST 1048576: true; the input reads as it did. -/
def tangleSchubertUptoRow : OpenClaim := { program := "ytmcgmligdnpejaadoor", sum := "c9604168459edc9f131cdc74181c7c4976548efe083a5c2d4e1736fc559a10e5", func := "forcola/forcolalaw06.TangleSchubert", spec := "tangleSchubert", unfollowed := true, recurses := true, named := ["forcola/tangle.zero"], plainKeys := false, apart := false, laid := [("forcola/tangle.zero", laid_forcola_tangle_zero)], narrowed := true }
def TangleSchubertUptoSaid : Prop := tangleSchubertUptoRow.holds Tryd.pinned (OpenSpec.upto tangleSchubertSpec)

/-- 'forcolalaw06.TangleErnst', WHERE WHAT IT READS IS OF BULK AT MOST 1048576: true; the input reads as it did. -/
def tangleErnstUptoRow : OpenClaim := { program := "ytmcgmligdnpejaadoor", sum := "c9604168459edc9f131cdc74181c7c4976548efe083a5c2d4e1736fc559a10e5", func := "forcola/forcolalaw06.TangleErnst", spec := "tangleErnst", unfollowed := true, recurses := true, named := ["forcola/tangle.zero"], plainKeys := false, apart := false, laid := [("forcola/tangle.zero", laid_forcola_tangle_zero)], narrowed := true }
def TangleErnstUptoSaid : Prop := tangleErnstUptoRow.holds Tryd.pinned (OpenSpec.upto tangleErnstSpec)

end Rows
end Go.Proofs.YtmcgmligdnpejaaDoor
