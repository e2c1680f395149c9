/-
  NARROWER THAN 'FOR EVERY INPUT', by the rows' own cells (each row's printed sentence says how): TangleValues: laid · TangleWords: laid · TangleConway: laid.
  DERIVED. THE GIVEN ROWS OF THIS SEAT. 3 by the template 'for every input the law returns true; each argument reads behind the call as it read before'; 0 by the template 'total and deterministic' (their statements: YtoomckijepdikaaDoorTotals.lean).
  GIVEN WITH THE SEED: the statements are not yours to turn. If you find one false, say at which input.
  Laid BY PROGRAM, IN A SANDBOX (cutbox-rows.mjs): the forced cells as the released guide's own fill.sh prints them over the translation ce64fca694100b80… (all of the seat's roots in one cut). By AI agents, Wed Nov 11 2026. No macro, syntax, notation, axiom, sorry.
-/
import Derived.Test.YtoomckijepdikaaDoorChecked
import GoSem.Claim
import GoSem.ClaimJoined
import GoSem.ClaimMapViews
import Derived.JoinedTies
import Derived.KernelRfl
namespace Go.Proofs.YtoomckijepdikaaDoor
/- THE CELL 'sum', in the pinned program and in every row, IS THE sha256 OF THE DUMP (.gsa) THAT YtoomckijepdikaaDoorProg.lean LOADS. Nothing in Lean hashes anything: it is a label: what it is worth is what the hold of that sum in a sandbox is worth. -/
noncomputable def Tryd.pinned : Pinned := { name := "ytoomckijepdikaadoor", sum := "ce64fca694100b80ac88fde92e4d918195be65c5955a4dea7db435bc4da5e83b", checked := Tryd.checked }
namespace Rows
def none {H : Type} : Left H := { results := [], args := [] }

/- WHAT THE LISTED PACKAGE-LEVEL VARIABLES READ AS WHEN THE CALL BEGINS. Each datum BY PROGRAM (the guide's laid-datum.mjs) off the statement by which the dump's own 'gosem.cut.vars' lays the variable. In a bare row this is a premise. The card (YtoomckijepdikaaDoorCards.lean) ties it to the program's text. -/
def laid_forcola_tangle_zero {H : Type} : DataW H := .agg [.lit (.int .i64 0), .lit (.int .i64 1)]

/-- 'forcolalaw06.TangleValues': WHATEVER THE INPUT: true; the input reads as it did. -/
def tangleValuesSpec : ChangeSpec := { name := "tangleValues", fn := fun _ => fun
  | [d] => { results := [.lit (.bool true)], args := [d] }
  | _ => none }
def tangleValuesRow : OpenClaim := { program := "ytoomckijepdikaadoor", sum := "ce64fca694100b80ac88fde92e4d918195be65c5955a4dea7db435bc4da5e83b", func := "forcola/forcolalaw06.TangleValues", spec := "tangleValues", inPlace := ["internal/abi.NoEscape"], unfollowed := true, recurses := true, named := ["forcola/tangle.zero"], apart := false, laid := [("forcola/tangle.zero", laid_forcola_tangle_zero)] }
def TangleValuesSaid : Prop := tangleValuesRow.holds Tryd.pinned (OpenSpec.ofChange tangleValuesSpec)

/-- ITS FALSE NEIGHBOUR: 'it returns false'. Refute it at one input. -/
def tangleValuesWrong : ChangeSpec := { name := "tangleValues", fn := fun _ => fun
  | [d] => { results := [.lit (.bool false)], args := [d] }
  | _ => none }
def TangleValuesWrongFalsely : Prop := tangleValuesRow.holds Tryd.pinned (OpenSpec.ofChange tangleValuesWrong)

/-- 'forcolalaw06.TangleWords': WHATEVER THE INPUT: true; the input reads as it did. -/
def tangleWordsSpec : ChangeSpec := { name := "tangleWords", fn := fun _ => fun
  | [d1, d2] => { results := [.lit (.bool true)], args := [d1, d2] }
  | _ => none }
def tangleWordsRow : OpenClaim := { program := "ytoomckijepdikaadoor", sum := "ce64fca694100b80ac88fde92e4d918195be65c5955a4dea7db435bc4da5e83b", func := "forcola/forcolalaw06.TangleWords", spec := "tangleWords", inPlace := ["internal/abi.NoEscape"], unfollowed := true, recurses := true, named := ["forcola/tangle.zero"], apart := false, laid := [("forcola/tangle.zero", laid_forcola_tangle_zero)] }
def TangleWordsSaid : Prop := tangleWordsRow.holds Tryd.pinned (OpenSpec.ofChange tangleWordsSpec)

/-- ITS FALSE NEIGHBOUR: 'it returns false'. Refute it at one input. -/
def tangleWordsWrong : ChangeSpec := { name := "tangleWords", fn := fun _ => fun
  | [d1, d2] => { results := [.lit (.bool false)], args := [d1, d2] }
  | _ => none }
def TangleWordsWrongFalsely : Prop := tangleWordsRow.holds Tryd.pinned (OpenSpec.ofChange tangleWordsWrong)

/-- 'forcolalaw06.TangleConway': WHATEVER THE INPUT: true; the input reads as it did. -/
def tangleConwaySpec : ChangeSpec := { name := "tangleConway", fn := fun _ => fun
  | [d1, d2, d3] => { results := [.lit (.bool true)], args := [d1, d2, d3] }
  | _ => none }
def tangleConwayRow : OpenClaim := { program := "ytoomckijepdikaadoor", sum := "ce64fca694100b80ac88fde92e4d918195be65c5955a4dea7db435bc4da5e83b", func := "forcola/forcolalaw06.TangleConway", spec := "tangleConway", inPlace := ["internal/abi.NoEscape"], unfollowed := true, recurses := true, named := ["forcola/tangle.zero"], apart := false, laid := [("forcola/tangle.zero", laid_forcola_tangle_zero)] }
def TangleConwaySaid : Prop := tangleConwayRow.holds Tryd.pinned (OpenSpec.ofChange tangleConwaySpec)

/-- ITS FALSE NEIGHBOUR: 'it returns false'. Refute it at one input. -/
def tangleConwayWrong : ChangeSpec := { name := "tangleConway", fn := fun _ => fun
  | [d1, d2, d3] => { results := [.lit (.bool false)], args := [d1, d2, d3] }
  | _ => none }
def TangleConwayWrongFalsely : Prop := tangleConwayRow.holds Tryd.pinned (OpenSpec.ofChange tangleConwayWrong)

/- THE SECOND FORM. 'bulk': how many values and letters a reading holds, each counted each time it is reached (what is shared counts as often as it is met; a slice's spare places count too). A statement '..UptoSaid' is the law's where the arguments, and the package variables that the reading takes, are together of bulk at most 1048576: NARROWER than '..Said'. Prove '..Said' where nothing that the law and all that it calls make is longer than what came in: it says more and counts as full. Else prove '..UptoSaid'. A law counts once. -/
mutual
def uptoBulk {H : Type} : DataW H → Nat
  | .lit (.string bytes) => bytes.length + 1
  | .lit _ => 1
  | .nil => 1
  | .ptr d => uptoBulk d + 1
  | .slice elems spare => uptoBulkAll elems + uptoBulkAll spare + 1
  | .agg parts => uptoBulkAll parts + 1
  | .iface _ d => uptoBulk d + 1
  | .map entries => uptoBulkEntries entries + 1
  | .held _ => 1
def uptoBulkAll {H : Type} : List (DataW H) → Nat
  | [] => 0
  | d :: r => uptoBulk d + uptoBulkAll r
def uptoBulkEntries {H : Type} : List (Lit × DataW H) → Nat
  | [] => 0
  | x :: r => uptoBulkEntry x + uptoBulkEntries r
def uptoBulkEntry {H : Type} : Lit × DataW H → Nat
  | (.string bytes, d) => bytes.length + uptoBulk d + 1
  | (_, d) => uptoBulk d + 1
 end
def uptoSmall : (H : Type) → List (DataW H) → Bool := fun _ ds => decide (uptoBulkAll ds ≤ 1048576)
def OpenSpec.upto (s : _root_.Go.ChangeSpec) : _root_.Go.OpenSpec := { _root_.Go.OpenSpec.ofChange s with cond := some uptoSmall }

/-- 'forcolalaw06.TangleValues', WHERE WHAT IT READS IS OF BULK AT MOST 1048576: true; the input reads as it did. -/
def tangleValuesUptoRow : OpenClaim := { program := "ytoomckijepdikaadoor", sum := "ce64fca694100b80ac88fde92e4d918195be65c5955a4dea7db435bc4da5e83b", func := "forcola/forcolalaw06.TangleValues", spec := "tangleValues", inPlace := ["internal/abi.NoEscape"], unfollowed := true, recurses := true, named := ["forcola/tangle.zero"], apart := false, laid := [("forcola/tangle.zero", laid_forcola_tangle_zero)], narrowed := true }
def TangleValuesUptoSaid : Prop := tangleValuesUptoRow.holds Tryd.pinned (OpenSpec.upto tangleValuesSpec)

/-- 'forcolalaw06.TangleWords', WHERE WHAT IT READS IS OF BULK AT MOST 1048576: true; the input reads as it did. -/
def tangleWordsUptoRow : OpenClaim := { program := "ytoomckijepdikaadoor", sum := "ce64fca694100b80ac88fde92e4d918195be65c5955a4dea7db435bc4da5e83b", func := "forcola/forcolalaw06.TangleWords", spec := "tangleWords", inPlace := ["internal/abi.NoEscape"], unfollowed := true, recurses := true, named := ["forcola/tangle.zero"], apart := false, laid := [("forcola/tangle.zero", laid_forcola_tangle_zero)], narrowed := true }
def TangleWordsUptoSaid : Prop := tangleWordsUptoRow.holds Tryd.pinned (OpenSpec.upto tangleWordsSpec)

/-- 'forcolalaw06.TangleConway', WHERE WHAT IT READS IS OF BULK AT MOST 1048576: true; the input reads as it did. -/
def tangleConwayUptoRow : OpenClaim := { program := "ytoomckijepdikaadoor", sum := "ce64fca694100b80ac88fde92e4d918195be65c5955a4dea7db435bc4da5e83b", func := "forcola/forcolalaw06.TangleConway", spec := "tangleConway", inPlace := ["internal/abi.NoEscape"], unfollowed := true, recurses := true, named := ["forcola/tangle.zero"], apart := false, laid := [("forcola/tangle.zero", laid_forcola_tangle_zero)], narrowed := true }
def TangleConwayUptoSaid : Prop := tangleConwayUptoRow.holds Tryd.pinned (OpenSpec.upto tangleConwaySpec)

end Rows
end Go.Proofs.YtoomckijepdikaaDoor
