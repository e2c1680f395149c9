/- What the claim is proved with, part 4: the evaluator and the contracts of the calls. -/
import Derived.Test.YtlcjjmdmobkhiaaGreatDoorPack3
import Derived.Test.YtlcjjmdmobkhiaaGreatDoorPack1
import Derived.Test.YtlcjjmdmobkhiaaGreatDoorPack2
/- Chapter 10: the example calls, run. -/
namespace Go.Proofs
open Go Go.Ev
set_option linter.unusedVariables false
set_option linter.unusedSimpArgs false
set_option maxRecDepth 100000

theorem awake10 : GrT Tryz.prog tabM 8 [] (.bool true) := GrT.of (CC_ok tabM) (tSF_ok tabM) mskH rfl ⟨1000, 40, by kernel_rfl⟩

end Go.Proofs

/- The law of checks of orders holds, for all arguments. -/
set_option linter.unusedVariables false
set_option linter.unusedSimpArgs false
namespace Go.Proofs
open Go Go.Ev

theorem law_shiftChecks (r : Mem) (hm : ∀ b j u, tabM b j = some u → r b j = some u) (u0 : Value) (s0 : ArgRowT r 1 (ArgRow r 1 ArgBool) u0) : GrT Tryz.prog r 3 [u0] (.bool true) :=
 och_all hm (fun r h => awake10.less h) u0 s0

end Go.Proofs

