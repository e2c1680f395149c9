/- What the claim is proved with, part 5: the evaluator and the contracts of the calls. -/
import Derived.Test.YtpcofojbkahfbaaGreatDoorPack4
import Derived.Test.YtpcofojbkahfbaaGreatDoorPack1
import Derived.Test.YtpcofojbkahfbaaGreatDoorPack2
import Derived.Test.YtpcofojbkahfbaaGreatDoorPack3
/- Chapter 4: the example calls answer true. -/
namespace Go.Proofs
open Go Go.Ev
set_option linter.unusedVariables false
set_option linter.unusedSimpArgs false
set_option maxRecDepth 100000

theorem awake4 : GrT Tryz.prog tabM 17 [] (.bool true) := GrT.of (CC_ok tabM) (tSD_ok tabM) mskP rfl ⟨1000, 40, by kernel_rfl⟩

end Go.Proofs

