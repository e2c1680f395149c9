/- What the claim is proved with, part 7: the evaluator and the contracts of the calls. -/
import Derived.Test.YtcogabgdcgahiaaPack2
import Derived.Test.YtcogabgdcgahiaaPack1
import Derived.Test.YtcogabgdcgahiaaPack3
import Derived.Test.YtcogabgdcgahiaaPack4
import Derived.Test.YtcogabgdcgahiaaPack5
import Derived.Test.YtcogabgdcgahiaaPack6
/- A triple system: the call, run. -/
namespace Go.Proofs
open Go Go.Ev
set_option linter.unusedVariables false
set_option maxRecDepth 100000

def ts25 : List Nat := [0, 1, 12, 0, 2, 9, 0, 3, 13, 0, 4, 10, 0, 5, 14, 0, 6, 11, 0, 7, 15, 0, 8, 16, 0, 17, 23, 0, 18, 22, 0, 19, 21, 0, 20, 24, 1, 2, 13, 1, 3, 10, 1, 4, 14, 1, 5, 11, 1, 6, 15, 1, 7, 8, 1, 9, 17, 1, 16, 18, 1, 19, 23, 1, 20, 22, 1, 21, 24, 2, 3, 14, 2, 4, 11, 2, 5, 15, 2, 6, 8, 2, 7, 12, 2, 10, 18, 2, 16, 20, 2, 17, 19, 2, 21, 23, 2, 22, 24, 3, 4, 15, 3, 5, 8, 3, 6, 12, 3, 7, 9, 3, 11, 19, 3, 16, 22, 3, 17, 21, 3, 18, 20, 3, 23, 24, 4, 5, 12, 4, 6, 9, 4, 7, 13, 4, 8, 24, 4, 16, 17, 4, 18, 23, 4, 19, 22, 4, 20, 21, 5, 6, 13, 5, 7, 10, 5, 9, 24, 5, 16, 19, 5, 17, 18, 5, 20, 23, 5, 21, 22, 6, 7, 14, 6, 10, 24, 6, 16, 21, 6, 17, 20, 6, 18, 19, 6, 22, 23, 7, 11, 24, 7, 16, 23, 7, 17, 22, 7, 18, 21, 7, 19, 20, 8, 9, 20, 8, 10, 17, 8, 11, 21, 8, 12, 18, 8, 13, 22, 8, 14, 19, 8, 15, 23, 9, 10, 21, 9, 11, 18, 9, 12, 22, 9, 13, 19, 9, 14, 23, 9, 15, 16, 10, 11, 22, 10, 12, 19, 10, 13, 23, 10, 14, 16, 10, 15, 20, 11, 12, 23, 11, 13, 16, 11, 14, 20, 11, 15, 17, 12, 13, 20, 12, 14, 17, 12, 15, 21, 12, 16, 24, 13, 14, 21, 13, 15, 18, 13, 17, 24, 14, 15, 22, 14, 18, 24, 15, 19, 24]
theorem triples_25 (r : Mem) : GrM Try.prog r 13 [.int .i64 (.ofNat 25)] (.tuple ⟨[.slice (some ⟨0, 0, none⟩) 100 9223372036854775808, .int .i64 (.ofNat 0)]⟩) (rowA (cI ts25) 62 3) :=
  GrM.of (CC_ok r) (tTrC_ok r) mskH ⟨1000, 40, by kernel_rfl⟩

end Go.Proofs

