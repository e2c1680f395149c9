/- What the claim is proved with, part 8: the evaluator and the contracts of the calls. -/
import Derived.Test.YtcogabgdcgahiaaPack6
import Derived.Test.YtcogabgdcgahiaaPack1
import Derived.Test.YtcogabgdcgahiaaPack2
import Derived.Test.YtcogabgdcgahiaaPack3
import Derived.Test.YtcogabgdcgahiaaPack4
import Derived.Test.YtcogabgdcgahiaaPack5
import Derived.Test.YtcogabgdcgahiaaPack7
/- A triple system: the call, run. -/
namespace Go.Proofs
open Go Go.Ev
set_option linter.unusedVariables false
set_option maxRecDepth 100000

def ts27 : List Nat := [0, 1, 14, 0, 2, 10, 0, 3, 15, 0, 4, 11, 0, 5, 16, 0, 6, 12, 0, 7, 17, 0, 8, 13, 0, 9, 18, 0, 19, 26, 0, 20, 25, 0, 21, 24, 0, 22, 23, 1, 2, 15, 1, 3, 11, 1, 4, 16, 1, 5, 12, 1, 6, 17, 1, 7, 13, 1, 8, 9, 1, 10, 19, 1, 18, 20, 1, 21, 26, 1, 22, 25, 1, 23, 24, 2, 3, 16, 2, 4, 12, 2, 5, 17, 2, 6, 13, 2, 7, 9, 2, 8, 14, 2, 11, 20, 2, 18, 22, 2, 19, 21, 2, 23, 26, 2, 24, 25, 3, 4, 17, 3, 5, 13, 3, 6, 9, 3, 7, 14, 3, 8, 10, 3, 12, 21, 3, 18, 24, 3, 19, 23, 3, 20, 22, 3, 25, 26, 4, 5, 9, 4, 6, 14, 4, 7, 10, 4, 8, 15, 4, 13, 22, 4, 18, 26, 4, 19, 25, 4, 20, 24, 4, 21, 23, 5, 6, 10, 5, 7, 15, 5, 8, 11, 5, 14, 23, 5, 18, 19, 5, 20, 26, 5, 21, 25, 5, 22, 24, 6, 7, 11, 6, 8, 16, 6, 15, 24, 6, 18, 21, 6, 19, 20, 6, 22, 26, 6, 23, 25, 7, 8, 12, 7, 16, 25, 7, 18, 23, 7, 19, 22, 7, 20, 21, 7, 24, 26, 8, 17, 26, 8, 18, 25, 8, 19, 24, 8, 20, 23, 8, 21, 22, 9, 10, 23, 9, 11, 19, 9, 12, 24, 9, 13, 20, 9, 14, 25, 9, 15, 21, 9, 16, 26, 9, 17, 22, 10, 11, 24, 10, 12, 20, 10, 13, 25, 10, 14, 21, 10, 15, 26, 10, 16, 22, 10, 17, 18, 11, 12, 25, 11, 13, 21, 11, 14, 26, 11, 15, 22, 11, 16, 18, 11, 17, 23, 12, 13, 26, 12, 14, 22, 12, 15, 18, 12, 16, 23, 12, 17, 19, 13, 14, 18, 13, 15, 23, 13, 16, 19, 13, 17, 24, 14, 15, 19, 14, 16, 24, 14, 17, 20, 15, 16, 20, 15, 17, 25, 16, 17, 21]
theorem triples_27 (r : Mem) : GrM Try.prog r 13 [.int .i64 (.ofNat 27)] (.tuple ⟨[.slice (some ⟨0, 0, none⟩) 117 9223372036854775808, .int .i64 (.ofNat 0)]⟩) (rowA (cI ts27) 62 3) :=
  GrM.of (CC_ok r) (tT27_ok r) mskH ⟨1000, 40, by kernel_rfl⟩

end Go.Proofs

