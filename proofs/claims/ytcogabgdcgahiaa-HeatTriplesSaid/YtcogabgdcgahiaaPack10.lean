/- What the claim is proved with, part 10: the evaluator and the contracts of the calls. -/
import Derived.Test.YtcogabgdcgahiaaPack9
import Derived.Test.YtcogabgdcgahiaaPack1
import Derived.Test.YtcogabgdcgahiaaPack2
import Derived.Test.YtcogabgdcgahiaaPack3
import Derived.Test.YtcogabgdcgahiaaPack4
import Derived.Test.YtcogabgdcgahiaaPack5
import Derived.Test.YtcogabgdcgahiaaPack6
import Derived.Test.YtcogabgdcgahiaaPack7
import Derived.Test.YtcogabgdcgahiaaPack8
/- The law of triples made: rounds of numbers that are known. -/
namespace Go.Proofs
open Go Go.Ev
set_option linter.unusedVariables false
set_option maxRecDepth 100000

theorem tr_25 (r : Mem) (i : Int) (s : List (Nat × Value)) : run (CC r) 253 100 1000 xTr (lvlT (CC r) t25 mskH 1000 40) none (qv gTr) (fun _ => qF) qF s (TTr 25 i) [] emptyA = .ret (.tuple ⟨[I (3 + 25 % 25), I i, .bool false]⟩) ⟨0, .nil, .nil⟩ := by kernel_rfl

end Go.Proofs

