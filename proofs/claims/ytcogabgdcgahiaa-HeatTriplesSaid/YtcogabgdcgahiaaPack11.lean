/- What the claim is proved with, part 11: the evaluator and the contracts of the calls. -/
import Derived.Test.YtcogabgdcgahiaaPack9
import Derived.Test.YtcogabgdcgahiaaPack1
import Derived.Test.YtcogabgdcgahiaaPack10
import Derived.Test.YtcogabgdcgahiaaPack2
import Derived.Test.YtcogabgdcgahiaaEvOwn
import Derived.Test.YtcogabgdcgahiaaEvMemOf
import Derived.Test.YtcogabgdcgahiaaPack3
import Derived.Test.YtcogabgdcgahiaaPack4
import Derived.Test.YtcogabgdcgahiaaPack5
import Derived.Test.YtcogabgdcgahiaaPack6
import Derived.Test.YtcogabgdcgahiaaPack7
import Derived.Test.YtcogabgdcgahiaaPack8
/- The law of triples made: rounds of numbers that are known. -/
namespace Go.Proofs
open Go Go.Ev
set_option linter.unusedVariables false
set_option maxRecDepth 100000

theorem tr_27 (r : Mem) (i : Int) (s : List (Nat × Value)) : run (CC r) 253 100 1000 xTr (lvlT (CC r) t27 mskH 1000 40) none (qv gTr) (fun _ => qF) qF s (TTr 27 i) [] emptyA = .ret (.tuple ⟨[I (3 + 27 % 25), I i, .bool false]⟩) ⟨0, .nil, .nil⟩ := by kernel_rfl

end Go.Proofs

/- The law of triples made: numbers that no system has; the count. -/
namespace Go.Proofs
open Go Go.Ev
set_option linter.unusedVariables false

/-- Is it a number of boats for triples? -/
def m_tri (n : Int) : Bool := decide (n ≥ 3) && decide (n ≤ 27)

def eNoT : Ent := ent (fun _ _ => false) fun _ _ => undef
def eTri : Ent := eI1 (fun _ => true) fun n => .bool (m_tri n)
def tTn : Tbl := tcons 26 eTri (tcons 27 eNoT (tcons 28 eNoT (tcons 29 eNoT (tcons 30 eNoT (tcons 31 eNoT (tcons 15 eNoT (tcons 16 eNoT
  (tcons 12 (e0 (.bool true)) fun _ => none))))))))

theorem tbA (r : Mem) (n : Int) : (lvlT (SC r) (fun _ => none) .nil 8 4).call 26 [I n] emptyA fin =
    bif decide (n ≥ 3) then bif decide (n ≤ 27) then CR.ret (Value.bool true) (AW.mk 0 Tr.nil Tr.nil) else CR.ret (Value.bool false) (AW.mk 0 Tr.nil Tr.nil) else CR.ret (Value.bool false) (AW.mk 0 Tr.nil Tr.nil) := by kernel_rfl

theorem trP (r : Mem) (n i : Int) (s : List (Nat × Value)) (kn : KS) (kx : Nat → KS) (kr : KS) : run (SC r) 253 100 1000 (lc xTr) (lvlT (SC r) tTn .nil 1000 40) none kn kx kr s (TTr n i) [] emptyA =
    bif m_tri n then bif Int.tmod n (Int.ofNat 6) != Int.ofNat 1 then bif Int.tmod n (Int.ofNat 6) != Int.ofNat 3 then kn [(16, Value.int IntKind.i64 (Int.ofNat 4)), (15, Value.slice none 0 0), (12, Value.tuple (Array.mk [Value.slice none 0 0, Value.int IntKind.i64 (Int.ofNat 4)])), (14, Value.tuple (Array.mk [Value.slice none 0 0, Value.int IntKind.i64 (Int.ofNat 4)])), (13, Value.int IntKind.i64 n)] (Tr.node (Tr.node (Tr.node Tr.nil (some (Value.int IntKind.i64 i)) Tr.nil) none (Tr.node Tr.nil (some (Value.int IntKind.i64 (Int.ofNat 4))) Tr.nil)) (some (Value.int IntKind.i64 n)) (Tr.node (Tr.node Tr.nil (some (Value.slice none 0 0)) Tr.nil) (some (Value.bool false)) Tr.nil)) [] (AW.mk 0 Tr.nil Tr.nil) else CR.fail 420 else CR.fail 420 else kn [(16, Value.int IntKind.i64 (Int.ofNat 1)), (15, Value.slice none 0 0), (12, Value.tuple (Array.mk [Value.slice none 0 0, Value.int IntKind.i64 (Int.ofNat 1)])), (14, Value.tuple (Array.mk [Value.slice none 0 0, Value.int IntKind.i64 (Int.ofNat 1)])), (13, Value.int IntKind.i64 n)] (Tr.node (Tr.node (Tr.node Tr.nil (some (Value.int IntKind.i64 i)) Tr.nil) none (Tr.node Tr.nil (some (Value.int IntKind.i64 (Int.ofNat 1))) Tr.nil)) (some (Value.int IntKind.i64 n)) (Tr.node (Tr.node Tr.nil (some (Value.slice none 0 0)) Tr.nil) (some (Value.bool false)) Tr.nil)) [] (AW.mk 0 Tr.nil Tr.nil) := by kernel_rfl

theorem trN (r : Mem) (n i : Int) (s : List (Nat × Value)) (kn : KS) (kx : Nat → KS) (kr : KS) : run (SC r) 253 100 1000 xTr (lvlT (SC r) tTn .nil 1000 40) none kn kx kr s (TTr n i) [] emptyA =
    bif m_tri n then bif Int.tmod n (Int.ofNat 6) != Int.ofNat 1 then bif Int.tmod n (Int.ofNat 6) != Int.ofNat 3 then bif m_tri n then bif n == Int.ofNat 3 then CR.fail 420 else bif n == Int.ofNat 9 then CR.fail 420 else bif n == Int.ofNat 27 then CR.fail 420 else bif n == Int.ofNat 15 then CR.fail 420 else bif decide (n < 3) then kr [] (Tr.node (Tr.node (Tr.node (Tr.node Tr.nil (some (Value.int IntKind.i64 (Int.ofNat 4))) Tr.nil) (some (Value.int IntKind.i64 i)) Tr.nil) none (Tr.node Tr.nil (some (Value.int IntKind.i64 (Int.ofNat 4))) Tr.nil)) (some (Value.int IntKind.i64 n)) (Tr.node (Tr.node Tr.nil (some (Value.slice none 0 0)) Tr.nil) (some (Value.bool false)) (Tr.node Tr.nil (some (Value.slice none 0 0)) Tr.nil))) [] (AW.mk 0 Tr.nil Tr.nil) else bif decide (n > 27) then kr [] (Tr.node (Tr.node (Tr.node (Tr.node Tr.nil (some (Value.int IntKind.i64 (Int.ofNat 4))) Tr.nil) (some (Value.int IntKind.i64 i)) Tr.nil) none (Tr.node Tr.nil (some (Value.int IntKind.i64 (Int.ofNat 4))) Tr.nil)) (some (Value.int IntKind.i64 n)) (Tr.node (Tr.node Tr.nil (some (Value.slice none 0 0)) Tr.nil) (some (Value.bool false)) (Tr.node Tr.nil (some (Value.slice none 0 0)) Tr.nil))) [] (AW.mk 0 Tr.nil Tr.nil) else bif Int.tmod n (Int.ofNat 6) == Int.ofNat 1 then kr [] (Tr.node (Tr.node (Tr.node (Tr.node Tr.nil (some (Value.int IntKind.i64 (Int.ofNat 4))) Tr.nil) (some (Value.int IntKind.i64 i)) Tr.nil) none (Tr.node Tr.nil (some (Value.int IntKind.i64 (Int.ofNat 4))) Tr.nil)) (some (Value.int IntKind.i64 n)) (Tr.node (Tr.node Tr.nil (some (Value.slice none 0 0)) Tr.nil) (some (Value.bool false)) (Tr.node Tr.nil (some (Value.slice none 0 0)) Tr.nil))) [] (AW.mk 0 Tr.nil Tr.nil) else bif Int.tmod n (Int.ofNat 6) == Int.ofNat 3 then kr [] (Tr.node (Tr.node (Tr.node (Tr.node Tr.nil (some (Value.int IntKind.i64 (Int.ofNat 4))) Tr.nil) (some (Value.int IntKind.i64 i)) Tr.nil) none (Tr.node Tr.nil (some (Value.int IntKind.i64 (Int.ofNat 4))) Tr.nil)) (some (Value.int IntKind.i64 n)) (Tr.node (Tr.node Tr.nil (some (Value.slice none 0 0)) Tr.nil) (some (Value.bool false)) (Tr.node Tr.nil (some (Value.slice none 0 0)) Tr.nil))) [] (AW.mk 0 Tr.nil Tr.nil) else bif n == Int.ofNat 3 then kr [] (Tr.node (Tr.node (Tr.node (Tr.node Tr.nil (some (Value.int IntKind.i64 (Int.ofNat 4))) Tr.nil) (some (Value.int IntKind.i64 i)) Tr.nil) none (Tr.node Tr.nil (some (Value.int IntKind.i64 (Int.ofNat 4))) Tr.nil)) (some (Value.int IntKind.i64 n)) (Tr.node (Tr.node Tr.nil (some (Value.slice none 0 0)) Tr.nil) (some (Value.bool false)) (Tr.node Tr.nil (some (Value.slice none 0 0)) Tr.nil))) [] (AW.mk 0 Tr.nil Tr.nil) else bif n == Int.ofNat 9 then kr [] (Tr.node (Tr.node (Tr.node (Tr.node Tr.nil (some (Value.int IntKind.i64 (Int.ofNat 4))) Tr.nil) (some (Value.int IntKind.i64 i)) Tr.nil) none (Tr.node Tr.nil (some (Value.int IntKind.i64 (Int.ofNat 4))) Tr.nil)) (some (Value.int IntKind.i64 n)) (Tr.node (Tr.node Tr.nil (some (Value.slice none 0 0)) Tr.nil) (some (Value.bool false)) (Tr.node Tr.nil (some (Value.slice none 0 0)) Tr.nil))) [] (AW.mk 0 Tr.nil Tr.nil) else bif n == Int.ofNat 15 then kr [] (Tr.node (Tr.node (Tr.node (Tr.node Tr.nil (some (Value.int IntKind.i64 (Int.ofNat 4))) Tr.nil) (some (Value.int IntKind.i64 i)) Tr.nil) none (Tr.node Tr.nil (some (Value.int IntKind.i64 (Int.ofNat 4))) Tr.nil)) (some (Value.int IntKind.i64 n)) (Tr.node (Tr.node Tr.nil (some (Value.slice none 0 0)) Tr.nil) (some (Value.bool false)) (Tr.node Tr.nil (some (Value.slice none 0 0)) Tr.nil))) [] (AW.mk 0 Tr.nil Tr.nil) else bif n == Int.ofNat 27 then kr [] (Tr.node (Tr.node (Tr.node (Tr.node Tr.nil (some (Value.int IntKind.i64 (Int.ofNat 4))) Tr.nil) (some (Value.int IntKind.i64 i)) Tr.nil) none (Tr.node Tr.nil (some (Value.int IntKind.i64 (Int.ofNat 4))) Tr.nil)) (some (Value.int IntKind.i64 n)) (Tr.node (Tr.node Tr.nil (some (Value.slice none 0 0)) Tr.nil) (some (Value.bool false)) (Tr.node Tr.nil (some (Value.slice none 0 0)) Tr.nil))) [] (AW.mk 0 Tr.nil Tr.nil) else kn [(98, Value.int IntKind.i64 (IntKind.wrap IntKind.i64 (Int.ofNat 3 + IntKind.wrap IntKind.i64 (Int.tmod (IntKind.wrap IntKind.u64 n) (Int.ofNat 25))))), (97, Value.int IntKind.i64 (IntKind.wrap IntKind.i64 (Int.tmod (IntKind.wrap IntKind.u64 n) (Int.ofNat 25)))), (96, Value.int IntKind.u64 (Int.tmod (IntKind.wrap IntKind.u64 n) (Int.ofNat 25))), (95, Value.int IntKind.u64 (IntKind.wrap IntKind.u64 n)), (94, Value.int IntKind.i64 n)] (Tr.node (Tr.node (Tr.node (Tr.node Tr.nil (some (Value.int IntKind.i64 (Int.ofNat 4))) Tr.nil) (some (Value.int IntKind.i64 i)) Tr.nil) none (Tr.node Tr.nil (some (Value.int IntKind.i64 (Int.ofNat 4))) Tr.nil)) (some (Value.int IntKind.i64 (IntKind.wrap IntKind.i64 (Int.ofNat 3 + IntKind.wrap IntKind.i64 (Int.tmod (IntKind.wrap IntKind.u64 n) (Int.ofNat 25)))))) (Tr.node (Tr.node Tr.nil (some (Value.slice none 0 0)) Tr.nil) (some (Value.bool false)) (Tr.node Tr.nil (some (Value.slice none 0 0)) Tr.nil))) [] (AW.mk 0 Tr.nil Tr.nil) else bif decide (n < 3) then kr [] (Tr.node (Tr.node (Tr.node (Tr.node Tr.nil (some (Value.int IntKind.i64 (Int.ofNat 1))) Tr.nil) (some (Value.int IntKind.i64 i)) Tr.nil) none (Tr.node Tr.nil (some (Value.int IntKind.i64 (Int.ofNat 4))) Tr.nil)) (some (Value.int IntKind.i64 n)) (Tr.node (Tr.node Tr.nil (some (Value.slice none 0 0)) Tr.nil) (some (Value.bool false)) (Tr.node Tr.nil (some (Value.slice none 0 0)) Tr.nil))) [] (AW.mk 0 Tr.nil Tr.nil) else bif decide (n > 27) then kr [] (Tr.node (Tr.node (Tr.node (Tr.node Tr.nil (some (Value.int IntKind.i64 (Int.ofNat 1))) Tr.nil) (some (Value.int IntKind.i64 i)) Tr.nil) none (Tr.node Tr.nil (some (Value.int IntKind.i64 (Int.ofNat 4))) Tr.nil)) (some (Value.int IntKind.i64 n)) (Tr.node (Tr.node Tr.nil (some (Value.slice none 0 0)) Tr.nil) (some (Value.bool false)) (Tr.node Tr.nil (some (Value.slice none 0 0)) Tr.nil))) [] (AW.mk 0 Tr.nil Tr.nil) else bif Int.tmod n (Int.ofNat 6) == Int.ofNat 1 then kr [] (Tr.node (Tr.node (Tr.node (Tr.node Tr.nil (some (Value.int IntKind.i64 (Int.ofNat 1))) Tr.nil) (some (Value.int IntKind.i64 i)) Tr.nil) none (Tr.node Tr.nil (some (Value.int IntKind.i64 (Int.ofNat 4))) Tr.nil)) (some (Value.int IntKind.i64 n)) (Tr.node (Tr.node Tr.nil (some (Value.slice none 0 0)) Tr.nil) (some (Value.bool false)) (Tr.node Tr.nil (some (Value.slice none 0 0)) Tr.nil))) [] (AW.mk 0 Tr.nil Tr.nil) else bif Int.tmod n (Int.ofNat 6) == Int.ofNat 3 then kr [] (Tr.node (Tr.node (Tr.node (Tr.node Tr.nil (some (Value.int IntKind.i64 (Int.ofNat 1))) Tr.nil) (some (Value.int IntKind.i64 i)) Tr.nil) none (Tr.node Tr.nil (some (Value.int IntKind.i64 (Int.ofNat 4))) Tr.nil)) (some (Value.int IntKind.i64 n)) (Tr.node (Tr.node Tr.nil (some (Value.slice none 0 0)) Tr.nil) (some (Value.bool false)) (Tr.node Tr.nil (some (Value.slice none 0 0)) Tr.nil))) [] (AW.mk 0 Tr.nil Tr.nil) else bif n == Int.ofNat 3 then kr [] (Tr.node (Tr.node (Tr.node (Tr.node Tr.nil (some (Value.int IntKind.i64 (Int.ofNat 1))) Tr.nil) (some (Value.int IntKind.i64 i)) Tr.nil) none (Tr.node Tr.nil (some (Value.int IntKind.i64 (Int.ofNat 4))) Tr.nil)) (some (Value.int IntKind.i64 n)) (Tr.node (Tr.node Tr.nil (some (Value.slice none 0 0)) Tr.nil) (some (Value.bool false)) (Tr.node Tr.nil (some (Value.slice none 0 0)) Tr.nil))) [] (AW.mk 0 Tr.nil Tr.nil) else bif n == Int.ofNat 9 then kr [] (Tr.node (Tr.node (Tr.node (Tr.node Tr.nil (some (Value.int IntKind.i64 (Int.ofNat 1))) Tr.nil) (some (Value.int IntKind.i64 i)) Tr.nil) none (Tr.node Tr.nil (some (Value.int IntKind.i64 (Int.ofNat 4))) Tr.nil)) (some (Value.int IntKind.i64 n)) (Tr.node (Tr.node Tr.nil (some (Value.slice none 0 0)) Tr.nil) (some (Value.bool false)) (Tr.node Tr.nil (some (Value.slice none 0 0)) Tr.nil))) [] (AW.mk 0 Tr.nil Tr.nil) else bif n == Int.ofNat 15 then kr [] (Tr.node (Tr.node (Tr.node (Tr.node Tr.nil (some (Value.int IntKind.i64 (Int.ofNat 1))) Tr.nil) (some (Value.int IntKind.i64 i)) Tr.nil) none (Tr.node Tr.nil (some (Value.int IntKind.i64 (Int.ofNat 4))) Tr.nil)) (some (Value.int IntKind.i64 n)) (Tr.node (Tr.node Tr.nil (some (Value.slice none 0 0)) Tr.nil) (some (Value.bool false)) (Tr.node Tr.nil (some (Value.slice none 0 0)) Tr.nil))) [] (AW.mk 0 Tr.nil Tr.nil) else bif n == Int.ofNat 27 then kr [] (Tr.node (Tr.node (Tr.node (Tr.node Tr.nil (some (Value.int IntKind.i64 (Int.ofNat 1))) Tr.nil) (some (Value.int IntKind.i64 i)) Tr.nil) none (Tr.node Tr.nil (some (Value.int IntKind.i64 (Int.ofNat 4))) Tr.nil)) (some (Value.int IntKind.i64 n)) (Tr.node (Tr.node Tr.nil (some (Value.slice none 0 0)) Tr.nil) (some (Value.bool false)) (Tr.node Tr.nil (some (Value.slice none 0 0)) Tr.nil))) [] (AW.mk 0 Tr.nil Tr.nil) else kr [] (Tr.node (Tr.node (Tr.node (Tr.node Tr.nil (some (Value.int IntKind.i64 (Int.ofNat 1))) Tr.nil) (some (Value.int IntKind.i64 i)) Tr.nil) none (Tr.node Tr.nil (some (Value.int IntKind.i64 (Int.ofNat 4))) Tr.nil)) (some (Value.int IntKind.i64 n)) (Tr.node (Tr.node Tr.nil (some (Value.slice none 0 0)) Tr.nil) (some (Value.bool false)) (Tr.node Tr.nil (some (Value.slice none 0 0)) Tr.nil))) [] (AW.mk 0 Tr.nil Tr.nil) else CR.fail 420 else CR.fail 420 else bif m_tri n then bif n == Int.ofNat 3 then CR.fail 420 else bif n == Int.ofNat 9 then CR.fail 420 else bif n == Int.ofNat 27 then CR.fail 420 else bif n == Int.ofNat 15 then CR.fail 420 else bif decide (n < 3) then kr [] (Tr.node (Tr.node (Tr.node (Tr.node Tr.nil (some (Value.int IntKind.i64 (Int.ofNat 4))) Tr.nil) (some (Value.int IntKind.i64 i)) Tr.nil) none (Tr.node Tr.nil (some (Value.int IntKind.i64 (Int.ofNat 1))) Tr.nil)) (some (Value.int IntKind.i64 n)) (Tr.node (Tr.node Tr.nil (some (Value.slice none 0 0)) Tr.nil) (some (Value.bool false)) (Tr.node Tr.nil (some (Value.slice none 0 0)) Tr.nil))) [] (AW.mk 0 Tr.nil Tr.nil) else bif decide (n > 27) then kr [] (Tr.node (Tr.node (Tr.node (Tr.node Tr.nil (some (Value.int IntKind.i64 (Int.ofNat 4))) Tr.nil) (some (Value.int IntKind.i64 i)) Tr.nil) none (Tr.node Tr.nil (some (Value.int IntKind.i64 (Int.ofNat 1))) Tr.nil)) (some (Value.int IntKind.i64 n)) (Tr.node (Tr.node Tr.nil (some (Value.slice none 0 0)) Tr.nil) (some (Value.bool false)) (Tr.node Tr.nil (some (Value.slice none 0 0)) Tr.nil))) [] (AW.mk 0 Tr.nil Tr.nil) else bif Int.tmod n (Int.ofNat 6) == Int.ofNat 1 then kr [] (Tr.node (Tr.node (Tr.node (Tr.node Tr.nil (some (Value.int IntKind.i64 (Int.ofNat 4))) Tr.nil) (some (Value.int IntKind.i64 i)) Tr.nil) none (Tr.node Tr.nil (some (Value.int IntKind.i64 (Int.ofNat 1))) Tr.nil)) (some (Value.int IntKind.i64 n)) (Tr.node (Tr.node Tr.nil (some (Value.slice none 0 0)) Tr.nil) (some (Value.bool false)) (Tr.node Tr.nil (some (Value.slice none 0 0)) Tr.nil))) [] (AW.mk 0 Tr.nil Tr.nil) else bif Int.tmod n (Int.ofNat 6) == Int.ofNat 3 then kr [] (Tr.node (Tr.node (Tr.node (Tr.node Tr.nil (some (Value.int IntKind.i64 (Int.ofNat 4))) Tr.nil) (some (Value.int IntKind.i64 i)) Tr.nil) none (Tr.node Tr.nil (some (Value.int IntKind.i64 (Int.ofNat 1))) Tr.nil)) (some (Value.int IntKind.i64 n)) (Tr.node (Tr.node Tr.nil (some (Value.slice none 0 0)) Tr.nil) (some (Value.bool false)) (Tr.node Tr.nil (some (Value.slice none 0 0)) Tr.nil))) [] (AW.mk 0 Tr.nil Tr.nil) else kr [] (Tr.node (Tr.node (Tr.node (Tr.node Tr.nil (some (Value.int IntKind.i64 (Int.ofNat 4))) Tr.nil) (some (Value.int IntKind.i64 i)) Tr.nil) none (Tr.node Tr.nil (some (Value.int IntKind.i64 (Int.ofNat 1))) Tr.nil)) (some (Value.int IntKind.i64 n)) (Tr.node (Tr.node Tr.nil (some (Value.slice none 0 0)) Tr.nil) (some (Value.bool false)) (Tr.node Tr.nil (some (Value.slice none 0 0)) Tr.nil))) [] (AW.mk 0 Tr.nil Tr.nil) else bif decide (n < 3) then kn [(98, Value.int IntKind.i64 (IntKind.wrap IntKind.i64 (Int.ofNat 3 + IntKind.wrap IntKind.i64 (Int.tmod (IntKind.wrap IntKind.u64 n) (Int.ofNat 25))))), (97, Value.int IntKind.i64 (IntKind.wrap IntKind.i64 (Int.tmod (IntKind.wrap IntKind.u64 n) (Int.ofNat 25)))), (96, Value.int IntKind.u64 (Int.tmod (IntKind.wrap IntKind.u64 n) (Int.ofNat 25))), (95, Value.int IntKind.u64 (IntKind.wrap IntKind.u64 n)), (94, Value.int IntKind.i64 n)] (Tr.node (Tr.node (Tr.node (Tr.node Tr.nil (some (Value.int IntKind.i64 (Int.ofNat 1))) Tr.nil) (some (Value.int IntKind.i64 i)) Tr.nil) none (Tr.node Tr.nil (some (Value.int IntKind.i64 (Int.ofNat 1))) Tr.nil)) (some (Value.int IntKind.i64 (IntKind.wrap IntKind.i64 (Int.ofNat 3 + IntKind.wrap IntKind.i64 (Int.tmod (IntKind.wrap IntKind.u64 n) (Int.ofNat 25)))))) (Tr.node (Tr.node Tr.nil (some (Value.slice none 0 0)) Tr.nil) (some (Value.bool false)) (Tr.node Tr.nil (some (Value.slice none 0 0)) Tr.nil))) [] (AW.mk 0 Tr.nil Tr.nil) else bif decide (n > 27) then kn [(98, Value.int IntKind.i64 (IntKind.wrap IntKind.i64 (Int.ofNat 3 + IntKind.wrap IntKind.i64 (Int.tmod (IntKind.wrap IntKind.u64 n) (Int.ofNat 25))))), (97, Value.int IntKind.i64 (IntKind.wrap IntKind.i64 (Int.tmod (IntKind.wrap IntKind.u64 n) (Int.ofNat 25)))), (96, Value.int IntKind.u64 (Int.tmod (IntKind.wrap IntKind.u64 n) (Int.ofNat 25))), (95, Value.int IntKind.u64 (IntKind.wrap IntKind.u64 n)), (94, Value.int IntKind.i64 n)] (Tr.node (Tr.node (Tr.node (Tr.node Tr.nil (some (Value.int IntKind.i64 (Int.ofNat 1))) Tr.nil) (some (Value.int IntKind.i64 i)) Tr.nil) none (Tr.node Tr.nil (some (Value.int IntKind.i64 (Int.ofNat 1))) Tr.nil)) (some (Value.int IntKind.i64 (IntKind.wrap IntKind.i64 (Int.ofNat 3 + IntKind.wrap IntKind.i64 (Int.tmod (IntKind.wrap IntKind.u64 n) (Int.ofNat 25)))))) (Tr.node (Tr.node Tr.nil (some (Value.slice none 0 0)) Tr.nil) (some (Value.bool false)) (Tr.node Tr.nil (some (Value.slice none 0 0)) Tr.nil))) [] (AW.mk 0 Tr.nil Tr.nil) else bif Int.tmod n (Int.ofNat 6) == Int.ofNat 1 then kr [] (Tr.node (Tr.node (Tr.node (Tr.node Tr.nil (some (Value.int IntKind.i64 (Int.ofNat 1))) Tr.nil) (some (Value.int IntKind.i64 i)) Tr.nil) none (Tr.node Tr.nil (some (Value.int IntKind.i64 (Int.ofNat 1))) Tr.nil)) (some (Value.int IntKind.i64 n)) (Tr.node (Tr.node Tr.nil (some (Value.slice none 0 0)) Tr.nil) (some (Value.bool false)) (Tr.node Tr.nil (some (Value.slice none 0 0)) Tr.nil))) [] (AW.mk 0 Tr.nil Tr.nil) else bif Int.tmod n (Int.ofNat 6) == Int.ofNat 3 then kr [] (Tr.node (Tr.node (Tr.node (Tr.node Tr.nil (some (Value.int IntKind.i64 (Int.ofNat 1))) Tr.nil) (some (Value.int IntKind.i64 i)) Tr.nil) none (Tr.node Tr.nil (some (Value.int IntKind.i64 (Int.ofNat 1))) Tr.nil)) (some (Value.int IntKind.i64 n)) (Tr.node (Tr.node Tr.nil (some (Value.slice none 0 0)) Tr.nil) (some (Value.bool false)) (Tr.node Tr.nil (some (Value.slice none 0 0)) Tr.nil))) [] (AW.mk 0 Tr.nil Tr.nil) else kr [] (Tr.node (Tr.node (Tr.node (Tr.node Tr.nil (some (Value.int IntKind.i64 (Int.ofNat 1))) Tr.nil) (some (Value.int IntKind.i64 i)) Tr.nil) none (Tr.node Tr.nil (some (Value.int IntKind.i64 (Int.ofNat 1))) Tr.nil)) (some (Value.int IntKind.i64 n)) (Tr.node (Tr.node Tr.nil (some (Value.slice none 0 0)) Tr.nil) (some (Value.bool false)) (Tr.node Tr.nil (some (Value.slice none 0 0)) Tr.nil))) [] (AW.mk 0 Tr.nil Tr.nil) := by kernel_rfl

theorem trH (r : Mem) (L : Nat) (fs : FnsC) (n i : Int) (s : List (Nat × Value)) (kn : KS) (kx : Nat → KS) (kr : KS) : run (SC r) 253 100 L (lc oTr) fs none kn kx kr s (TTr n i) [] emptyA =
    bif decide (i < 2) then kn [(9, Value.bool true), (8, Value.int IntKind.i64 i)] (Tr.node (Tr.node (Tr.node Tr.nil (some (Value.int IntKind.i64 i)) Tr.nil) none Tr.nil) (some (Value.int IntKind.i64 n)) (Tr.node Tr.nil (some (Value.bool false)) Tr.nil)) [] (AW.mk 0 Tr.nil Tr.nil) else kx 0 [(9, Value.bool false), (8, Value.int IntKind.i64 i)] (Tr.node (Tr.node (Tr.node Tr.nil (some (Value.int IntKind.i64 i)) Tr.nil) none Tr.nil) (some (Value.int IntKind.i64 n)) (Tr.node Tr.nil (some (Value.bool false)) Tr.nil)) [] (AW.mk 0 Tr.nil Tr.nil) := by kernel_rfl

theorem trI (r : Mem) (L : Nat) (fs : FnsC) (n i : Int) (s : List (Nat × Value)) (kn : KS) (kx : Nat → KS) (kr : KS) : run (SC r) 253 100 L (rc (rc oTr)) fs none kn kx kr s (TTr n i) [] emptyA =
    kn [(11, Value.int IntKind.i64 (IntKind.wrap IntKind.i64 (i + Int.ofNat 1))), (10, Value.int IntKind.i64 i)] (Tr.node (Tr.node (Tr.node Tr.nil (some (Value.int IntKind.i64 (IntKind.wrap IntKind.i64 (i + Int.ofNat 1)))) Tr.nil) none Tr.nil) (some (Value.int IntKind.i64 n)) (Tr.node Tr.nil (some (Value.bool false)) Tr.nil)) [] (AW.mk 0 Tr.nil Tr.nil) := by kernel_rfl

theorem trZ (r : Mem) (n : Int) (s : List (Nat × Value)) (kn : KS) (kx : Nat → KS) (kr : KS) : run (SC r) 253 100 1000 (lc (lc (rc cTr))) (lvlT (SC r) tTn .nil 1000 40) none kn kx kr s (TTr0 n) [] emptyA =
    kn [] (Tr.node (Tr.node (Tr.node Tr.nil (some (Value.int IntKind.i64 (Int.ofNat 0))) Tr.nil) none Tr.nil) (some (Value.int IntKind.i64 n)) (Tr.node Tr.nil (some (Value.bool false)) Tr.nil)) [] (AW.mk 0 Tr.nil Tr.nil) := by kernel_rfl

theorem trF (r : Mem) (n i : Int) (s : List (Nat × Value)) (kn : KS) (kx : Nat → KS) (kr : KS) : run (SC r) 253 100 1000 (rc (rc cTr)) (lvlT (SC r) tTn .nil 1000 40) none kn kx kr s (TTr n i) [] emptyA =
    kr [(99, Value.bool true)] (Tr.node (Tr.node (Tr.node Tr.nil (some (Value.int IntKind.i64 i)) Tr.nil) none Tr.nil) (some (Value.int IntKind.i64 n)) (Tr.node Tr.nil (some (Value.bool true)) Tr.nil)) [] (AW.mk 0 Tr.nil Tr.nil) := by kernel_rfl

theorem tbA_ok (r : Mem) (n : Int) : GrT Try.prog r 26 [I n] (.bool (m_tri n)) :=
  GrT.of (SC_ok r) (t := fun _ => none) TOk.nil .nil rfl ⟨8, 4, by
    rw [tbA]
    unfold m_tri
    cases decide (n ≥ 3) <;> cases decide (n ≤ 27) <;> rfl⟩
theorem eNoT_ok {C : Cfg} {f : Nat} : EOk C f eNoT := EOk.ent fun _ _ h => nomatch h
theorem tTn_ok (r : Mem) : TOk (SC r) tTn := by
  have hb : EOk (SC r) 26 eTri := eI1_ok fun a _ => tbA_ok r a
  exact TOk.cons (TOk.cons (TOk.cons (TOk.cons (TOk.cons (TOk.cons (TOk.cons (TOk.cons (TOk.cons TOk.nil (e0_ok (awake_ok r))) eNoT_ok) eNoT_ok) eNoT_ok) eNoT_ok) eNoT_ok) eNoT_ok) eNoT_ok) hb

end Go.Proofs

/- The law of triples made: it answers true. -/
namespace Go.Proofs
open Go Go.Ev
set_option linter.unusedVariables false

theorem gTr_use {s : List (Nat × Value)} {b : Tr Value} {ms : List Nat} {A : AW} {x y z : Value} (h : gTr s b ms A = some (.tuple ⟨[x, y, z]⟩)) : b.get 0 = some x ∧ b.get 3 = some y ∧ b.get 2 = some z ∧ ms = [] := by
  unfold gTr at h
  split at h
  · rename_i h0 h3 h2
    cases h
    exact ⟨h0, h3, h2, rfl⟩
  · cases h

theorem ren_tr {r : Mem} {W0 : World} (s : List (Nat × Value)) (T : Tr Value) (n i : Int) (A : AW) (h0 : T.get 0 = some (I n)) (h3 : T.get 3 = some (I i)) (h2 : T.get 2 = some (.bool false)) : Ren (SC r) 253 100 noG W0 ⟨⟨s, T⟩, [], A⟩ ⟨⟨[], TTr n i⟩, [], emptyA⟩ := by
  refine Ren.of (fun i => i) 0 rfl (fun _ _ => rfl) (Nat.zero_le _) (fun i hi => rfl) ?_ rfl trivial trivial
  simp only [Tr.All, TTr]
  exact ⟨⟨_, h0, rfl⟩, ⟨trivial, ⟨⟨_, h3, rfl⟩, trivial, trivial⟩, trivial⟩, ⟨_, h2, rfl⟩, trivial, trivial⟩

theorem tri_cases (n : Int) (h : m_tri n = true) : 3 ≤ n ∧ n ≤ 27 := by
  unfold m_tri at h
  simp only [Bool.and_eq_true, decide_eq_true_eq] at h
  omega
theorem tri_not (n : Int) (h : m_tri n = false) : n < 3 ∨ n > 27 := by
  unfold m_tri at h
  simp only [Bool.and_eq_false_iff, decide_eq_false_iff_not] at h
  omega

/-- The round's body: whatever the number is, it goes on with some number, the same count. -/
theorem tr_body {r : Mem} {F : Fence} {k : Nat} {W0 : World} (hF : Wide F) (hro : F.round = none) (n i : Int) (s : List (Nat × Value)) {Q : Exit → St → Prop} (hQ : ∀ st n', Ren (SC r) 253 100 noG W0 st ⟨⟨[], TTr n' i⟩, [], emptyA⟩ → Q .normal st) :
    Go.Ev.Reach (SC r) 253 100 F k noG W0 xTr ⟨⟨s, TTr n i⟩, [], emptyA⟩ Q := by
  have key : ∀ (t : Tbl) (m : Int), TOk (CC r) t → (run (CC r) 253 100 1000 xTr (lvlT (CC r) t mskH 1000 40) none (qv gTr) (fun _ => qF) qF s (TTr n i) [] emptyA = .ret (.tuple ⟨[I m, I i, .bool false]⟩) ⟨0, .nil, .nil⟩) →
      Go.Ev.Reach (SC r) 253 100 F k noG W0 xTr ⟨⟨s, TTr n i⟩, [], emptyA⟩ Q := fun t m ht hm =>
    Reach.conv (C := CC r) (C' := SC r) rfl rfl (Reach.segV (CC_ok r) ht hF hro gTr hm fun s' b ms A h => by
      obtain ⟨h0, h3, h2, rfl⟩ := gTr_use h
      exact hQ _ m (ren_tr _ _ _ _ _ h0 h3 h2))
  cases c : m_tri n with
  | true =>
    obtain ⟨c1, c2⟩ := tri_cases n c
    have hn : n = 3 ∨ n = 4 ∨ n = 5 ∨ n = 6 ∨ n = 7 ∨ n = 8 ∨ n = 9 ∨ n = 10 ∨ n = 11 ∨ n = 12 ∨ n = 13 ∨ n = 14 ∨ n = 15 ∨ n = 16 ∨ n = 17 ∨ n = 18 ∨ n = 19 ∨ n = 20 ∨ n = 21 ∨ n = 22 ∨ n = 23 ∨ n = 24 ∨ n = 25 ∨ n = 26 ∨ n = 27 := by omega
    rcases hn with h | h | h | h | h | h | h | h | h | h | h | h | h | h | h | h | h | h | h | h | h | h | h | h | h
    · subst h; exact key _ _ (tTrC_ok r) (tr_3 r i s)
    · subst h; exact key _ _ (tTrC_ok r) (tr_4 r i s)
    · subst h; exact key _ _ (tTrC_ok r) (tr_5 r i s)
    · subst h; exact key _ _ (tTrC_ok r) (tr_6 r i s)
    · subst h; exact key _ _ (tTrC_ok r) (tr_7 r i s)
    · subst h; exact key _ _ (tTrC_ok r) (tr_8 r i s)
    · subst h; exact key _ _ (tTrC_ok r) (tr_9 r i s)
    · subst h; exact key _ _ (tTrC_ok r) (tr_10 r i s)
    · subst h; exact key _ _ (tTrC_ok r) (tr_11 r i s)
    · subst h; exact key _ _ (tTrC_ok r) (tr_12 r i s)
    · subst h; exact key _ _ (tTrC_ok r) (tr_13 r i s)
    · subst h; exact key _ _ (tTrC_ok r) (tr_14 r i s)
    · subst h; exact key _ _ (t15_ok r) (tr_15 r i s)
    · subst h; exact key _ _ (tTrC_ok r) (tr_16 r i s)
    · subst h; exact key _ _ (tTrC_ok r) (tr_17 r i s)
    · subst h; exact key _ _ (tTrC_ok r) (tr_18 r i s)
    · subst h; exact key _ _ (t19_ok r) (tr_19 r i s)
    · subst h; exact key _ _ (tTrC_ok r) (tr_20 r i s)
    · subst h; exact key _ _ (t21_ok r) (tr_21 r i s)
    · subst h; exact key _ _ (tTrC_ok r) (tr_22 r i s)
    · subst h; exact key _ _ (tTrC_ok r) (tr_23 r i s)
    · subst h; exact key _ _ (tTrC_ok r) (tr_24 r i s)
    · subst h; exact key _ _ (t25_ok r) (tr_25 r i s)
    · subst h; exact key _ _ (tTrC_ok r) (tr_26 r i s)
    · subst h; exact key _ _ (t27_ok r) (tr_27 r i s)
  | false =>
    refine Go.Ev.Reach.seg (SC_ok r) (tTn_ok r) (tm := .nil) (L := 1000) (L' := 1000) (d := 40) hF hro ((trN r n i s _ _ _).trans ?_)
    rw [c]
    simp only [cond_false]
    rcases tri_not n c with h | h
    · rw [dT h]
      simp only [cond_true]
      exact qn_ok (hQ _ _ (ren_tr _ _ _ i _ rfl rfl rfl))
    · rw [dT h]
      simp only [cond_true]
      cases decide (n < 3) <;> exact qn_ok (hQ _ _ (ren_tr _ _ _ i _ rfl rfl rfl))

theorem cTr_eq : cTr = .seq (lc cTr) (.seq (.seq (lc (lc (rc cTr))) (.block 0 (.loop oTr))) (rc (rc cTr))) := by kernel_rfl
theorem oTr_eq : oTr = .seq (lc oTr) (.seq (.block 1 xTr) (rc (rc oTr))) := by kernel_rfl

theorem triples_law (r : Mem) (n : Int) : GrT Try.prog r 4 [I n] (.bool true) := by
  refine GrM.plain (fun F hF k W args' hR ha => ?_) rfl
  obtain ⟨fn, h1, h2, h3, h4⟩ := fn_of (C := SC r) (f := 4) (by kernel_rfl)
  have hn : fn.ntmps = 100 := h3.trans (by kernel_rfl)
  have hr : fn.results.toList = [.tmp 2] := h4.trans (by kernel_rfl)
  rw [bodySC] at h2
  refine call_reach (C := SC r) (SC_ok r) (A := emptyA) h1 h2 253 (by rw [hn]; rfl) (fun F k hF hro => ?_) (WRel.empty W) hR ha hF k
  rw [hn, hr]
  show Go.Ev.Reach (SC r) 253 100 F k noG W cTr _ _
  rw [cTr_eq]
  refine Go.Ev.Reach.seq (Go.Ev.Reach.seg (SC_ok r) (tTn_ok r) (tm := .nil) (L := 1000) (L' := 1000) (d := 40) hF hro ((trA r _ _ n _ _ _).trans (qn_ok ?_)))
  refine Go.Ev.Reach.seq (Go.Ev.Reach.seq (Go.Ev.Reach.seg (SC_ok r) (tTn_ok r) (tm := .nil) (L := 1000) (L' := 1000) (d := 40) hF hro ((trZ r n _ _ _ _).trans (qn_ok ?_))))
  refine Go.Ev.Reach.block (Go.Ev.Reach.loop (I := fun j st => ∃ st1, Ren (SC r) 253 100 noG W st st1 ∧ ∃ n i, 0 ≤ i ∧ j = (2 - i : Int).toNat ∧ st1 = ⟨⟨[], TTr n i⟩, [], emptyA⟩) (fun j st ⟨st1, hr, n, i, hi, hj, hs⟩ => Go.Ev.Reach.pre hr ?_) ⟨_, Ren.refl _, n, 0, by omega, rfl, rfl⟩)
  subst hs
  rw [oTr_eq]
  by_cases c : i < 2
  · refine Go.Ev.Reach.seq (Go.Ev.Reach.seg (SC_ok r) (tTn_ok r) (tm := .nil) (L := 1000) (L' := 1000) (d := 40) hF hro ((trH r _ _ n i _ _ _ _).trans ?_))
    rw [dT c, cond_true]
    refine qn_ok ?_
    refine Go.Ev.Reach.seq (Go.Ev.Reach.block (tr_body hF hro n i _ fun st n' hr' => ?_))
    refine Go.Ev.Reach.pre hr' ?_
    refine Go.Ev.Reach.seg (SC_ok r) (tTn_ok r) (tm := .nil) (L := 1000) (L' := 1000) (d := 40) hF hro ((trI r _ _ n' i _ _ _ _).trans (qn_ok ?_))
    refine ⟨(2 - (i + 1) : Int).toNat, by omega, _, ren_tr _ _ n' (i + 1) _ rfl ?_ rfl, n', i + 1, by omega, rfl, rfl⟩
    show some (Value.int IntKind.i64 (IntKind.wrap IntKind.i64 (i + Int.ofNat 1))) = some (I (i + 1))
    rw [wrI (z := i + Int.ofNat 1) (by constructor <;> (show _ ≤ _; have : (Int.ofNat 1 : Int) = 1 := rfl; omega))]
    rfl
  · refine Go.Ev.Reach.seq (Go.Ev.Reach.seg (SC_ok r) (tTn_ok r) (tm := .nil) (L := 1000) (L' := 1000) (d := 40) hF hro ((trH r _ _ n i _ _ _ _).trans ?_))
    rw [dF c, cond_false]
    refine qn_ok ?_
    simp only [if_true]
    refine Go.Ev.Reach.pre (st1 := ⟨⟨[], TTr n i⟩, [], emptyA⟩) (ren_tr _ _ n i _ rfl rfl rfl) ?_
    exact Go.Ev.Reach.seg (SC_ok r) (tTn_ok r) (tm := .nil) (L := 1000) (L' := 1000) (d := 40) hF hro ((trF r n i _ _ _ _).trans (qn_ok ⟨.inr rfl, _, Ren.refl _, rfl⟩))

theorem law_triples (r : Mem) (u0 : Value) (s0 : ArgInt .i64 u0) : GrT Try.prog r 4 [u0] (.bool true) := by
  obtain ⟨n, rfl, _⟩ := s0
  exact triples_law r n

end Go.Proofs

