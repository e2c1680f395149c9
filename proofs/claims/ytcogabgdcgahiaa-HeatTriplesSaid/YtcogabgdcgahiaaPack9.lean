/- What the claim is proved with, part 9: the evaluator and the contracts of the calls. -/
import Derived.Test.YtcogabgdcgahiaaPack5
import Derived.Test.YtcogabgdcgahiaaPack6
import Derived.Test.YtcogabgdcgahiaaPack7
import Derived.Test.YtcogabgdcgahiaaPack8
import Derived.Test.YtcogabgdcgahiaaPack1
import Derived.Test.YtcogabgdcgahiaaPack2
import Derived.Test.YtcogabgdcgahiaaPack3
import Derived.Test.YtcogabgdcgahiaaPack4
/- The law of triples made: tables with the long calls. -/
namespace Go.Proofs
open Go Go.Ev
set_option linter.unusedVariables false
set_option maxRecDepth 100000

def eFirst : Ent := ⟨fun args _ => match args with | [] => true | _ => false, fun _ _ => true, fun _ A => .slice (some ⟨A.next, 0, none⟩) 5 9223372036854775808, fun _ A => A.new (.cells (cI c5) 62 A.next 3), fun _ _ => undef, fun _ A => A⟩
theorem eFirst_ok (r : Mem) : EOk (SC r) 31 eFirst := fun args A hg F hF k γ W args' hw hR ha => by
  simp only [eFirst] at hg
  split at hg
  · refine ⟨fun _ => ?_, fun h => nomatch h⟩
    exact (firstDay_row r).ends (γ := γ) (A := A) rfl (cI_gnds c5) hF hw (hR.noG noG fun _ => rfl) (by have := ha.eq_of_gnds (by rfl); rw [this]; exact VsRel.of_gnds _ _ rfl) ha
  · cases hg

noncomputable def t15 : Tbl := tcons 31 eFirst tTr
noncomputable def t19 : Tbl := tcons 13 (eTs 19 57 ts19) tTr
noncomputable def t21 : Tbl := tcons 13 (eTs 21 70 ts21) tTr
noncomputable def t25 : Tbl := tcons 13 (eTs 25 100 ts25) tTr
noncomputable def t27 : Tbl := tcons 13 (eTs 27 117 ts27) tTr
theorem t15_ok (r : Mem) : TOk (CC r) t15 := (show TOk (SC r) t15 from TOk.cons (tTr_ok r) (eFirst_ok r))
theorem t19_ok (r : Mem) : TOk (CC r) t19 := (show TOk (SC r) t19 from TOk.cons (tTr_ok r) (eTs_ok (triples_19 r)))
theorem t21_ok (r : Mem) : TOk (CC r) t21 := (show TOk (SC r) t21 from TOk.cons (tTr_ok r) (eTs_ok (triples_21 r)))
theorem t25_ok (r : Mem) : TOk (CC r) t25 := (show TOk (SC r) t25 from TOk.cons (tTr_ok r) (eTs_ok (triples_25 r)))
theorem t27_ok (r : Mem) : TOk (CC r) t27 := (show TOk (SC r) t27 from TOk.cons (tTr_ok r) (eTs_ok (triples_27 r)))

end Go.Proofs

/- The law of triples made: rounds of numbers that are known. -/
namespace Go.Proofs
open Go Go.Ev
set_option linter.unusedVariables false
set_option maxRecDepth 100000

theorem tr_3 (r : Mem) (i : Int) (s : List (Nat × Value)) : run (CC r) 253 100 1000 xTr (lvlT (CC r) tTr mskH 1000 40) none (qv gTr) (fun _ => qF) qF s (TTr 3 i) [] emptyA = .ret (.tuple ⟨[I (3 + 3 % 25), I i, .bool false]⟩) ⟨0, .nil, .nil⟩ := by kernel_rfl

theorem tr_4 (r : Mem) (i : Int) (s : List (Nat × Value)) : run (CC r) 253 100 1000 xTr (lvlT (CC r) tTr mskH 1000 40) none (qv gTr) (fun _ => qF) qF s (TTr 4 i) [] emptyA = .ret (.tuple ⟨[I (3 + 4 % 25), I i, .bool false]⟩) ⟨0, .nil, .nil⟩ := by kernel_rfl

theorem tr_5 (r : Mem) (i : Int) (s : List (Nat × Value)) : run (CC r) 253 100 1000 xTr (lvlT (CC r) tTr mskH 1000 40) none (qv gTr) (fun _ => qF) qF s (TTr 5 i) [] emptyA = .ret (.tuple ⟨[I (3 + 5 % 25), I i, .bool false]⟩) ⟨0, .nil, .nil⟩ := by kernel_rfl

theorem tr_6 (r : Mem) (i : Int) (s : List (Nat × Value)) : run (CC r) 253 100 1000 xTr (lvlT (CC r) tTr mskH 1000 40) none (qv gTr) (fun _ => qF) qF s (TTr 6 i) [] emptyA = .ret (.tuple ⟨[I (3 + 6 % 25), I i, .bool false]⟩) ⟨0, .nil, .nil⟩ := by kernel_rfl

theorem tr_7 (r : Mem) (i : Int) (s : List (Nat × Value)) : run (CC r) 253 100 1000 xTr (lvlT (CC r) tTr mskH 1000 40) none (qv gTr) (fun _ => qF) qF s (TTr 7 i) [] emptyA = .ret (.tuple ⟨[I (3 + 7 % 25), I i, .bool false]⟩) ⟨0, .nil, .nil⟩ := by kernel_rfl

theorem tr_8 (r : Mem) (i : Int) (s : List (Nat × Value)) : run (CC r) 253 100 1000 xTr (lvlT (CC r) tTr mskH 1000 40) none (qv gTr) (fun _ => qF) qF s (TTr 8 i) [] emptyA = .ret (.tuple ⟨[I (3 + 8 % 25), I i, .bool false]⟩) ⟨0, .nil, .nil⟩ := by kernel_rfl

theorem tr_9 (r : Mem) (i : Int) (s : List (Nat × Value)) : run (CC r) 253 100 1000 xTr (lvlT (CC r) tTr mskH 1000 40) none (qv gTr) (fun _ => qF) qF s (TTr 9 i) [] emptyA = .ret (.tuple ⟨[I (3 + 9 % 25), I i, .bool false]⟩) ⟨0, .nil, .nil⟩ := by kernel_rfl

theorem tr_10 (r : Mem) (i : Int) (s : List (Nat × Value)) : run (CC r) 253 100 1000 xTr (lvlT (CC r) tTr mskH 1000 40) none (qv gTr) (fun _ => qF) qF s (TTr 10 i) [] emptyA = .ret (.tuple ⟨[I (3 + 10 % 25), I i, .bool false]⟩) ⟨0, .nil, .nil⟩ := by kernel_rfl

theorem tr_11 (r : Mem) (i : Int) (s : List (Nat × Value)) : run (CC r) 253 100 1000 xTr (lvlT (CC r) tTr mskH 1000 40) none (qv gTr) (fun _ => qF) qF s (TTr 11 i) [] emptyA = .ret (.tuple ⟨[I (3 + 11 % 25), I i, .bool false]⟩) ⟨0, .nil, .nil⟩ := by kernel_rfl

theorem tr_12 (r : Mem) (i : Int) (s : List (Nat × Value)) : run (CC r) 253 100 1000 xTr (lvlT (CC r) tTr mskH 1000 40) none (qv gTr) (fun _ => qF) qF s (TTr 12 i) [] emptyA = .ret (.tuple ⟨[I (3 + 12 % 25), I i, .bool false]⟩) ⟨0, .nil, .nil⟩ := by kernel_rfl

end Go.Proofs

/- The law of triples made: rounds of numbers that are known. -/
namespace Go.Proofs
open Go Go.Ev
set_option linter.unusedVariables false
set_option maxRecDepth 100000

theorem tr_13 (r : Mem) (i : Int) (s : List (Nat × Value)) : run (CC r) 253 100 1000 xTr (lvlT (CC r) tTr mskH 1000 40) none (qv gTr) (fun _ => qF) qF s (TTr 13 i) [] emptyA = .ret (.tuple ⟨[I (3 + 13 % 25), I i, .bool false]⟩) ⟨0, .nil, .nil⟩ := by kernel_rfl

theorem tr_14 (r : Mem) (i : Int) (s : List (Nat × Value)) : run (CC r) 253 100 1000 xTr (lvlT (CC r) tTr mskH 1000 40) none (qv gTr) (fun _ => qF) qF s (TTr 14 i) [] emptyA = .ret (.tuple ⟨[I (3 + 14 % 25), I i, .bool false]⟩) ⟨0, .nil, .nil⟩ := by kernel_rfl

theorem tr_16 (r : Mem) (i : Int) (s : List (Nat × Value)) : run (CC r) 253 100 1000 xTr (lvlT (CC r) tTr mskH 1000 40) none (qv gTr) (fun _ => qF) qF s (TTr 16 i) [] emptyA = .ret (.tuple ⟨[I (3 + 16 % 25), I i, .bool false]⟩) ⟨0, .nil, .nil⟩ := by kernel_rfl

theorem tr_17 (r : Mem) (i : Int) (s : List (Nat × Value)) : run (CC r) 253 100 1000 xTr (lvlT (CC r) tTr mskH 1000 40) none (qv gTr) (fun _ => qF) qF s (TTr 17 i) [] emptyA = .ret (.tuple ⟨[I (3 + 17 % 25), I i, .bool false]⟩) ⟨0, .nil, .nil⟩ := by kernel_rfl

theorem tr_18 (r : Mem) (i : Int) (s : List (Nat × Value)) : run (CC r) 253 100 1000 xTr (lvlT (CC r) tTr mskH 1000 40) none (qv gTr) (fun _ => qF) qF s (TTr 18 i) [] emptyA = .ret (.tuple ⟨[I (3 + 18 % 25), I i, .bool false]⟩) ⟨0, .nil, .nil⟩ := by kernel_rfl

theorem tr_20 (r : Mem) (i : Int) (s : List (Nat × Value)) : run (CC r) 253 100 1000 xTr (lvlT (CC r) tTr mskH 1000 40) none (qv gTr) (fun _ => qF) qF s (TTr 20 i) [] emptyA = .ret (.tuple ⟨[I (3 + 20 % 25), I i, .bool false]⟩) ⟨0, .nil, .nil⟩ := by kernel_rfl

theorem tr_22 (r : Mem) (i : Int) (s : List (Nat × Value)) : run (CC r) 253 100 1000 xTr (lvlT (CC r) tTr mskH 1000 40) none (qv gTr) (fun _ => qF) qF s (TTr 22 i) [] emptyA = .ret (.tuple ⟨[I (3 + 22 % 25), I i, .bool false]⟩) ⟨0, .nil, .nil⟩ := by kernel_rfl

theorem tr_23 (r : Mem) (i : Int) (s : List (Nat × Value)) : run (CC r) 253 100 1000 xTr (lvlT (CC r) tTr mskH 1000 40) none (qv gTr) (fun _ => qF) qF s (TTr 23 i) [] emptyA = .ret (.tuple ⟨[I (3 + 23 % 25), I i, .bool false]⟩) ⟨0, .nil, .nil⟩ := by kernel_rfl

theorem tr_24 (r : Mem) (i : Int) (s : List (Nat × Value)) : run (CC r) 253 100 1000 xTr (lvlT (CC r) tTr mskH 1000 40) none (qv gTr) (fun _ => qF) qF s (TTr 24 i) [] emptyA = .ret (.tuple ⟨[I (3 + 24 % 25), I i, .bool false]⟩) ⟨0, .nil, .nil⟩ := by kernel_rfl

theorem tr_26 (r : Mem) (i : Int) (s : List (Nat × Value)) : run (CC r) 253 100 1000 xTr (lvlT (CC r) tTr mskH 1000 40) none (qv gTr) (fun _ => qF) qF s (TTr 26 i) [] emptyA = .ret (.tuple ⟨[I (3 + 26 % 25), I i, .bool false]⟩) ⟨0, .nil, .nil⟩ := by kernel_rfl

end Go.Proofs

/- The law of triples made: rounds of numbers that are known. -/
namespace Go.Proofs
open Go Go.Ev
set_option linter.unusedVariables false
set_option maxRecDepth 100000

theorem tr_15 (r : Mem) (i : Int) (s : List (Nat × Value)) : run (CC r) 253 100 1000 xTr (lvlT (CC r) t15 mskH 1000 40) none (qv gTr) (fun _ => qF) qF s (TTr 15 i) [] emptyA = .ret (.tuple ⟨[I (3 + 15 % 25), I i, .bool false]⟩) ⟨0, .nil, .nil⟩ := by kernel_rfl

theorem tr_19 (r : Mem) (i : Int) (s : List (Nat × Value)) : run (CC r) 253 100 1000 xTr (lvlT (CC r) t19 mskH 1000 40) none (qv gTr) (fun _ => qF) qF s (TTr 19 i) [] emptyA = .ret (.tuple ⟨[I (3 + 19 % 25), I i, .bool false]⟩) ⟨0, .nil, .nil⟩ := by kernel_rfl

end Go.Proofs

/- The law of triples made: rounds of numbers that are known. -/
namespace Go.Proofs
open Go Go.Ev
set_option linter.unusedVariables false
set_option maxRecDepth 100000

theorem tr_21 (r : Mem) (i : Int) (s : List (Nat × Value)) : run (CC r) 253 100 1000 xTr (lvlT (CC r) t21 mskH 1000 40) none (qv gTr) (fun _ => qF) qF s (TTr 21 i) [] emptyA = .ret (.tuple ⟨[I (3 + 21 % 25), I i, .bool false]⟩) ⟨0, .nil, .nil⟩ := by kernel_rfl

end Go.Proofs

