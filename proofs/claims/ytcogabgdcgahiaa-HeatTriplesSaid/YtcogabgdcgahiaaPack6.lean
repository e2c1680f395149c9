/- What the claim is proved with, part 6: the evaluator and the contracts of the calls. -/
import Derived.Test.YtcogabgdcgahiaaPack2
import Derived.Test.YtcogabgdcgahiaaPack1
import Derived.Test.YtcogabgdcgahiaaPack3
import Derived.Test.YtcogabgdcgahiaaPack4
import Derived.Test.YtcogabgdcgahiaaPack5
/- The triples of 27 boats, not in order: the call, run. Entries of rows. -/
namespace Go.Proofs
open Go Go.Ev
set_option linter.unusedVariables false
set_option maxRecDepth 100000

/-- A call at one number alone, that answers with a new row of triples and no error. -/
def eTs (n len : Nat) (l : List Nat) : Ent := ⟨fun args _ => match args with | [.int .i64 (.ofNat m)] => Nat.beq m n | _ => false, fun _ _ => true, fun _ A => .tuple ⟨[.slice (some ⟨A.next, 0, none⟩) len 9223372036854775808, .int .i64 (.ofNat 0)]⟩, fun _ A => A.new (.cells (cI l) 62 A.next 3), fun _ _ => undef, fun _ A => A⟩
/-- The same, without the error. -/
def eTr (n len : Nat) (l : List Nat) : Ent := ⟨fun args _ => match args with | [.int .i64 (.ofNat m)] => Nat.beq m n | _ => false, fun _ _ => true, fun _ A => .slice (some ⟨A.next, 0, none⟩) len 9223372036854775808, fun _ A => A.new (.cells (cI l) 62 A.next 3), fun _ _ => undef, fun _ A => A⟩

theorem cI_gnds : ∀ l : List Nat, gnds (cI l) = true
  | [] => rfl
  | x :: l => by show (gnd (.int .i64 (.ofNat x)) && gnds (cI l)) = true; rw [cI_gnds l]; rfl

theorem eTs_ok {r : Mem} {f n len : Nat} {l : List Nat} (h : GrM Try.prog r f [.int .i64 (.ofNat n)] (.tuple ⟨[.slice (some ⟨0, 0, none⟩) len 9223372036854775808, .int .i64 (.ofNat 0)]⟩) (rowA (cI l) 62 3)) : EOk (SC r) f (eTs n len l) := fun args A hg F hF k γ W args' hw hR ha => by
  simp only [eTs] at hg
  split at hg
  · have := Nat.eq_of_beq_eq_true hg
    subst this
    refine ⟨fun _ => ?_, fun h => nomatch h⟩
    exact h.ends (γ := γ) (A := A) (by simp [ofV, of1, gnd]) (cI_gnds l) hF hw (hR.noG noG fun _ => rfl) (by have := ha.eq_of_gnds (by rfl); rw [this]; exact VsRel.of_gnds _ _ rfl) ha
  · cases hg
theorem eTr_ok {r : Mem} {f n len : Nat} {l : List Nat} (h : GrM Try.prog r f [.int .i64 (.ofNat n)] (.slice (some ⟨0, 0, none⟩) len 9223372036854775808) (rowA (cI l) 62 3)) : EOk (SC r) f (eTr n len l) := fun args A hg F hF k γ W args' hw hR ha => by
  simp only [eTr] at hg
  split at hg
  · have := Nat.eq_of_beq_eq_true hg
    subst this
    refine ⟨fun _ => ?_, fun h => nomatch h⟩
    exact h.ends (γ := γ) (A := A) (by simp [ofV, of1]) (cI_gnds l) hF hw (hR.noG noG fun _ => rfl) (by have := ha.eq_of_gnds (by rfl); rw [this]; exact VsRel.of_gnds _ _ rfl) ha
  · cases hg

def tr27 : List Nat := [0, 9, 18, 1, 10, 19, 0, 1, 14, 9, 10, 23, 5, 18, 19, 2, 11, 20, 0, 2, 10, 1, 2, 15, 9, 11, 19, 10, 11, 24, 1, 18, 20, 6, 19, 20, 3, 12, 21, 0, 3, 15, 1, 3, 11, 2, 3, 16, 9, 12, 24, 10, 12, 20, 11, 12, 25, 6, 18, 21, 2, 19, 21, 7, 20, 21, 4, 13, 22, 0, 4, 11, 1, 4, 16, 2, 4, 12, 3, 4, 17, 9, 13, 20, 10, 13, 25, 11, 13, 21, 12, 13, 26, 2, 18, 22, 7, 19, 22, 3, 20, 22, 8, 21, 22, 5, 14, 23, 0, 5, 16, 1, 5, 12, 2, 5, 17, 3, 5, 13, 4, 5, 9, 9, 14, 25, 10, 14, 21, 11, 14, 26, 12, 14, 22, 13, 14, 18, 7, 18, 23, 3, 19, 23, 8, 20, 23, 4, 21, 23, 0, 22, 23, 6, 15, 24, 0, 6, 12, 1, 6, 17, 2, 6, 13, 3, 6, 9, 4, 6, 14, 5, 6, 10, 9, 15, 21, 10, 15, 26, 11, 15, 22, 12, 15, 18, 13, 15, 23, 14, 15, 19, 3, 18, 24, 8, 19, 24, 4, 20, 24, 0, 21, 24, 5, 22, 24, 1, 23, 24, 7, 16, 25, 0, 7, 17, 1, 7, 13, 2, 7, 9, 3, 7, 14, 4, 7, 10, 5, 7, 15, 6, 7, 11, 9, 16, 26, 10, 16, 22, 11, 16, 18, 12, 16, 23, 13, 16, 19, 14, 16, 24, 15, 16, 20, 8, 18, 25, 4, 19, 25, 0, 20, 25, 5, 21, 25, 1, 22, 25, 6, 23, 25, 2, 24, 25, 8, 17, 26, 0, 8, 13, 1, 8, 9, 2, 8, 14, 3, 8, 10, 4, 8, 15, 5, 8, 11, 6, 8, 16, 7, 8, 12, 9, 17, 22, 10, 17, 18, 11, 17, 23, 12, 17, 19, 13, 17, 24, 14, 17, 20, 15, 17, 25, 16, 17, 21, 4, 18, 26, 0, 19, 26, 5, 20, 26, 1, 21, 26, 6, 22, 26, 2, 23, 26, 7, 24, 26, 3, 25, 26]
theorem triplesR_27 (r : Mem) : GrM Try.prog r 28 [.int .i64 (.ofNat 27)] (.slice (some ⟨0, 0, none⟩) 117 9223372036854775808) (rowA (cI tr27) 62 3) :=
  GrM.of (CC_ok r) (tTrC_ok r) mskH ⟨1000, 40, by kernel_rfl⟩
noncomputable def tT27 : Tbl := tcons 28 (eTr 27 117 tr27) tTr
theorem tT27_ok (r : Mem) : TOk (CC r) tT27 := (show TOk (SC r) tT27 from TOk.cons (tTr_ok r) (eTr_ok (triplesR_27 r)))

end Go.Proofs

/- A triple system: the call, run. -/
namespace Go.Proofs
open Go Go.Ev
set_option linter.unusedVariables false
set_option maxRecDepth 100000

def ts19 : List Nat := [0, 1, 9, 0, 2, 7, 0, 3, 10, 0, 4, 8, 0, 5, 11, 0, 6, 12, 0, 13, 17, 0, 14, 16, 0, 15, 18, 1, 2, 10, 1, 3, 8, 1, 4, 11, 1, 5, 6, 1, 7, 13, 1, 12, 14, 1, 15, 17, 1, 16, 18, 2, 3, 11, 2, 4, 6, 2, 5, 9, 2, 8, 14, 2, 12, 16, 2, 13, 15, 2, 17, 18, 3, 4, 9, 3, 5, 7, 3, 6, 18, 3, 12, 13, 3, 14, 17, 3, 15, 16, 4, 5, 10, 4, 7, 18, 4, 12, 15, 4, 13, 14, 4, 16, 17, 5, 8, 18, 5, 12, 17, 5, 13, 16, 5, 14, 15, 6, 7, 15, 6, 8, 13, 6, 9, 16, 6, 10, 14, 6, 11, 17, 7, 8, 16, 7, 9, 14, 7, 10, 17, 7, 11, 12, 8, 9, 17, 8, 10, 12, 8, 11, 15, 9, 10, 15, 9, 11, 13, 9, 12, 18, 10, 11, 16, 10, 13, 18, 11, 14, 18]
theorem triples_19 (r : Mem) : GrM Try.prog r 13 [.int .i64 (.ofNat 19)] (.tuple ⟨[.slice (some ⟨0, 0, none⟩) 57 9223372036854775808, .int .i64 (.ofNat 0)]⟩) (rowA (cI ts19) 62 3) :=
  GrM.of (CC_ok r) (tTrC_ok r) mskH ⟨1000, 40, by kernel_rfl⟩

end Go.Proofs

/- A triple system: the call, run. -/
namespace Go.Proofs
open Go Go.Ev
set_option linter.unusedVariables false
set_option maxRecDepth 100000

def ts21 : List Nat := [0, 1, 11, 0, 2, 8, 0, 3, 12, 0, 4, 9, 0, 5, 13, 0, 6, 10, 0, 7, 14, 0, 15, 20, 0, 16, 19, 0, 17, 18, 1, 2, 12, 1, 3, 9, 1, 4, 13, 1, 5, 10, 1, 6, 7, 1, 8, 15, 1, 14, 16, 1, 17, 20, 1, 18, 19, 2, 3, 13, 2, 4, 10, 2, 5, 7, 2, 6, 11, 2, 9, 16, 2, 14, 18, 2, 15, 17, 2, 19, 20, 3, 4, 7, 3, 5, 11, 3, 6, 8, 3, 10, 17, 3, 14, 20, 3, 15, 19, 3, 16, 18, 4, 5, 8, 4, 6, 12, 4, 11, 18, 4, 14, 15, 4, 16, 20, 4, 17, 19, 5, 6, 9, 5, 12, 19, 5, 14, 17, 5, 15, 16, 5, 18, 20, 6, 13, 20, 6, 14, 19, 6, 15, 18, 6, 16, 17, 7, 8, 18, 7, 9, 15, 7, 10, 19, 7, 11, 16, 7, 12, 20, 7, 13, 17, 8, 9, 19, 8, 10, 16, 8, 11, 20, 8, 12, 17, 8, 13, 14, 9, 10, 20, 9, 11, 17, 9, 12, 14, 9, 13, 18, 10, 11, 14, 10, 12, 18, 10, 13, 15, 11, 12, 15, 11, 13, 19, 12, 13, 16]
theorem triples_21 (r : Mem) : GrM Try.prog r 13 [.int .i64 (.ofNat 21)] (.tuple ⟨[.slice (some ⟨0, 0, none⟩) 70 9223372036854775808, .int .i64 (.ofNat 0)]⟩) (rowA (cI ts21) 62 3) :=
  GrM.of (CC_ok r) (tTrC_ok r) mskH ⟨1000, 40, by kernel_rfl⟩

end Go.Proofs

