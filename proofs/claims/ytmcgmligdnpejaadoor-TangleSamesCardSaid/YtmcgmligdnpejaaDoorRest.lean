/- Rests, run. -/
import Derived.Test.YtmcgmligdnpejaaDoorRules
namespace Go.Proofs
open Go Go.Ev

theorem reA (r : Mem) (L : Nat) (a n : Int) : (lvlT (SC r) (fun _ => none) .nil L 1).call 76 [I a, I n] emptyA fin =
    bif !decide (n = 0) then bif !decide (n = 0) then CR.ret (Value.int IntKind.i64 (Int.tmod (IntKind.wrap IntKind.i64 (Int.tmod a n + n)) n)) (AW.mk 0 Tr.nil Tr.nil) else CR.fail 420 else CR.fail 420 := by kernel_rfl

theorem rest_ok (r : Mem) (a n : Int) (h : 0 < n) (h1 : n ≤ 1000000000000) : GrT Tryd.prog r 76 [I a, I n] (I (a % n)) :=
  GrT.of (SC_ok r) TOk.nil .nil rfl ⟨1, 1, by
    rw [reA]
    have e1 := Int.tmod_lt_of_pos a h
    have e2 : -n < a.tmod n := by
      have : (a.tmod n).natAbs < n.natAbs := by rw [Int.natAbs_tmod]; exact Nat.mod_lt _ (by omega)
      omega
    have e3 : IntKind.wrap IntKind.i64 (a.tmod n + n) = a.tmod n + n := wrI (by omega)
    have e4 : (a.tmod n + n).tmod n = a % n := by
      rw [Int.tmod_eq_emod_of_nonneg (by omega), Int.add_emod_right]
      have := Int.tmod_def a n
      rw [this, Int.sub_mul_emod_self_left]
    have h0 : ¬ n = 0 := by omega
    simp only [h0, decide_false, cond_true, Bool.not_false, e3, e4]
    rfl⟩

def m_restG (_a n : Int) : Bool := decide (0 < n) && decide (n ≤ 1000000000000)
def m_rest (a n : Int) : Int := a % n
theorem restE_ok (r : Mem) : EOk (SC r) 76 (eI2 m_restG fun a n => I (m_rest a n)) := eI2_ok fun a n h => by
  simp only [m_restG, Bool.and_eq_true, decide_eq_true_eq] at h
  exact rest_ok r a n h.1 h.2

end Go.Proofs
