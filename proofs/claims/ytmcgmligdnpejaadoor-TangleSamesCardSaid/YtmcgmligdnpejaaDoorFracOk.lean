/- Fractions: what the loops answer. -/
import Derived.Test.YtmcgmligdnpejaaDoorFracA
import Derived.Test.YtmcgmligdnpejaaDoorNum
import Derived.Test.YtmcgmligdnpejaaDoorRules
namespace Go.Proofs
open Go Go.Ev Go.Num

def masks : Tr Nat := ((((((Tr.nil.put 71 (some 31)).put 34 (some 19)).put 75 (some 1011)).put 29 (some 115)).put 65 (some 115)).put 45 (some 51))

def m_gcd (a b : Int) : Int := gcdP a b
def m_frac (p q : Int) : Bool := frac p q

theorem fr_loop (r : Mem) (fs : FnsC) (L : Nat) (kx : Nat → KS) (kr : KS) (ms : List Nat) (p q : Int) (R : CR) : ∀ (j : Nat) (d l : Int) (s : List (Nat × Value)), l.natAbs < j → (∀ s, kx 0 s (TF p q (euc d l) 0) ms (AF p q) = R) →
    cLoop (fun kl => run (SC r) 31 32 L (ic (ic (lc (rc (rc (rc cFr)))))) fs none kl kx kr) j s (TF p q d l) ms (AF p q) = R := by
  intro j
  induction j with
  | zero => intro d l s h; omega
  | succ j ih =>
    intro d l s h hx
    rw [cLoop_succ, frB]
    by_cases hl : l = 0
    · subst hl
      rw [euc, dif_pos rfl] at hx
      exact hx _
    · have h0 : (l != Int.ofNat 0) = true := by simp; exact hl
      have h1 : (l.natAbs ≠ 0) := by omega
      have h2 : (d.tmod l).natAbs < l.natAbs := by rw [Int.natAbs_tmod]; exact Nat.mod_lt _ (by omega)
      simp only [h0, hl, decide_false, cond_true, Bool.not_false]
      rw [euc, dif_neg hl] at hx
      exact ih l (d.tmod l) _ (by omega) hx

theorem cFr_eq : cFr = .seq (lc cFr) (.seq (lc (rc cFr)) (.seq (lc (rc (rc cFr))) (.seq (.block 0 (.loop (ic (ic (lc (rc (rc (rc cFr)))))))) (rc (rc (rc (rc cFr))))))) := by kernel_rfl

theorem frac_ok (r : Mem) (p q : Int) : GrT Tryd.prog r 71 [FV p q] (.bool (frac p q)) :=
  GrT.of (SC_ok r) TOk.nil masks rfl ⟨q.natAbs + 1, 1, by
    rw [enterN (m := 31) (n := 32) (rs := [.tmp 2]) cFr rfl (by kernel_rfl) (by kernel_rfl) (by kernel_rfl) (by kernel_rfl) (by kernel_rfl) rfl]
    generalize hk : finK (SC r) 31 [.tmp 2] fin = kr
    rw [cFr_eq, seqA, seqA, run_while]
    refine (frA r _ _ p q _ _ _ _).trans ?_
    by_cases hq : q = 0
    · subst hq
      by_cases hp : p = 1
      · subst hp
        subst hk
        rfl
      · have : (p == Int.ofNat 1) = false := by simp; exact hp
        have h2 : frac p 0 = false := by simp [frac, hp]
        rw [h2]
        simp only [this, cond_false]
        subst hk
        rfl
    · have h0 : (q == Int.ofNat 0) = false := by simp; exact hq
      simp only [h0, cond_false]
      refine (show _ = _ from fr_loop r _ _ _ _ _ p q _ (q.natAbs + 1) p q _ (by omega) fun s => ?_)
      refine (frC r _ _ p q _ _ _ _ _ _ _).trans ?_
      subst hk
      unfold frac
      rw [if_neg hq]
      by_cases c1 : q > 0
      · by_cases c2 : euc p q = 1
        · have c2' : (euc p q == Int.ofNat 1) = true := by simp [c2]
          simp only [c1, c2', decide_true, cond_true]
          simp only [c2, decide_true, Bool.true_or, Bool.and_true]
          rfl
        · have c2' : (euc p q == Int.ofNat 1) = false := by simp; exact c2
          by_cases c3 : euc p q = -1
          · have c3' : (euc p q == Int.negSucc 0) = true := by simp [c3]
            simp only [c1, c2', c3', decide_true, cond_true, cond_false]
            simp only [c3, decide_true, Bool.or_true, Bool.and_true]
            rfl
          · have c3' : (euc p q == Int.negSucc 0) = false := by simp; exact c3
            simp only [c1, c2', c3', decide_true, cond_true, cond_false]
            simp only [c2, c3, decide_false, Bool.or_false, Bool.and_false]
            rfl
      · simp only [c1, decide_false, cond_false, Bool.false_and]
        rfl⟩

end Go.Proofs
