/- Same links: what the calls answer. -/
import Derived.Test.YtmcgmligdnpejaaDoorSameA
namespace Go.Proofs
open Go Go.Ev Go.Num

theorem eqv_int (k : IntKind) (n : Int) : m_eqv (.int k n) (.int k n) = true := by simp [m_eqv, veq]
theorem eqv_agg2 (p q : Int) : m_eqv (.agg ⟨[I p, I q]⟩) (.agg ⟨[I p, I q]⟩) = true := by simp [m_eqv, veq, veqs]
theorem eqv_agg2' (p q : Int) : m_eqv (Value.agg (Array.mk [Value.int IntKind.i64 p, Value.int IntKind.i64 q])) (Value.agg (Array.mk [Value.int IntKind.i64 p, Value.int IntKind.i64 q])) = true := eqv_agg2 p q

theorem fracE_ok (r : Mem) : EOk (SC r) 71 (eA2 (fun _ _ => true) fun a b => .bool (m_frac a b)) := eA2_ok fun a b _ => frac_ok r a b

theorem isLink_ok (r : Mem) (p q : Int) : GrT Tryd.prog r 74 [FV p q] (.bool (m_link p q)) :=
  GrT.of (SC_ok r) (TOk.cons TOk.nil (fracE_ok r)) .nil rfl ⟨1, 1, by
    rw [ilA]
    unfold m_link link m_frac
    by_cases h1 : q < p
    · by_cases h2 : p ≤ 1000000
      · cases frac p q <;> simp [beqD, h1, h2] <;> rfl
      · simp [beqD, h1, h2]; rfl
    · simp [beqD, h1]; rfl⟩

theorem invE_ok (r : Mem) : EOk (SC r) 75 (eI2 m_invG fun a b => I (m_inv a b)) := eI2_ok fun a n h => by
  simp only [m_invG, Bool.and_eq_true, decide_eq_true_eq] at h
  exact inv_ok r a n h.1.1 h.1.2 h.2

theorem fst_ok (r : Mem) (p q : Int) (h : m_invG q p = true) : GrT Tryd.prog r 54 [FV p q] (FV p (m_fst p q)) :=
  GrT.of (SC_ok r) (TOk.cons TOk.nil (invE_ok r)) .nil rfl ⟨1, 1, by
    rw [fsA]
    unfold m_fst fst m_inv
    by_cases c : inv q p < q
    · have e : min q (inv q p) = inv q p := by omega
      simp only [h, cond_true, dT c, e]
      simp [m_eqv, veq]
      rfl
    · have e : min q (inv q p) = q := by omega
      simp only [h, cond_true, dF c, cond_false, e]
      simp [m_eqv, veq]
      rfl⟩

theorem linkE_ok (r : Mem) : EOk (SC r) 74 eLink := eA2_ok fun a b _ => isLink_ok r a b
theorem fstE_ok (r : Mem) : EOk (SC r) 54 eFst := eA2_ok fun a b h => fst_ok r a b h

def m_same (p q u v : Int) : Bool := link p q && link u v && decide (p = u) && decide (fst p q = fst u v)
def m_sameE (p q u v : Int) : Int := if link p q && link u v then 0 else 61

theorem linkG {p q : Int} (h : link p q = true) : m_invG q p = true := by
  rw [link_iff] at h
  simp [m_invG]
  omega

theorem same_ok (r : Mem) (p q u v : Int) : GrT Tryd.prog r 35 [I p, I q, I u, I v] (.tuple ⟨[.bool (m_same p q u v), I (m_sameE p q u v)]⟩) :=
  GrT.of (SC_ok r) (show TOk (SC r) tSame from TOk.cons (TOk.cons TOk.nil (fstE_ok r)) (linkE_ok r)) .nil rfl ⟨8, 4, by
    rw [saA]
    simp only [eqv_int, eqv_agg2', cond_true]
    unfold m_same m_sameE m_link m_fst
    cases h1 : link p q with
    | false => simp; rfl
    | true =>
      cases h2 : link u v with
      | false => simp; rfl
      | true =>
        simp only [linkG h1, linkG h2, cond_true, Bool.true_and, if_true, Bool.and_true]
        by_cases c1 : p = u
        · subst c1
          by_cases c2 : fst p q = fst p v
          · simp [beqD, c2]; rfl
          · simp [beqD, c2]; rfl
        · simp [beqD, c1]; rfl⟩

theorem gcdE_ok (r : Mem) : EOk (SC r) 34 (eI2 (fun a b => decide (0 ≤ a) && decide (0 ≤ b)) fun a b => I (m_gcd a b)) := eI2_ok fun a b _ => gcd_ok r a b

theorem rLink_ok (r : Mem) (p q : Int) : GrT Tryd.prog r 28 [I p, I q] (.bool (m_link p q)) :=
  GrT.of (SC_ok r) (TOk.cons TOk.nil (gcdE_ok r)) .nil rfl ⟨1, 1, by
    rw [rlA]
    unfold m_link
    rw [← linkR_eq]
    unfold linkR m_gcd
    by_cases h1 : p ≥ 1
    · by_cases h2 : p ≤ 1000000
      · by_cases h3 : q ≥ 0
        · by_cases h4 : q < p
          · have h5 : 0 ≤ p := by omega
            have h6 : 0 ≤ q := by omega
            by_cases h7 : gcdP p q = 1
            · simp [beqD, h1, h2, h3, h4, h5, h7]; rfl
            · simp [beqD, h1, h2, h3, h4, h5, h7]; rfl
          · simp [beqD, h1, h2, h3, h4]; rfl
        · simp [beqD, h1, h2, h3]; rfl
      · simp [beqD, h1, h2]; rfl
    · simp [beqD, h1]; rfl⟩

theorem rSame_ok (r : Mem) (p q u v : Int) (h1 : link p q = true) (h2 : link u v = true) : GrT Tryd.prog r 36 [I p, I q, I u, I v] (.bool (m_same p q u v)) :=
  GrT.of (SC_ok r) TOk.nil .nil rfl ⟨1, 1, by
    rw [rsA]
    unfold m_same
    rw [h1, h2]
    have l1 := (link_iff p q).1 h1
    have l2 := (link_iff u v).1 h2
    by_cases c : p = u
    · subst c
      have e := fst_same (p := p) (q := q) (s := v) (by omega) (by omega) (by rw [Int.gcd_comm]; exact l1.2.2.2.2) (by omega) (by omega) (by rw [Int.gcd_comm]; exact l2.2.2.2.2)
      have m0 : 0 ≤ q * v := Int.mul_nonneg (by omega) (by omega)
      have m1 : q * v ≤ 1000000 * 1000000 := Int.mul_le_mul (by omega) (by omega) (by omega) (by omega)
      have w : IntKind.wrap IntKind.i64 (q * v) = q * v := wrI (by omega)
      have hp : p ≠ 0 := by omega
      by_cases c1 : p = 1
      · have : fst p q = fst p v := e.2 (.inl c1)
        simp only [eqT c1, eqT (show p = Int.ofNat 1 from c1), beqD, decide_true, cond_true, this, Bool.and_self]; rfl
      · by_cases c2 : q = v
        · subst c2
          simp [beqD, c1]; rfl
        · by_cases c3 : (q * v).tmod p = 1
          · have : fst p q = fst p v := e.2 (.inr (.inr c3))
            simp [beqD, c1, c2, hp, w, c3, this]; rfl
          · have : ¬ fst p q = fst p v := fun h => by
              rcases e.1 h with h | h | h
              · exact c1 h
              · exact c2 h
              · exact c3 h
            simp [beqD, c1, c2, hp, w, c3, this]; rfl
    · simp [beqD, c]; rfl⟩

theorem sameE_ok (r : Mem) : EOk (SC r) 35 (eI4 (fun _ _ _ _ => true) fun a b c d => .tuple ⟨[.bool (m_same a b c d), I (m_sameE a b c d)]⟩) := eI4_ok fun a b c d _ => same_ok r a b c d
theorem rLinkE_ok (r : Mem) : EOk (SC r) 28 (eI2 (fun _ _ => true) fun a b => .bool (m_link a b)) := eI2_ok fun a b _ => rLink_ok r a b
theorem rSameE_ok (r : Mem) : EOk (SC r) 36 (eI4 (fun a b c d => m_link a b && m_link c d) fun a b c d => .bool (m_same a b c d)) := eI4_ok fun a b c d h => by
  simp only [Bool.and_eq_true] at h
  exact rSame_ok r a b c d h.1 h.2

end Go.Proofs
