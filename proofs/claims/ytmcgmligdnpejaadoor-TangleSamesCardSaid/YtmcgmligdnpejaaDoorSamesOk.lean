/- The law of same links: it answers true. -/
import Derived.Test.YtmcgmligdnpejaaDoorSamesA
import Derived.Test.YtmcgmligdnpejaaDoorAwake6
import Derived.Test.YtmcgmligdnpejaaDoorEvMemOf
namespace Go.Proofs
open Go Go.Ev Go.Num

theorem same_none {a b c d : Int} (h : (m_link a b && m_link c d) = false) : m_same a b c d = false ∧ m_sameE a b c d = 61 := by
  unfold m_link at h
  unfold m_same m_sameE
  simp only [h, Bool.false_and]
  exact ⟨trivial, rfl⟩
theorem same_some {a b c d : Int} (h : (m_link a b && m_link c d) = true) : m_sameE a b c d = 0 := by
  unfold m_link at h
  unfold m_sameE
  simp only [h, if_true]

theorem awakeE_ok (r : Mem) (hm : ∀ b j u, tabM b j = some u → r b j = some u) : EOk (SC r) 18 (e0 (.bool true)) := e0_ok (awake_ok.less hm)

theorem tSames_ok (r : Mem) (hm : ∀ b j u, tabM b j = some u → r b j = some u) : TOk (SC r) tSames :=
  TOk.cons (TOk.cons (TOk.cons (TOk.cons TOk.nil (awakeE_ok r hm)) (rSameE_ok r)) (rLinkE_ok r)) (sameE_ok r)

theorem sames_ok (r : Mem) (hm : ∀ b j u, tabM b j = some u → r b j = some u) (p q u v : Int) : GrT Tryd.prog r 6 [FV p q, FV u v] (.bool true) :=
  GrT.of (SC_ok r) (tSames_ok r hm) .nil rfl ⟨3, 1, by
    rw [lsA]
    have l : (61 : Int) ≠ Int.ofNat 0 := by decide
    have l' : (0 : Int) = Int.ofNat 0 := rfl
    have l2 : (61 : Int) = Int.ofNat 61 := rfl
    cases h1 : m_link p q with
    | false =>
      obtain ⟨a1, a2⟩ := same_none (a := p) (b := q) (c := u) (d := v) (by rw [h1]; rfl)
      obtain ⟨b1, b2⟩ := same_none (a := p) (b := q) (c := p) (d := v) (by rw [h1]; rfl)
      simp only [a1, a2, b1, b2, cond_false, neF l2]
      rfl
    | true =>
      cases h3 : m_link p v with
      | false =>
        obtain ⟨b1, b2⟩ := same_none (a := p) (b := q) (c := p) (d := v) (by rw [h3, h1]; rfl)
        cases h2 : m_link u v with
        | false =>
          obtain ⟨a1, a2⟩ := same_none (a := p) (b := q) (c := u) (d := v) (by rw [h2, h1]; rfl)
          simp only [a1, a2, b1, b2, cond_false, cond_true, neF l2]
          rfl
        | true =>
          have a2 := same_some (a := p) (b := q) (c := u) (d := v) (by rw [h2, h1]; rfl)
          cases h4 : m_same p q u v <;>
          · simp only [a2, b1, b2, cond_false, cond_true, neF l2, neF l', Bool.and_self]
            rfl
      | true =>
        have b2 := same_some (a := p) (b := q) (c := p) (d := v) (by rw [h3, h1]; rfl)
        cases h2 : m_link u v with
        | false =>
          obtain ⟨a1, a2⟩ := same_none (a := p) (b := q) (c := u) (d := v) (by rw [h2, h1]; rfl)
          cases h5 : m_same p q p v <;>
          · simp only [a1, a2, b2, cond_false, cond_true, neF l2, neF l', Bool.and_self]
            rfl
        | true =>
          have a2 := same_some (a := p) (b := q) (c := u) (d := v) (by rw [h2, h1]; rfl)
          cases h4 : m_same p q u v <;> cases h5 : m_same p q p v <;>
          · simp only [a2, b2, cond_false, cond_true, neF l', Bool.and_self]
            rfl⟩

/-- An argument of two integers. -/
theorem arg2 {u : Value} (h : ArgArr 2 (ArgInt .i64) u) : ∃ p q, u = FV p q := by
  obtain ⟨l, rfl, hl, hp⟩ := h
  match l, hl with
  | [x, y], _ =>
    obtain ⟨p, rfl, _⟩ := hp x (by simp)
    obtain ⟨q, rfl, _⟩ := hp y (by simp)
    exact ⟨p, q, rfl⟩

theorem law_sames (r : Mem) (hm : ∀ b j u, tabM b j = some u → r b j = some u) (u0 u1 : Value) (s0 : ArgArr 2 (ArgInt .i64) u0) (s1 : ArgArr 2 (ArgInt .i64) u1) : GrT Tryd.prog r 6 [u0, u1] (.bool true) := by
  obtain ⟨p, q, rfl⟩ := arg2 s0
  obtain ⟨u, v, rfl⟩ := arg2 s1
  exact sames_ok r hm p q u v

end Go.Proofs
