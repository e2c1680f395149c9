/- What the claim is proved with, part 2: the evaluator and the contracts of the calls. -/
import Derived.Test.YtmcgmligdnpejaaDoorPack1
/- The law of Schubert's links: it answers true. -/
namespace Go.Proofs
open Go Go.Ev Go.Num

theorem restE_ok' (r : Mem) : EOk (SC r) 76 (eI2 m_restG fun a n => I (m_rest a n)) := restE_ok r

theorem first24_ok (r : Mem) (p q : Int) (h : m_link p q = true) : GrT Tryd.prog r 24 [I p, I q] (.tuple ⟨[I p, I (m_fst p q), I 0]⟩) :=
  GrT.of (SC_ok r) (show TOk (SC r) tFm from TOk.cons (TOk.cons (TOk.cons TOk.nil (restE_ok r)) (fstE_ok r)) (linkE_ok r)) .nil rfl ⟨8, 4, by
    rw [f1A]
    simp only [eqv_int, h, linkG h, cond_true]
    rfl⟩

theorem mir_ok (r : Mem) (p q : Int) (h : m_link p q = true) : GrT Tryd.prog r 25 [I p, I q] (.tuple ⟨[.bool (m_mir p q), I 0]⟩) :=
  GrT.of (SC_ok r) (show TOk (SC r) tFm from TOk.cons (TOk.cons (TOk.cons TOk.nil (restE_ok r)) (fstE_ok r)) (linkE_ok r)) .nil rfl ⟨8, 4, by
    rw [miA]
    have hl := (link_iff p q).1 h
    have w : IntKind.wrap IntKind.i64 (Int.ofNat 0 - q) = -q := by rw [wrI (by simp; omega)]; simp
    have g1 : m_restG (-q) p = true := by simp [m_restG]; omega
    have n0 := Int.emod_nonneg (-q) (show p ≠ 0 by omega)
    have n1 := Int.emod_lt_of_pos (-q) (show 0 < p by omega)
    have g2 : m_invG (m_rest (-q) p) p = true := by
      have : m_rest (-q) p = -q % p := rfl
      rw [this]
      simp [m_invG]
      omega
    simp only [eqv_int, eqv_agg2', h, linkG h, cond_true, w, g1, g2]
    unfold m_mir m_fst m_rest
    by_cases c : fst p q = fst p (-q % p)
    · simp only [c, beq_self_eq_true, Bool.and_self, cond_true, decide_true]
      rfl
    · simp only [beqD, c, decide_false, Bool.false_and, Bool.and_false, cond_false]
      rfl⟩

theorem cross_ok (r : Mem) (p q : Int) (h : m_link p q = true) : GrT Tryd.prog r 27 [I p, I q] (.tuple ⟨[I (m_cs p q), I 0]⟩) := by
  have hl := (link_iff p q).1 h
  refine GrT.of (SC_ok r) (show TOk (SC r) (tCr p q) from TOk.cons (TOk.cons TOk.nil (entAt_run (SC_ok r) TOk.nil _ (te_run r p q (by omega) (by omega) (by omega) (by omega)))) (linkE_ok r)) mskCr rfl ⟨8, 4, ?_⟩
  rw [crA]
  simp only [eqv_int, h, cond_true, at_rfl]
  rfl

theorem gnds_of {l : List Value} (h : ∀ v ∈ l, gnd v = true) : gnds l = true := by
  induction l with
  | nil => rfl
  | cons v l ih =>
    simp only [gnds, Bool.and_eq_true]
    exact ⟨h v (List.mem_cons_self ..), ih fun x hx => h x (List.mem_cons_of_mem _ hx)⟩

theorem terms_row (r : Mem) (p q : Int) (h : m_link p q = true) (hq : 0 < q) : GrM Tryd.prog r 26 [I p, I q] (.tuple ⟨[.slice (some ⟨0, 0, none⟩) (m_tmN p q) unk, I 0]⟩) (rowA (m_tm p q) 2 1) := by
  have hl := (link_iff p q).1 h
  refine GrM.of (SC_ok r) (show TOk (SC r) (tTm p q) from TOk.cons (TOk.cons TOk.nil (entAt_ok fun F hF k γ W args' hw hR ha => tm_calls (by omega) hq (by omega) (by omega) F hF k γ W args' hw hR ha)) (linkE_ok r)) mskTm ⟨8, 6, ?_⟩
  rw [tmD]
  have hg : gnds (m_tm p q) = true := gnds_of (row_gnd _)
  simp only [eqv_int, h, cond_true, at_rfl, hg]
  rfl

theorem terms_one : GrT Tryd.prog (fun _ _ => none) 26 [I 1, I 0] (.tuple ⟨[.slice none 0 0, I 0]⟩) := GrT.closed evMixed evNames .nil 1000 40 (by kernel_rfl)
theorem fromT_nil : GrT Tryd.prog (fun _ _ => none) 37 [.slice none 0 0] (.tuple ⟨[I 1, I 0, I 0]⟩) := GrT.closed evMixed evNames .nil 1000 40 (by kernel_rfl)

theorem termsE_ok (r : Mem) : EOk (SC r) 26 eTerms := fun args A hg F hF k γ W args' hw hR ha => by
  simp only [eTerms] at hg
  split at hg
  · rename_i p q
    refine ⟨fun hc => ?_, fun hc => ?_⟩
    · have hq : 0 < q := by simpa [eTerms, m_pos] using hc
      exact (terms_row r p q hg hq).ends (γ := γ) (A := A) rfl (gnds_of (row_gnd _)) hF hw (hR.noG noG fun _ => rfl) (by have := ha.eq_of_gnds (by rfl); rw [this]; exact VsRel.of_gnds _ _ rfl) ha
    · have hq : ¬ 0 < q := by simpa [eTerms, m_pos] using hc
      have hl := (link_iff p q).1 hg
      have hq0 : q = 0 := by omega
      subst hq0
      have hp : p = 1 := by
        have := hl.2.2.2.2
        simp at this
        omega
      subst hp
      exact ((terms_one.any r).ro (C := SC r) rfl A).ends hF hw hR ha
  · cases hg

theorem fromTE_ok (r : Mem) : EOk (SC r) 37 eFromT := EOk.ent fun args A hg => by
  split at hg
  · exact (fromT_nil.any r).ro (C := SC r) rfl A
  · rename_i i k len cap
    split at hg
    · rename_i c e f z hget
      simp only [Bool.and_eq_true, Bool.not_eq_true'] at hg
      obtain ⟨h1, h2⟩ := @of_decide_eq_true _ (Classical.propDecidable _) hg.1
      refine POk.of rfl fun γ W args' hw hR ha => ?_
      cases ha' : args'.toList with
      | nil => rw [ha'] at ha; cases ha
      | cons v' rest =>
        rw [ha'] at ha
        cases ha with
        | cons hv hrest =>
          cases hrest
          obtain ⟨b, k', c', rfl, hrd⟩ := rd_world hw hR hv hg.2
          refine ⟨memW W, [RS b k' len 0], memW_ro W, .cons (.sliceRo _ _ _ _ _ _ (by decide) (Nat.zero_le _)) .nil, ?_⟩
          have hm : ∀ j, j < len → memW W b (k' + j) = some (I (zAt c (k + j))) := fun j hj => by
            obtain ⟨z, hz⟩ := h2 j hj
            have e1 : zAt c (k + j) = z := by unfold zAt; rw [hz]
            rw [e1]
            refine hrd j _ ?_ rfl
            simp only [AW.rd, AW.cell, hget]
            exact hz
          exact fromTerms_ok (memW W) b k' len 0 (fun j => zAt c (k + j)) hm h1
    · cases hg
  · cases hg

theorem tSch_ok (r : Mem) (hm : ∀ b j u, tabM b j = some u → r b j = some u) : TOk (SC r) tSch :=
  TOk.cons (TOk.cons (TOk.cons (TOk.cons (TOk.cons (TOk.cons (TOk.cons (TOk.cons TOk.nil (gcdE_ok r)) (awakeE_ok r hm)) (eI2_ok fun a b h => mir_ok r a b h)) (fromTE_ok r)) (termsE_ok r)) (eI2_ok fun a b h => cross_ok r a b h)) (sameE_ok r)) (eI2_ok fun a b h => first24_ok r a b h)

theorem sc_loop (r : Mem) (tm : Tr Nat) (L : Nat) (kx : Nat → KS) (kr : KS) (p : Int) (hp : 1 ≤ p) (hp2 : p ≤ 5000) (R : CR) : ∀ (j : Nat) (q : Int) (s : List (Nat × Value)), 0 ≤ q → q < p → (p - q).toNat < j →
    (∀ s q', link p q' = true → kx 0 s (TSc p q') [] emptyA = R) →
    cLoop (fun kl => run (SC r) 67108851 205 L (ic (ic (lc (rc (rc (rc cSc)))))) (lvlT (SC r) tSch tm L 0) none kl kx kr) j s (TSc p q) [] emptyA = R := by
  intro j
  induction j with
  | zero => intro q s h0 h1 h; omega
  | succ j ih =>
    intro q s h0 h1 h hx
    rw [cLoop_succ, scB]
    have g : (decide (0 ≤ p) && decide (0 ≤ q)) = true := by simp; omega
    have e : m_gcd p q = Int.gcd p q := gcdP_gcd p q (by omega) h0
    have hp0 : ¬ p = 0 := by omega
    simp only [g, cond_true, e, dF hp0, Bool.not_false]
    by_cases c : (Int.gcd p q : Int) = 1
    · simp only [neF (show (Int.gcd p q : Int) = Int.ofNat 1 from c), cond_false]
      exact hx _ q ((link_iff p q).2 ⟨hp, by omega, h0, h1, by omega⟩)
    · simp only [neT (show (Int.gcd p q : Int) ≠ Int.ofNat 1 from c), cond_true]
      have hq : q + 1 < p := by
        by_cases c2 : q + 1 < p
        · exact c2
        · exfalso
          have : q = p - 1 := by omega
          rw [this] at c
          apply c
          rw [Int.gcd_self_sub_right]
          simp
      have w : IntKind.wrap IntKind.i64 (q + Int.ofNat 1) = q + 1 := wrI (by simp; omega)
      have w2 : (q + 1).tmod p = q + 1 := by rw [Int.tmod_eq_emod_of_nonneg (by omega), Int.emod_eq_of_lt (by omega) hq]
      rw [w, w2]
      exact ih (q + 1) _ (by omega) hq (by omega) hx

theorem sc_post (r : Mem) (tm : Tr Nat) (L : Nat) (p q : Int) (s : List (Nat × Value)) (h : link p q = true) (hp2 : p ≤ 5000) :
    run (SC r) 67108851 205 L (rc (rc (rc (rc cSc)))) (lvlT (SC r) tSch tm L 0) none (finK (SC r) 67108851 [.tmp 4] fin) kx242 (finK (SC r) 67108851 [.tmp 4] fin) s (TSc p q) [] emptyA = .ret (.bool true) emptyA := by
  rw [scC]
  have hl := (link_iff p q).1 h
  have f1 : m_link p q = true := h
  have f3 : m_link p (m_fst p q) = true := link_fst h
  have f2 : m_same p q p (m_fst p q) = true := by
    unfold m_same m_fst
    rw [h, link_fst h, fst_fst h]
    simp
  have f2e : m_sameE p q p (m_fst p q) = Int.ofNat 0 := same_some (by rw [f1, f3]; rfl)
  have f5 : ¬ m_fst p q > q := by unfold m_fst fst; omega
  have f6 : m_cs p (m_fst p q) = m_cs p q := csum_fst h
  have ne0 : ∀ x : Int, (x != x) = false := fun x => by simp
  have hp0 : ¬ p = 0 := by omega
  have w1 : IntKind.wrap IntKind.i64 (p - Int.ofNat 1) = p - 1 := wrI (by simp; omega)
  have hqq : 0 ≤ q * q := Int.mul_nonneg hl.2.2.1 hl.2.2.1
  have hqq2 : q * q ≤ 5000 * 5000 := Int.mul_le_mul (by omega) (by omega) hl.2.2.1 (by omega)
  have w2 : IntKind.wrap IntKind.i64 (q * q) = q * q := wrI (by omega)
  have w3 : IntKind.wrap IntKind.i64 (p - q) = p - q := wrI (by omega)
  simp only [f1, f2, f3, f2e, f6, ne0, dF f5, cond_true, cond_false, w1, w2, w3, dF hp0, Bool.not_false, beq_self_eq_true]
  by_cases hp1 : p = 1
  · subst hp1
    have hq : q = 0 := by omega
    subst hq
    have e1 : m_pos 0 = false := rfl
    have e2 : m_mir 1 0 = true := by unfold m_mir; simp
    simp only [e1, e2, cond_true, cond_false]
    rfl
  · obtain ⟨m1, m2⟩ := link_mirror h (by omega)
    have f8 : m_link p (p - q) = true := m1
    obtain ⟨t1, t2, t3, t4⟩ := ft_terms h m2
    have hpos : m_pos q = true := dT m2
    have hmir : m_mir p q = decide (fst p q = fst p (p - q)) := by unfold m_mir; rw [neg_rest m2 hl.2.2.2.1]
    simp only [hpos, t1, t2, t3, t4, cond_true, Bool.and_self, f8, eqF (show p ≠ Int.ofNat 1 from hp1), cond_false, neF (show (0 : Int) = Int.ofNat 0 from rfl), ne0]
    by_cases hp3 : p ≤ 2
    · have hpe : p = 2 := by omega
      subst hpe
      have hqe : q = 1 := by omega
      subst hqe
      have : m_mir 2 1 = true := by rw [hmir]; simp
      simp only [this, cond_true]
      simp
      rfl
    · have f9 : m_cs p (p - q) = m_cs p q := csum_mirror m2 hl.2.2.2.1 hl.2.2.2.2 (by omega)
      have f7 := mirror_iff h (by omega)
      simp only [dF hp3, cond_false, f9, beq_self_eq_true, cond_true]
      by_cases c : fst p q = fst p (p - q)
      · have c1 : m_mir p q = true := by rw [hmir]; exact dT c
        have c2 : m_fst p (p - q) = m_fst p q := c.symm
        simp only [c1, cond_true, eqT (f7.1 c), c2, beq_self_eq_true]
        rfl
      · have c1 : m_mir p q = false := by rw [hmir]; exact dF c
        have c2 : m_fst p (p - q) ≠ m_fst p q := fun e => c e.symm
        simp only [c1, cond_true, cond_false, eqF (fun e => c (f7.2 e)), eqF c2]
        rfl

theorem cSc_eq : cSc = .seq (lc cSc) (.seq (lc (rc cSc)) (.seq (lc (rc (rc cSc))) (.seq (.block 0 (.loop (ic (ic (lc (rc (rc (rc cSc)))))))) (rc (rc (rc (rc cSc))))))) := by kernel_rfl
def mskSc : Tr Nat := Tr.nil.put 11 (some 67108851)

theorem u64_nonneg (q : Int) : 0 ≤ IntKind.wrap IntKind.u64 q := by simp [IntKind.wrap, IntKind.bits, IntKind.signed]; omega
theorem u64_in {q : Int} (h : 0 ≤ q) (h2 : q ≤ 9223372036854775807) : IntKind.wrap IntKind.u64 q = q := IntWalk.u64_in q (by omega)

theorem schubert_ok (r : Mem) (hm : ∀ b j u, tabM b j = some u → r b j = some u) (p q : Int) : GrT Tryd.prog r 11 [I p, I q] (.bool true) :=
  GrT.of (SC_ok r) (tSch_ok r hm) mskSc rfl ⟨5001, 1, by
    rw [enterN (m := 67108851) (n := 205) (rs := [.tmp 4]) cSc rfl (by kernel_rfl) (by kernel_rfl) (by kernel_rfl) (by kernel_rfl) (by kernel_rfl) rfl]
    rw [cSc_eq, seqA, seqA, run_while]
    refine (scA r _ _ p q _ _ _).trans ?_
    have a0 := Int.tmod_nonneg (Int.ofNat 5000) (u64_nonneg p)
    have a1 : Int.tmod (IntKind.wrap IntKind.u64 p) (Int.ofNat 5000) < 5000 := Int.tmod_lt_of_pos (IntKind.wrap IntKind.u64 p) (show (0:Int) < Int.ofNat 5000 by decide)
    generalize Int.tmod (IntKind.wrap IntKind.u64 p) (Int.ofNat 5000) = X at *
    have w1 : IntKind.wrap IntKind.i64 X = X := wrI (by omega)
    have w2 : IntKind.wrap IntKind.i64 (Int.ofNat 1 + X) = 1 + X := wrI (z := 1 + X) (by omega)
    rw [w1, w2]
    have hP1 : 1 ≤ 1 + X := by omega
    have hP2 : 1 + X ≤ 5000 := by omega
    generalize 1 + X = P at *
    have w3 : IntKind.wrap IntKind.u64 P = P := u64_in (by omega) (by omega)
    rw [w3]
    have b0 := Int.tmod_nonneg P (u64_nonneg q)
    have b1 := Int.tmod_lt_of_pos (IntKind.wrap IntKind.u64 q) (show 0 < P by omega)
    have w4 : IntKind.wrap IntKind.i64 (Int.tmod (IntKind.wrap IntKind.u64 q) P) = Int.tmod (IntKind.wrap IntKind.u64 q) P := wrI (by omega)
    rw [w4]
    have hP0 : ¬ P = 0 := by omega
    simp only [dF hP0, Bool.not_false, cond_true]
    refine (show _ = _ from sc_loop r _ _ _ _ P hP1 hP2 _ 5001 _ _ b0 b1 (by omega) fun s q' hq' => ?_)
    exact sc_post r _ _ P q' s hq' hP2⟩

theorem law_schubert (r : Mem) (hm : ∀ b j u, tabM b j = some u → r b j = some u) (u0 u1 : Value) (s0 : ArgInt .i64 u0) (s1 : ArgInt .i64 u1) : GrT Tryd.prog r 11 [u0, u1] (.bool true) := by
  obtain ⟨p, rfl, _⟩ := s0
  obtain ⟨q, rfl, _⟩ := s1
  exact schubert_ok r hm p q

end Go.Proofs

/- The reference's terms and crossings, run. -/
namespace Go.Proofs
open Go Go.Ev Go.Num

noncomputable def cRm : Code := bodyOf S0 32
def TRm (p q : Int) (v : Value) : Tr Value := .node (.node .nil (some (I q)) (.node .nil (some v) .nil)) (some (I p)) (.node (.node .nil (some (.slice none 0 0)) .nil) none .nil)
abbrev ARm (l : List Value) : AW := .mk 1 (.node .nil (some (.cells l 2 0 1)) .nil) .nil

def TRm0 (p q : Int) : Tr Value := .node (.node .nil (some (I q)) .nil) (some (I p)) (.node (.node .nil (some (.slice none 0 0)) .nil) none .nil)

theorem rmA (r : Mem) (L : Nat) (fs : FnsC) (p q : Int) (kn : KS) (kx : Nat → KS) (kr : KS) : run (SC r) 51 19 L (lc cRm) fs none kn kx kr (sc0 51 [I p, I q]) (tr0 51 [I p, I q]) [] emptyA =
    kn [] (Tr.node (Tr.node Tr.nil (some (Value.int IntKind.i64 q)) Tr.nil) (some (Value.int IntKind.i64 p)) (Tr.node (Tr.node Tr.nil (some (Value.slice none 0 0)) Tr.nil) none Tr.nil)) [] (AW.mk 0 Tr.nil Tr.nil) := by kernel_rfl

theorem rmA2 (r : Mem) (L : Nat) (fs : FnsC) (p q : Int) (s : List (Nat × Value)) (kn : KS) (kx : Nat → KS) (kr : KS) : run (SC r) 51 19 L (lc (rc cRm)) fs none kn kx kr s (TRm0 p q) [] emptyA =
    kn [] (Tr.node (Tr.node Tr.nil (some (Value.int IntKind.i64 q)) (Tr.node Tr.nil (some (Value.slice none 0 0)) Tr.nil)) (some (Value.int IntKind.i64 p)) (Tr.node (Tr.node Tr.nil (some (Value.slice none 0 0)) Tr.nil) none Tr.nil)) [] (AW.mk 0 Tr.nil Tr.nil) := by kernel_rfl

theorem rmB (r : Mem) (L : Nat) (fs : FnsC) (p q : Int) (s : List (Nat × Value)) (kn : KS) (kx : Nat → KS) (kr : KS) : run (SC r) 51 19 L (ic (ic (lc (rc (rc cRm))))) fs none kn kx kr s (TRm p q (.slice none 0 0)) [] emptyA =
    bif decide (q > 0) then bif !decide (q = 0) then bif !decide (q = 0) then kn [(17, Value.int IntKind.i64 (Int.tmod p q)), (16, Value.int IntKind.i64 q), (15, Value.int IntKind.i64 p), (14, Value.int IntKind.i64 q)] (Tr.node (Tr.node Tr.nil (some (Value.int IntKind.i64 (Int.tmod p q))) (Tr.node Tr.nil (some (Value.slice (some (Addr.mk 1 0 none)) 1 9223372036854775808)) Tr.nil)) (some (Value.int IntKind.i64 q)) (Tr.node (Tr.node Tr.nil (some (Value.slice none 0 0)) Tr.nil) none Tr.nil)) [] (AW.mk 2 (Tr.node (Tr.node Tr.nil (some (AObj.cells [Value.int IntKind.i64 (IntKind.wrap IntKind.i64 (Int.tdiv p q))] 2 1 1)) Tr.nil) (some (AObj.cells [Value.int IntKind.i64 (IntKind.wrap IntKind.i64 (Int.tdiv p q))] 2 0 1)) Tr.nil) Tr.nil) else CR.fail 420 else CR.fail 420 else kx 0 [(7, Value.bool false), (6, Value.int IntKind.i64 q)] (Tr.node (Tr.node Tr.nil (some (Value.int IntKind.i64 q)) (Tr.node Tr.nil (some (Value.slice none 0 0)) Tr.nil)) (some (Value.int IntKind.i64 p)) (Tr.node (Tr.node Tr.nil (some (Value.slice none 0 0)) Tr.nil) none Tr.nil)) [] (AW.mk 0 Tr.nil Tr.nil) := by kernel_rfl

theorem rmC (r : Mem) (L : Nat) (fs : FnsC) (p q : Int) (l : List Value) (n : Nat) (s : List (Nat × Value)) (kn : KS) (kx : Nat → KS) (kr : KS) : run (SC r) 51 19 L (ic (ic (lc (rc (rc cRm))))) fs none kn kx kr s (TRm p q (.slice (some ⟨0, 0, none⟩) n unk)) [] (ARm l) =
    bif decide (q > 0) then bif !decide (q = 0) then bif Nat.ble (Nat.add n 1) 1000000 then Option.casesOn (takeAt l 0 (Nat.mul n 1)) (CR.fail 439) fun val => bif !decide (q = 0) then kn [(17, Value.int IntKind.i64 (Int.tmod p q)), (16, Value.int IntKind.i64 q), (15, Value.int IntKind.i64 p), (14, Value.int IntKind.i64 q)] (Tr.node (Tr.node Tr.nil (some (Value.int IntKind.i64 (Int.tmod p q))) (Tr.node Tr.nil (some (Value.slice (some (Addr.mk 2 0 none)) (Nat.add n 1) 9223372036854775808)) Tr.nil)) (some (Value.int IntKind.i64 q)) (Tr.node (Tr.node Tr.nil (some (Value.slice none 0 0)) Tr.nil) none Tr.nil)) [] (AW.mk 3 (Tr.node (Tr.node Tr.nil (some (AObj.cells [Value.int IntKind.i64 (IntKind.wrap IntKind.i64 (Int.tdiv p q))] 2 1 1)) Tr.nil) none (Tr.node Tr.nil (some (AObj.cells (val ++ [Value.int IntKind.i64 (IntKind.wrap IntKind.i64 (Int.tdiv p q))]) 2 0 1)) Tr.nil)) (Tr.node Tr.nil (some [2]) Tr.nil)) else CR.fail 420 else CR.fail 420 else CR.fail 420 else kx 0 [(7, Value.bool false), (6, Value.int IntKind.i64 q)] (Tr.node (Tr.node Tr.nil (some (Value.int IntKind.i64 q)) (Tr.node Tr.nil (some (Value.slice (some (Addr.mk 0 0 none)) n 9223372036854775808)) Tr.nil)) (some (Value.int IntKind.i64 p)) (Tr.node (Tr.node Tr.nil (some (Value.slice none 0 0)) Tr.nil) none Tr.nil)) [] (AW.mk 1 (Tr.node Tr.nil (some (AObj.cells l 2 0 1)) Tr.nil) Tr.nil) := by kernel_rfl

theorem rmD (r : Mem) (L : Nat) (fs : FnsC) (p q : Int) (A : AW) (s : List (Nat × Value)) (kn : KS) (kx : Nat → KS) (kr : KS) : run (SC r) 51 19 L (rc (rc (rc cRm))) fs none kn kx kr s (TRm p q (.slice none 0 0)) [] A =
    kr [(18, Value.slice none 0 0)] (Tr.node (Tr.node Tr.nil (some (Value.int IntKind.i64 q)) (Tr.node Tr.nil (some (Value.slice none 0 0)) Tr.nil)) (some (Value.int IntKind.i64 p)) (Tr.node (Tr.node Tr.nil (some (Value.slice none 0 0)) Tr.nil) none Tr.nil)) [] A := by kernel_rfl

theorem rmE (r : Mem) (L : Nat) (fs : FnsC) (p q : Int) (n : Nat) (A : AW) (s : List (Nat × Value)) (kn : KS) (kx : Nat → KS) (kr : KS) : run (SC r) 51 19 L (rc (rc (rc cRm))) fs none kn kx kr s (TRm p q (.slice (some ⟨0, 0, none⟩) n unk)) [] A =
    kr [(18, Value.slice (some (Addr.mk 0 0 none)) n 9223372036854775808)] (Tr.node (Tr.node Tr.nil (some (Value.int IntKind.i64 q)) (Tr.node Tr.nil (some (Value.slice (some (Addr.mk 0 0 none)) n 9223372036854775808)) Tr.nil)) (some (Value.int IntKind.i64 p)) (Tr.node (Tr.node Tr.nil (some (Value.slice (some (Addr.mk 0 0 none)) n 9223372036854775808)) Tr.nil) none Tr.nil)) [] A := by kernel_rfl

end Go.Proofs

/- The reference's terms: the row that grows. -/
namespace Go.Proofs
open Go Go.Ev Go.Num

section
variable {r : Mem} {W0 : World} {p q : Int}

inductive RmSt (p q : Int) : Nat → St → Prop
  | first : RmSt p q q.toNat ⟨⟨[], TRm p q (.slice none 0 0)⟩, [], emptyA⟩
  | more {a b : Int} {ts : List Int} (ha : 0 ≤ a) (hb : 0 ≤ b) (ha2 : a ≤ 1000000) (hb2 : b ≤ 1000000) (hts : ts ++ terms a b = terms p q) : RmSt p q b.toNat ⟨⟨[], TRm a b (.slice (some ⟨0, 0, none⟩) ts.length unk)⟩, [], ARm (m_row ts)⟩

def RmQ (p q : Int) : Exit → St → Prop
  | .exit id, st => id = 0 ∧ ∃ st1, Ren (SC r) 51 19 noG W0 st st1 ∧ ∃ a b, st1 = ⟨⟨[], TRm a b (.slice (some ⟨0, 0, none⟩) (terms p q).length unk)⟩, [], ARm (m_row (terms p q))⟩
  | _, _ => False

theorem rm_body (hp : 0 ≤ p) (hq : 0 < q) (hp2 : p ≤ 1000000) (hq2 : q < 1000000) {F : Fence} {k : Nat} (hF : Wide F) (hro : F.round = none) {j : Nat} {st : St} (hs : RmSt p q j st) :
    Go.Ev.Reach (SC r) 51 19 F k noG W0 (ic (ic (lc (rc (rc cRm))))) st fun ex st' => match ex with
      | .normal => ∃ j', j' < j ∧ ∃ st1, Ren (SC r) 51 19 noG W0 st' st1 ∧ RmSt p q j' st1
      | ex => RmQ (r := r) (W0 := W0) p q ex st' := by
  cases hs with
  | first =>
    refine Go.Ev.Reach.seg (SC_ok r) TOk.nil (tm := .nil) (L := 1) (L' := 1) (d := 1) hF hro ?_
    rw [rmB]
    obtain ⟨e0, e1, e2, e3, e4, e5⟩ := tdm hp hq
    have hne : q ≠ 0 := by omega
    have w1 : IntKind.wrap IntKind.i64 (p.tdiv q) = p.tdiv q := wrI (by omega)
    simp only [dT hq, dF hne, Bool.not_false, cond_true, w1]
    refine qn_ok ⟨(p.tmod q).toNat, by omega, _, ?_, .more (a := q) (b := p.tmod q) (ts := [p.tdiv q]) (by omega) e1 (by omega) (by omega) (by rw [terms.eq_1 p q, dif_pos hq]; rfl)⟩
    refine Ren.of (fun i => bif Nat.beq i 0 then 1 else i) 0 rfl (fun _ _ => rfl) (Nat.zero_le _) (fun i hi => absurd hi (Nat.not_lt_zero i)) ?_ rfl ?_ trivial
    · simp only [Tr.All, TRm]
      repeat' (first | exact trivial | apply And.intro)
      all_goals exact ⟨_, rfl, rfl⟩
    · simp only [Tr.All, ARm]
      repeat' (first | exact trivial | apply And.intro)
      all_goals first | rfl | exact .head _ | exact ⟨_, rfl, .plain (by exact row_gnd _)⟩
  | more ha hb ha2 hb2 hts =>
    rename_i a b ts
    refine Go.Ev.Reach.seg (SC_ok r) TOk.nil (tm := .nil) (L := 1) (L' := 1) (d := 1) hF hro ?_
    rw [rmC]
    by_cases c : b > 0
    · obtain ⟨e0, e1, e2, e3, e4, e5⟩ := tdm ha c
      have hne : b ≠ 0 := by omega
      have hlen := terms_len p q hp (by omega)
      rw [← hts, terms, dif_pos c] at hlen
      simp only [List.length_append, List.length_cons] at hlen
      have w1 : IntKind.wrap IntKind.i64 (a.tdiv b) = a.tdiv b := wrI (by omega)
      have g1 : Nat.ble (Nat.add ts.length 1) 1000000 = true := Nat.ble_eq_true_of_le (by simp only [Nat.add_eq]; omega)
      have g2 : takeAt (m_row ts) 0 (Nat.mul ts.length 1) = some (m_row ts) := takeAt_full _ _ (by rw [row_len]; simp)
      have st : RmSt p q (a.tmod b).toNat ⟨⟨[], TRm b (a.tmod b) (.slice (some ⟨0, 0, none⟩) (ts.length + 1) unk)⟩, [], ARm (m_row ts ++ [I (a.tdiv b)])⟩ := by
        have := RmSt.more (p := p) (q := q) (a := b) (b := a.tmod b) (ts := ts ++ [a.tdiv b]) (by omega) e1 hb2 (by omega) (by rw [← hts, terms.eq_1 a b, dif_pos c]; simp)
        simpa [m_row] using this
      have hgr : ∀ v ∈ m_row ts ++ [I (a.tdiv b)], gnd v = true := fun v hv => by
        rcases List.mem_append.1 hv with h | h
        · exact row_gnd ts v h
        · simp only [List.mem_singleton] at h; subst h; rfl
      simp only [dT c, dF hne, Bool.not_false, cond_true, w1, g1, g2]
      refine qn_ok ⟨(a.tmod b).toNat, by omega, _, ?_, st⟩
      refine Ren.of (fun i => bif Nat.beq i 0 then 2 else i) 0 rfl (fun _ _ => rfl) (Nat.zero_le _) (fun i hi => absurd hi (Nat.not_lt_zero i)) ?_ rfl ?_ trivial
      · simp only [Tr.All, TRm]
        repeat' (first | exact trivial | apply And.intro)
        all_goals exact ⟨_, rfl, rfl⟩
      · simp only [Tr.All, ARm]
        repeat' (first | exact trivial | apply And.intro)
        all_goals first | rfl | exact .head _ | exact ⟨_, rfl, .plain (by exact hgr)⟩
    · simp only [dF c, cond_false]
      have e : terms p q = ts := by
        rw [← hts, terms, dif_neg c]
        simp
      refine qn_ok ⟨rfl, _, ?_, a, b, rfl⟩
      rw [e]
      refine Ren.of (fun i => i) 0 rfl (fun _ _ => rfl) (Nat.zero_le _) (fun i hi => absurd hi (Nat.not_lt_zero i)) ?_ rfl ?_ trivial
      · simp only [Tr.All, TRm]
        repeat' (first | exact trivial | apply And.intro)
        all_goals exact ⟨_, rfl, rfl⟩
      · simp only [Tr.All, ARm]
        repeat' (first | exact trivial | apply And.intro)
        all_goals first | rfl | exact .head _ | exact ⟨_, rfl, .plain (by exact row_gnd ts)⟩

end

theorem cRm_eq : cRm = .seq (lc cRm) (.seq (lc (rc cRm)) (.seq (.block 0 (.loop (ic (ic (lc (rc (rc cRm))))))) (rc (rc (rc cRm))))) := by kernel_rfl

theorem rTerms_row (r : Mem) (p q : Int) (hp : 0 ≤ p) (hq : 0 < q) (hp2 : p ≤ 1000000) (hq2 : q < 1000000) : GrM Tryd.prog r 32 [I p, I q] (.slice (some ⟨0, 0, none⟩) (m_tmN p q) unk) (rowA (m_tm p q) 2 1) := fun F hF k W args' hR ha => by
  obtain ⟨fn, h1, h2, h3, h4⟩ := fn_of (C := SC r) (f := 32) (by kernel_rfl)
  have hn : fn.ntmps = 19 := h3.trans (by kernel_rfl)
  have hr : fn.results.toList = [.tmp 4] := h4.trans (by kernel_rfl)
  rw [bodySC] at h2
  refine call_reach (C := SC r) (SC_ok r) (A := emptyA) h1 h2 51 (by rw [hn]; rfl) (fun F k hF hro => ?_) (WRel.empty W) hR ha hF k
  rw [hn, hr]
  show Go.Ev.Reach (SC r) 51 19 F k noG W cRm _ _
  rw [cRm_eq]
  refine Go.Ev.Reach.seq (Go.Ev.Reach.seg (SC_ok r) TOk.nil (tm := .nil) (L := 1) (L' := 1) (d := 1) hF hro ((rmA r _ _ p q _ _ _).trans (qn_ok ?_)))
  refine Go.Ev.Reach.seq (Go.Ev.Reach.seg (SC_ok r) TOk.nil (tm := .nil) (L := 1) (L' := 1) (d := 1) hF hro ((rmA2 r _ _ p q _ _ _ _).trans (qn_ok ?_)))
  refine Go.Ev.Reach.seq (Go.Ev.Reach.block (Go.Ev.Reach.loop (I := fun j st => ∃ st1, Ren (SC r) 51 19 noG W st st1 ∧ RmSt p q j st1) (fun j st ⟨st1, hr, hs⟩ => Go.Ev.Reach.pre hr (Go.Ev.Reach.mono (rm_body hp hq hp2 hq2 hF hro hs) fun ex st' h => ?_)) ⟨_, Ren.refl _, .first⟩))
  cases ex with
  | normal => exact h
  | exit id =>
    obtain ⟨rfl, st2, hr2, a, b, rfl⟩ := h
    refine Go.Ev.Reach.pre hr2 ?_
    refine Go.Ev.Reach.seg (SC_ok r) TOk.nil (tm := .nil) (L := 1) (L' := 1) (d := 1) hF hro ((rmE r _ _ a b _ _ _ _ _ _).trans (qn_ok ⟨.inr rfl, _, Ren.refl _, ?_⟩))
    rfl
  | _ => exact h.elim

theorem rTerms_one : GrT Tryd.prog (fun _ _ => none) 32 [I 1, I 0] (.slice none 0 0) := GrT.closed evMixed evNames .nil 1000 40 (by kernel_rfl)

end Go.Proofs

/- The reference's crossings, rows compared, run. -/
namespace Go.Proofs
open Go Go.Ev Go.Num

def eRTerms : Ent := ⟨fun args _ => match args with | [.int .i64 p, .int .i64 q] => m_link p q | _ => false, fun args _ => match args with | [.int .i64 _, .int .i64 q] => m_pos q | _ => false,
  fun args A => match args with | [.int .i64 p, .int .i64 q] => .slice (some ⟨A.next, 0, none⟩) (m_tmN p q) unk | _ => undef, fun args A => match args with | [.int .i64 p, .int .i64 q] => A.new (.cells (m_tm p q) 2 A.next 1) | _ => A,
  fun _ _ => .slice none 0 0, fun _ A => A⟩
def tRc : Tbl := tcons 32 eRTerms fun _ => none
noncomputable def cRc : Code := bodyOf S0 33

theorem rcA1 (r : Mem) (L : Nat) (tm : Tr Nat) (p q : Int) (kn : KS) (kx : Nat → KS) (kr : KS) : run (SC r) 243 24 L (.seq (.seq (.seq (lc cRc) (lc (rc cRc))) (lc (rc (rc cRc)))) (lc (lc (rc (rc (rc cRc)))))) (lvlT (SC r) tRc tm L 0) none kn kx kr (sc0 243 [I p, I q]) (tr0 243 [I p, I q]) [] emptyA =
    bif m_link p q then bif m_pos q then kn [] (Tr.node (Tr.node (Tr.node (Tr.node Tr.nil (some (Value.int IntKind.i64 (Int.ofNat 0))) Tr.nil) none Tr.nil) (some (Value.int IntKind.i64 q)) (Tr.node Tr.nil (some (Value.slice (some (Addr.mk 0 0 none)) (m_tmN p q) 9223372036854775808)) Tr.nil)) (some (Value.int IntKind.i64 p)) (Tr.node (Tr.node Tr.nil (some (Value.int IntKind.i64 (Int.ofNat 0))) Tr.nil) none (Tr.node Tr.nil (some (Value.int IntKind.i64 (Int.ofNat 0))) Tr.nil))) [] (AW.mk 1 (Tr.node Tr.nil (some (AObj.cells (m_tm p q) 2 0 1)) Tr.nil) Tr.nil) else kn [] (Tr.node (Tr.node (Tr.node (Tr.node Tr.nil (some (Value.int IntKind.i64 (Int.ofNat 0))) Tr.nil) none Tr.nil) (some (Value.int IntKind.i64 q)) (Tr.node Tr.nil (some (Value.slice none 0 0)) Tr.nil)) (some (Value.int IntKind.i64 p)) (Tr.node (Tr.node Tr.nil (some (Value.int IntKind.i64 (Int.ofNat 0))) Tr.nil) none (Tr.node Tr.nil (some (Value.int IntKind.i64 (Int.ofNat 0))) Tr.nil))) [] (AW.mk 0 Tr.nil Tr.nil) else CR.fail 420 := by kernel_rfl

noncomputable def cLn : Code := bodyOf S0 31

theorem lnA (r : Mem) (L : Nat) (fs : FnsC) (b off len cap b' off' len' cap' : Nat) (kn : KS) (kx : Nat → KS) (kr : KS) : run (SC r) 51 26 L (.seq (.seq (lc cLn) (lc (rc cLn))) (lc (lc (rc (rc cLn))))) fs none kn kx kr (sc0 51 [RS b off len cap, RS b' off' len' cap']) (tr0 51 [RS b off len cap, RS b' off' len' cap']) [] emptyA =
    bif Int.ofNat len != Int.ofNat len' then kr [] (Tr.node (Tr.node Tr.nil (some (Value.slice (some (Addr.mk b' off' (some 0))) len' cap')) Tr.nil) (some (Value.slice (some (Addr.mk b off (some 0))) len cap)) (Tr.node (Tr.node Tr.nil (some (Value.bool false)) Tr.nil) none Tr.nil)) [] (AW.mk 0 Tr.nil Tr.nil) else kn [] (Tr.node (Tr.node Tr.nil (some (Value.slice (some (Addr.mk b' off' (some 0))) len' cap')) (Tr.node Tr.nil (some (Value.int IntKind.i64 (Int.ofNat 0))) Tr.nil)) (some (Value.slice (some (Addr.mk b off (some 0))) len cap)) (Tr.node (Tr.node Tr.nil (some (Value.bool false)) Tr.nil) none Tr.nil)) [] (AW.mk 0 Tr.nil Tr.nil) := by kernel_rfl

def TRc (p q : Int) (n : Nat) (z i : Int) : Tr Value := .node (.node (.node (.node .nil (some (I i)) .nil) none .nil) (some (I q)) (.node .nil (some (.slice (some ⟨0, 0, none⟩) n unk)) .nil)) (some (I p)) (.node (.node .nil (some (I 0)) .nil) none (.node .nil (some (I z)) .nil))
def TLn (v v' : Value) (i : Int) : Tr Value := .node (.node .nil (some v') (.node .nil (some (I i)) .nil)) (some v) (.node (.node .nil (some (.bool false)) .nil) none .nil)

theorem rcB1 (r : Mem) (L : Nat) (fs : FnsC) (p q z i : Int) (n : Nat) (l : List Value) (s : List (Nat × Value)) (kn : KS) (kx : Nat → KS) (kr : KS) : run (SC r) 243 24 L (ic (ic (rc (lc (rc (rc (rc cRc))))))) fs none kn kx kr s (TRc p q n z i) [] (ARm l) =
    bif decide (i < Int.ofNat n) then bif decide (0 ≤ i) then bif Nat.blt (Int.toNat i) n then Option.casesOn l[Nat.add 0 (Nat.mul (Int.toNat i) 1)]? (CR.fail 423) fun val => bif isI IntKind.i64 val then kn [(16, Value.int IntKind.i64 (IntKind.wrap IntKind.i64 (i + Int.ofNat 1))), (15, Value.int IntKind.i64 i)] (Tr.node (Tr.node (Tr.node (Tr.node Tr.nil (some (Value.int IntKind.i64 (IntKind.wrap IntKind.i64 (i + Int.ofNat 1)))) Tr.nil) none Tr.nil) (some (Value.int IntKind.i64 q)) (Tr.node Tr.nil (some (Value.slice (some (Addr.mk 0 0 none)) n 9223372036854775808)) Tr.nil)) (some (Value.int IntKind.i64 p)) (Tr.node (Tr.node Tr.nil (some (Value.int IntKind.i64 (Int.ofNat 0))) Tr.nil) none (Tr.node Tr.nil (some (Value.int IntKind.i64 (IntKind.wrap IntKind.i64 (z + ofI val)))) Tr.nil))) [] (AW.mk 1 (Tr.node Tr.nil (some (AObj.cells l 2 0 1)) Tr.nil) Tr.nil) else CR.fail 420 else CR.fail 420 else CR.fail 420 else kx 0 [(14, Value.bool false), (13, Value.int IntKind.i64 (Int.ofNat n)), (12, Value.slice (some (Addr.mk 0 0 none)) n 9223372036854775808), (11, Value.int IntKind.i64 i)] (Tr.node (Tr.node (Tr.node (Tr.node Tr.nil (some (Value.int IntKind.i64 i)) Tr.nil) none Tr.nil) (some (Value.int IntKind.i64 q)) (Tr.node Tr.nil (some (Value.slice (some (Addr.mk 0 0 none)) n 9223372036854775808)) Tr.nil)) (some (Value.int IntKind.i64 p)) (Tr.node (Tr.node Tr.nil (some (Value.int IntKind.i64 (Int.ofNat 0))) Tr.nil) none (Tr.node Tr.nil (some (Value.int IntKind.i64 z)) Tr.nil))) [] (AW.mk 1 (Tr.node Tr.nil (some (AObj.cells l 2 0 1)) Tr.nil) Tr.nil) := by kernel_rfl

theorem rcC1 (r : Mem) (L : Nat) (fs : FnsC) (p q z i : Int) (n : Nat) (l : List Value) (s : List (Nat × Value)) (kn : KS) (kx : Nat → KS) (kr : KS) : run (SC r) 243 24 L (rc (rc (rc (rc cRc)))) fs none kn kx kr s (TRc p q n z i) [] (ARm l) =
    kr [(23, Value.int IntKind.i64 z)] (Tr.node (Tr.node (Tr.node (Tr.node Tr.nil (some (Value.int IntKind.i64 i)) Tr.nil) none Tr.nil) (some (Value.int IntKind.i64 q)) (Tr.node Tr.nil (some (Value.slice (some (Addr.mk 0 0 none)) n 9223372036854775808)) Tr.nil)) (some (Value.int IntKind.i64 p)) (Tr.node (Tr.node Tr.nil (some (Value.int IntKind.i64 z)) Tr.nil) none (Tr.node Tr.nil (some (Value.int IntKind.i64 z)) Tr.nil))) [] (AW.mk 1 (Tr.node Tr.nil (some (AObj.cells l 2 0 1)) Tr.nil) Tr.nil) := by kernel_rfl

theorem lnB (r : Mem) (L : Nat) (fs : FnsC) (b off len cap b' off' len' cap' : Nat) (i : Int) (s : List (Nat × Value)) (kn : KS) (kx : Nat → KS) (kr : KS) : run (SC r) 51 26 L (ic (ic (rc (lc (rc (rc cLn)))))) fs none kn kx kr s (TLn (RS b off len cap) (RS b' off' len' cap') i) [] emptyA =
    bif decide (i < Int.ofNat len) then bif decide (0 ≤ i) then bif Nat.blt (Int.toNat i) len then Option.casesOn (r b (Nat.add off (Nat.mul (Int.toNat i) 1))) (CR.fail 423) fun val => bif isI IntKind.i64 val then bif decide (0 ≤ i) then bif Nat.blt (Int.toNat i) len' then Option.casesOn (r b' (Nat.add off' (Nat.mul (Int.toNat i) 1))) (CR.fail 423) fun val_1 => bif isI IntKind.i64 val_1 then bif ofI val != ofI val_1 then kr [] (Tr.node (Tr.node Tr.nil (some (Value.slice (some (Addr.mk b' off' (some 0))) len' cap')) (Tr.node Tr.nil (some (Value.int IntKind.i64 i)) Tr.nil)) (some (Value.slice (some (Addr.mk b off (some 0))) len cap)) (Tr.node (Tr.node Tr.nil (some (Value.bool false)) Tr.nil) none Tr.nil)) [] (AW.mk 0 Tr.nil Tr.nil) else kn [(16, Value.int IntKind.i64 (IntKind.wrap IntKind.i64 (i + Int.ofNat 1))), (15, Value.int IntKind.i64 i)] (Tr.node (Tr.node Tr.nil (some (Value.slice (some (Addr.mk b' off' (some 0))) len' cap')) (Tr.node Tr.nil (some (Value.int IntKind.i64 (IntKind.wrap IntKind.i64 (i + Int.ofNat 1)))) Tr.nil)) (some (Value.slice (some (Addr.mk b off (some 0))) len cap)) (Tr.node (Tr.node Tr.nil (some (Value.bool false)) Tr.nil) none Tr.nil)) [] (AW.mk 0 Tr.nil Tr.nil) else CR.fail 420 else CR.fail 420 else CR.fail 420 else CR.fail 420 else CR.fail 420 else CR.fail 420 else kx 0 [(14, Value.bool false), (13, Value.int IntKind.i64 (Int.ofNat len)), (12, Value.slice (some (Addr.mk b off (some 0))) len cap), (11, Value.int IntKind.i64 i)] (Tr.node (Tr.node Tr.nil (some (Value.slice (some (Addr.mk b' off' (some 0))) len' cap')) (Tr.node Tr.nil (some (Value.int IntKind.i64 i)) Tr.nil)) (some (Value.slice (some (Addr.mk b off (some 0))) len cap)) (Tr.node (Tr.node Tr.nil (some (Value.bool false)) Tr.nil) none Tr.nil)) [] (AW.mk 0 Tr.nil Tr.nil) := by kernel_rfl

theorem lnC (r : Mem) (L : Nat) (fs : FnsC) (b off len cap b' off' len' cap' : Nat) (i : Int) (s : List (Nat × Value)) (kn : KS) (kx : Nat → KS) (kr : KS) : run (SC r) 51 26 L (rc (rc (rc cLn))) fs none kn kx kr s (TLn (RS b off len cap) (RS b' off' len' cap') i) [] emptyA =
    kr [] (Tr.node (Tr.node Tr.nil (some (Value.slice (some (Addr.mk b' off' (some 0))) len' cap')) (Tr.node Tr.nil (some (Value.int IntKind.i64 i)) Tr.nil)) (some (Value.slice (some (Addr.mk b off (some 0))) len cap)) (Tr.node (Tr.node Tr.nil (some (Value.bool true)) Tr.nil) none Tr.nil)) [] (AW.mk 0 Tr.nil Tr.nil) := by kernel_rfl

end Go.Proofs

/- R.FromTerms, run. -/
namespace Go.Proofs
open Go Go.Ev

noncomputable def cRt : Code := bodyOf S0 38
def TRt (v : Value) (i p q : Int) : Tr Value := (((((((tr0 253 [v]).put 2 (some (I 0))).put 3 (some (I 0))).put 4 (some (.bool false))).put 5 (some (I p))).put 6 (some (I q))).put 7 (some (I i)))

theorem g38a (r : Mem) (L : Nat) (fs : FnsC) (b off len cap : Nat) (A : AW) (kn : KS) (kx : Nat → KS) (kr : KS) (ms : List Nat) : run (SC r) 253 54 L (lc cRt) fs none (run (SC r) 253 54 L (lc (rc cRt)) fs none (run (SC r) 253 54 L (lc (lc (rc (rc cRt)))) fs none kn kx kr) kx kr) kx kr (sc0 253 [RS b off len cap]) (tr0 253 [RS b off len cap]) ms A =
    kn [(10, Value.int IntKind.i64 (IntKind.wrap IntKind.i64 (Int.ofNat len - Int.ofNat 1))), (9, Value.int IntKind.i64 (Int.ofNat len)), (8, Value.slice (some (Addr.mk b off (some 0))) len cap)] (Tr.node (Tr.node (Tr.node (Tr.node Tr.nil (some (Value.int IntKind.i64 (IntKind.wrap IntKind.i64 (Int.ofNat len - Int.ofNat 1)))) Tr.nil) (some (Value.int IntKind.i64 (Int.ofNat 0))) Tr.nil) none (Tr.node Tr.nil (some (Value.int IntKind.i64 (Int.ofNat 1))) Tr.nil)) (some (Value.slice (some (Addr.mk b off (some 0))) len cap)) (Tr.node (Tr.node Tr.nil (some (Value.bool false)) Tr.nil) (some (Value.int IntKind.i64 (Int.ofNat 0))) (Tr.node Tr.nil (some (Value.int IntKind.i64 (Int.ofNat 0))) Tr.nil))) ms A := by kernel_rfl

theorem g38b (r : Mem) (L : Nat) (fs : FnsC) (b off len cap : Nat) (i p q : Int) (A : AW) (s : List (Nat × Value)) (kn : KS) (kx : Nat → KS) (kr : KS) (ms : List Nat) : run (SC r) 253 54 L (ic (ic (rc (lc (rc (rc cRt)))))) fs none kn kx kr s (TRt (RS b off len cap) i p q) ms A =
    bif decide (i ≥ 0) then bif decide (0 ≤ i) then bif Nat.blt (Int.toNat i) len then Option.casesOn (r b (Nat.add off (Nat.mul (Int.toNat i) 1))) (CR.fail 423) fun val => bif isI IntKind.i64 val then bif decide (ofI val < 1) then kr [] (Tr.node (Tr.node (Tr.node (Tr.node Tr.nil (some (Value.int IntKind.i64 i)) Tr.nil) (some (Value.int IntKind.i64 (Int.ofNat 0))) Tr.nil) none (Tr.node Tr.nil (some (Value.int IntKind.i64 p)) Tr.nil)) (some (Value.slice (some (Addr.mk b off (some 0))) len cap)) (Tr.node (Tr.node Tr.nil (some (Value.bool false)) Tr.nil) (some (Value.int IntKind.i64 (Int.ofNat 0))) (Tr.node Tr.nil (some (Value.int IntKind.i64 q)) Tr.nil))) ms A else bif decide (0 ≤ i) then bif Nat.blt (Int.toNat i) len then Option.casesOn (r b (Nat.add off (Nat.mul (Int.toNat i) 1))) (CR.fail 423) fun val => bif isI IntKind.i64 val then bif decide (ofI val > 1000000) then kr [] (Tr.node (Tr.node (Tr.node (Tr.node Tr.nil (some (Value.int IntKind.i64 i)) Tr.nil) (some (Value.int IntKind.i64 (Int.ofNat 0))) Tr.nil) none (Tr.node Tr.nil (some (Value.int IntKind.i64 p)) Tr.nil)) (some (Value.slice (some (Addr.mk b off (some 0))) len cap)) (Tr.node (Tr.node Tr.nil (some (Value.bool false)) Tr.nil) (some (Value.int IntKind.i64 (Int.ofNat 0))) (Tr.node Tr.nil (some (Value.int IntKind.i64 q)) Tr.nil))) ms A else bif i == IntKind.wrap IntKind.i64 (Int.ofNat len - Int.ofNat 1) then bif decide (0 ≤ i) then bif Nat.blt (Int.toNat i) len then Option.casesOn (r b (Nat.add off (Nat.mul (Int.toNat i) 1))) (CR.fail 423) fun val => bif isI IntKind.i64 val then bif ofI val == Int.ofNat 1 then kr [] (Tr.node (Tr.node (Tr.node (Tr.node Tr.nil (some (Value.int IntKind.i64 i)) Tr.nil) (some (Value.int IntKind.i64 (Int.ofNat 0))) Tr.nil) none (Tr.node Tr.nil (some (Value.int IntKind.i64 p)) Tr.nil)) (some (Value.slice (some (Addr.mk b off (some 0))) len cap)) (Tr.node (Tr.node Tr.nil (some (Value.bool false)) Tr.nil) (some (Value.int IntKind.i64 (Int.ofNat 0))) (Tr.node Tr.nil (some (Value.int IntKind.i64 q)) Tr.nil))) ms A else bif decide (0 ≤ i) then bif Nat.blt (Int.toNat i) len then Option.casesOn (r b (Nat.add off (Nat.mul (Int.toNat i) 1))) (CR.fail 423) fun val => bif isI IntKind.i64 val then bif decide (IntKind.wrap IntKind.i64 (IntKind.wrap IntKind.i64 (ofI val * p) + q) > 1000000) then kr [] (Tr.node (Tr.node (Tr.node (Tr.node Tr.nil (some (Value.int IntKind.i64 i)) Tr.nil) (some (Value.int IntKind.i64 (Int.ofNat 0))) Tr.nil) none (Tr.node Tr.nil (some (Value.int IntKind.i64 (IntKind.wrap IntKind.i64 (IntKind.wrap IntKind.i64 (ofI val * p) + q)))) Tr.nil)) (some (Value.slice (some (Addr.mk b off (some 0))) len cap)) (Tr.node (Tr.node Tr.nil (some (Value.bool false)) Tr.nil) (some (Value.int IntKind.i64 (Int.ofNat 0))) (Tr.node Tr.nil (some (Value.int IntKind.i64 p)) Tr.nil))) ms A else kn [(14, Value.int IntKind.i64 (IntKind.wrap IntKind.i64 (i - Int.ofNat 1))), (13, Value.int IntKind.i64 i)] (Tr.node (Tr.node (Tr.node (Tr.node Tr.nil (some (Value.int IntKind.i64 (IntKind.wrap IntKind.i64 (i - Int.ofNat 1)))) Tr.nil) (some (Value.int IntKind.i64 (Int.ofNat 0))) Tr.nil) none (Tr.node Tr.nil (some (Value.int IntKind.i64 (IntKind.wrap IntKind.i64 (IntKind.wrap IntKind.i64 (ofI val * p) + q)))) Tr.nil)) (some (Value.slice (some (Addr.mk b off (some 0))) len cap)) (Tr.node (Tr.node Tr.nil (some (Value.bool false)) Tr.nil) (some (Value.int IntKind.i64 (Int.ofNat 0))) (Tr.node Tr.nil (some (Value.int IntKind.i64 p)) Tr.nil))) ms A else CR.fail 420 else CR.fail 420 else CR.fail 420 else CR.fail 420 else CR.fail 420 else CR.fail 420 else bif decide (0 ≤ i) then bif Nat.blt (Int.toNat i) len then Option.casesOn (r b (Nat.add off (Nat.mul (Int.toNat i) 1))) (CR.fail 423) fun val => bif isI IntKind.i64 val then bif decide (IntKind.wrap IntKind.i64 (IntKind.wrap IntKind.i64 (ofI val * p) + q) > 1000000) then kr [] (Tr.node (Tr.node (Tr.node (Tr.node Tr.nil (some (Value.int IntKind.i64 i)) Tr.nil) (some (Value.int IntKind.i64 (Int.ofNat 0))) Tr.nil) none (Tr.node Tr.nil (some (Value.int IntKind.i64 (IntKind.wrap IntKind.i64 (IntKind.wrap IntKind.i64 (ofI val * p) + q)))) Tr.nil)) (some (Value.slice (some (Addr.mk b off (some 0))) len cap)) (Tr.node (Tr.node Tr.nil (some (Value.bool false)) Tr.nil) (some (Value.int IntKind.i64 (Int.ofNat 0))) (Tr.node Tr.nil (some (Value.int IntKind.i64 p)) Tr.nil))) ms A else kn [(14, Value.int IntKind.i64 (IntKind.wrap IntKind.i64 (i - Int.ofNat 1))), (13, Value.int IntKind.i64 i)] (Tr.node (Tr.node (Tr.node (Tr.node Tr.nil (some (Value.int IntKind.i64 (IntKind.wrap IntKind.i64 (i - Int.ofNat 1)))) Tr.nil) (some (Value.int IntKind.i64 (Int.ofNat 0))) Tr.nil) none (Tr.node Tr.nil (some (Value.int IntKind.i64 (IntKind.wrap IntKind.i64 (IntKind.wrap IntKind.i64 (ofI val * p) + q)))) Tr.nil)) (some (Value.slice (some (Addr.mk b off (some 0))) len cap)) (Tr.node (Tr.node Tr.nil (some (Value.bool false)) Tr.nil) (some (Value.int IntKind.i64 (Int.ofNat 0))) (Tr.node Tr.nil (some (Value.int IntKind.i64 p)) Tr.nil))) ms A else CR.fail 420 else CR.fail 420 else CR.fail 420 else CR.fail 420 else CR.fail 420 else CR.fail 420 else CR.fail 420 else CR.fail 420 else CR.fail 420 else kx 0 [(12, Value.bool false), (11, Value.int IntKind.i64 i)] (Tr.node (Tr.node (Tr.node (Tr.node Tr.nil (some (Value.int IntKind.i64 i)) Tr.nil) (some (Value.int IntKind.i64 (Int.ofNat 0))) Tr.nil) none (Tr.node Tr.nil (some (Value.int IntKind.i64 p)) Tr.nil)) (some (Value.slice (some (Addr.mk b off (some 0))) len cap)) (Tr.node (Tr.node Tr.nil (some (Value.bool false)) Tr.nil) (some (Value.int IntKind.i64 (Int.ofNat 0))) (Tr.node Tr.nil (some (Value.int IntKind.i64 q)) Tr.nil))) ms A := by kernel_rfl

theorem g38c (r : Mem) (L : Nat) (fs : FnsC) (b off len cap : Nat) (i p q : Int) (A : AW) (s : List (Nat × Value)) (kn : KS) (kx : Nat → KS) (kr : KS) (ms : List Nat) : run (SC r) 253 54 L (rc (rc (rc cRt))) fs none kn kx kr s (TRt (RS b off len cap) i p q) ms A =
    kr [(53, Value.int IntKind.i64 q), (52, Value.int IntKind.i64 p)] (Tr.node (Tr.node (Tr.node (Tr.node Tr.nil (some (Value.int IntKind.i64 i)) Tr.nil) (some (Value.int IntKind.i64 q)) Tr.nil) none (Tr.node Tr.nil (some (Value.int IntKind.i64 p)) Tr.nil)) (some (Value.slice (some (Addr.mk b off (some 0))) len cap)) (Tr.node (Tr.node Tr.nil (some (Value.bool true)) Tr.nil) (some (Value.int IntKind.i64 p)) (Tr.node Tr.nil (some (Value.int IntKind.i64 q)) Tr.nil))) ms A := by kernel_rfl

end Go.Proofs

/- R.FromTerms: what it answers. -/
namespace Go.Proofs
open Go Go.Ev

def masksRt : Tr Nat := Tr.nil.put 38 (some 253)

def ftGo (z : Nat → Int) (len : Nat) : Nat → Int → Int → Option (Int × Int)
  | 0, p, q => some (p, q)
  | n + 1, p, q => if z n < 1 ∨ z n > 1000000 ∨ (n + 1 = len ∧ z n = 1) then none else
    if IntKind.i64.wrap (IntKind.i64.wrap (z n * p) + q) > 1000000 then none else ftGo z len n (IntKind.i64.wrap (IntKind.i64.wrap (z n * p) + q)) p

theorem rt_loop (r : Mem) (fs : FnsC) (A : AW) (L : Nat) (kx : Nat → KS) (kr : KS) (ms : List Nat) (b off len cap : Nat) (z : Nat → Int) (hm : ∀ j, j < len → r b (off + j) = some (I (z j))) (hl : len ≤ 9223372036854775807) (R : Option (Int × Int) → CR)
    (hx : ∀ s i p q, kx 0 s (TRt (RS b off len cap) i p q) ms A = R (some (p, q))) (hr : ∀ s i p q, kr s (TRt (RS b off len cap) i p q) ms A = R none) : ∀ (j n : Nat) (p q : Int) (s : List (Nat × Value)), n < j → n ≤ len →
    cLoop (fun kl => run (SC r) 253 54 L (ic (ic (rc (lc (rc (rc cRt)))))) fs none kl kx kr) j s (TRt (RS b off len cap) ((n : Int) - 1) p q) ms A = R (ftGo z len n p q) := by
  intro j
  induction j with
  | zero => intro n p q s h; omega
  | succ j ih =>
    intro n p q s h hn
    rw [cLoop_succ, g38b]
    cases n with
    | zero =>
      have h0 : ¬ (((0 : Nat) : Int) - 1 ≥ 0) := by omega
      simp only [h0, decide_false, cond_false]
      exact hx _ _ p q
    | succ n =>
      have e : (((n + 1 : Nat) : Int) - 1) = (n : Int) := by omega
      have h0 : ((n : Int) ≥ 0) := by omega
      have hlt : Nat.blt n len = true := Nat.ble_eq_true_of_le (by omega)
      have hw : IntKind.wrap IntKind.i64 (Int.ofNat len - Int.ofNat 1) = (len : Int) - 1 := IntWalk.i64_in _ (by simp; omega)
      have hw2 : IntKind.wrap IntKind.i64 ((n : Int) - Int.ofNat 1) = (n : Int) - 1 := IntWalk.i64_in _ (by simp; omega)
      rw [e]
      simp only [h0, hlt, hw, hw2, decide_true, cond_true, Int.toNat_natCast, Nat.add_eq, Nat.mul_eq, Nat.mul_one, hm n (by omega), isI, ofI]
      have hih : ∀ s p q, cLoop (fun kl => run (SC r) 253 54 L (ic (ic (rc (lc (rc (rc cRt)))))) fs none kl kx kr) j s (TRt (RS b off len cap) ((n : Int) - 1) p q) ms A = R (ftGo z len n p q) := fun s p q => ih n p q s (by omega) (by omega)
      by_cases c : z n < 1 ∨ z n > 1000000 ∨ (n + 1 = len ∧ z n = 1)
      · have hft : ftGo z len (n + 1) p q = none := by rw [ftGo, if_pos c]
        rw [hft]
        by_cases c1 : z n < 1
        · simp only [c1, decide_true, cond_true]
          exact hr _ _ p q
        · by_cases c2 : z n > 1000000
          · simp only [c1, c2, decide_true, decide_false, cond_true, cond_false]
            exact hr _ _ p q
          · have c3' : ((n : Int) == (len : Int) - 1) = true := by simp; omega
            have c4' : (z n == Int.ofNat 1) = true := by simp; omega
            simp only [c1, c2, c3', c4', decide_false, cond_true, cond_false]
            exact hr _ _ p q
      · have c1 : ¬ z n < 1 := by omega
        have c2 : ¬ z n > 1000000 := by omega
        by_cases c5 : IntKind.i64.wrap (IntKind.i64.wrap (z n * p) + q) > 1000000
        · have hft : ftGo z len (n + 1) p q = none := by rw [ftGo, if_neg c, if_pos c5]
          rw [hft]
          by_cases c3 : n + 1 = len
          · have c3' : ((n : Int) == (len : Int) - 1) = true := by simp; omega
            have c4' : (z n == Int.ofNat 1) = false := by simp; omega
            simp only [c1, c2, c3', c4', c5, decide_true, decide_false, cond_true, cond_false]
            exact hr _ _ _ _
          · have c3' : ((n : Int) == (len : Int) - 1) = false := by simp; omega
            simp only [c1, c2, c3', c5, decide_true, decide_false, cond_true, cond_false]
            exact hr _ _ _ _
        · have hft : ftGo z len (n + 1) p q = ftGo z len n (IntKind.i64.wrap (IntKind.i64.wrap (z n * p) + q)) p := by rw [ftGo, if_neg c, if_neg c5]
          rw [hft]
          by_cases c3 : n + 1 = len
          · have c3' : ((n : Int) == (len : Int) - 1) = true := by simp; omega
            have c4' : (z n == Int.ofNat 1) = false := by simp; omega
            simp only [c1, c2, c3', c4', c5, decide_false, cond_true, cond_false]
            exact hih _ _ _
          · have c3' : ((n : Int) == (len : Int) - 1) = false := by simp; omega
            simp only [c1, c2, c3', c5, decide_false, cond_false]
            exact hih _ _ _

theorem cRt_eq : cRt = .seq (lc cRt) (.seq (lc (rc cRt)) (.seq (.seq (lc (lc (rc (rc cRt)))) (.block 0 (.loop (ic (ic (rc (lc (rc (rc cRt))))))))) (rc (rc (rc cRt))))) := by kernel_rfl

def ftRes : Option (Int × Int) → Value
  | some (p, q) => .tuple ⟨[I p, I q, .bool true]⟩
  | none => .tuple ⟨[I 0, I 0, .bool false]⟩

theorem rFromTerms_ok (r : Mem) (b off len cap : Nat) (z : Nat → Int) (hm : ∀ j, j < len → r b (off + j) = some (I (z j))) (hl : len ≤ 9223372036854775807) :
    GrT Tryd.prog r 38 [RS b off len cap] (ftRes (ftGo z len len 1 0)) :=
  GrT.of (SC_ok r) TOk.nil masksRt (by cases ftGo z len len 1 0 <;> rfl) ⟨len + 1, 1, by
    rw [enterN (m := 253) (n := 54) (rs := [.tmp 2, .tmp 3, .tmp 4]) cRt rfl (by kernel_rfl) (by kernel_rfl) (by kernel_rfl) (by kernel_rfl) (by kernel_rfl) rfl]
    rw [cRt_eq, run_seq, run_seq, run_seq, run_seq, run_block, run_loop]
    have hw : IntKind.wrap IntKind.i64 (Int.ofNat len - Int.ofNat 1) = (len : Int) - 1 := IntWalk.i64_in _ (by simp; omega)
    refine (g38a r _ _ b off len cap _ _ _ _ _).trans ?_
    rw [hw]
    refine (show _ = _ from rt_loop r (lvlT (SC r) (fun _ => none) masksRt (len + 1) 0) emptyA (len + 1)
      (fun j => match Nat.beq j 0 with | true => run (SC r) 253 54 (len + 1) (rc (rc (rc cRt))) (lvlT (SC r) (fun _ => none) masksRt (len + 1) 0) none (finK (SC r) 253 [.tmp 2, .tmp 3, .tmp 4] fin) kx242 (finK (SC r) 253 [.tmp 2, .tmp 3, .tmp 4] fin) | false => kx242 j)
      (finK (SC r) 253 [.tmp 2, .tmp 3, .tmp 4] fin) [] b off len cap z hm hl (fun o => .ret (ftRes o) emptyA) (fun s i p q => ?_) (fun s i p q => ?_) (len + 1) len 1 0 _ (by omega) (by omega)).trans ?_
    · exact (g38c r _ _ b off len cap i p q _ s _ _ _ _).trans rfl
    · rfl
    · rfl⟩

end Go.Proofs

/- The law of terms, run. -/
namespace Go.Proofs
open Go Go.Ev Go.Num
set_option linter.unusedVariables false

def m_rB (c : List Value) (k len : Nat) : Bool := (ftGo (fun j => zAt c (k + j)) len len 1 0).isSome
def m_rP (c : List Value) (k len : Nat) : Int := match ftGo (fun j => zAt c (k + j)) len len 1 0 with | some (p, _) => p | none => 0
def m_rQ (c : List Value) (k len : Nat) : Int := match ftGo (fun j => zAt c (k + j)) len len 1 0 with | some (_, q) => q | none => 0
/-- R.FromTerms of a row of the caller's. -/
noncomputable def eRFromT : Ent := ent
  (fun args A => match args with
    | [.slice none 0 0] => true
    | [.slice (some ⟨i, k, none⟩) len cap] => match A.heap.get i with
      | some (.cells c _ _ _) => m_okL c k len && !Nat.beq cap unkE
      | _ => false
    | _ => false)
  (fun args A => match args with
    | [.slice none 0 0] => .tuple ⟨[I 1, I 0, .bool true]⟩
    | [.slice (some ⟨i, k, none⟩) len _] => match A.heap.get i with
      | some (.cells c _ _ _) => .tuple ⟨[I (m_rP c k len), I (m_rQ c k len), .bool (m_rB c k len)]⟩
      | _ => undef
    | _ => undef)
noncomputable def tTt : Tbl := tcons 37 eFromT (tcons 38 eRFromT (tcons 18 (e0 (.bool true)) fun _ => none))

noncomputable def cTt : Code := bodyOf S0 7
noncomputable def oTt : Code := ic (ic (rc (lc (rc (rc (rc cTt))))))
noncomputable def xTt : Code := ic (lc (rc oTt))
noncomputable def pTt : Code := .seq (.seq (.seq (.seq (.seq (.seq (lc xTt) (lc (rc xTt))) (lc (rc (rc xTt)))) (lc (rc (rc (rc xTt))))) (lc (rc (rc (rc (rc xTt)))))) (lc (rc (rc (rc (rc (rc xTt))))))) (lc (rc (rc (rc (rc (rc (rc xTt)))))))
noncomputable def iTt : Code := ic (ic (rc (rc (rc (rc (rc (rc (rc xTt))))))))

/-- The law's own row. -/
def Aown (c : List Value) : AW := .mk 1 (.node .nil (some (.cells c 2 0 1)) .nil) .nil
abbrev sOwn (n : Nat) : Value := .slice (some ⟨0, 0, none⟩) n unk
/-- The temporaries: the argument, the row's slice, the round; w: what was left of the round before. -/
def Tt1 (v : Value) (n : Nat) (i : Int) : Tr Value := .node (.node (.node .nil (some (sOwn n)) .nil) none .nil) (some v) (.node (.node .nil (some (I i)) .nil) (some (.bool false)) .nil)
def Tt2 (v : Value) (n : Nat) (i : Int) (v5 v6 v7 v8 v9 v10 v11 v12 : Value) : Tr Value := .node (.node (.node (.node .nil (some v7) .nil) (some (sOwn n)) (.node .nil (some v11) .nil)) none (.node (.node .nil (some v9) .nil) (some v5) .nil)) (some v) (.node (.node (.node .nil (some v8) .nil) (some (I i)) (.node .nil (some v12) .nil)) (some (.bool false)) (.node (.node .nil (some v10) .nil) (some v6) .nil))

theorem ttA (r : Mem) (b off len cap L : Nat) (fs : FnsC) (kn : KS) (kx : Nat → KS) (kr : KS) : run (SC r) 8189 89 L (.seq (.seq (.seq (lc cTt) (lc (rc cTt))) (lc (rc (rc cTt)))) (lc (lc (rc (rc (rc cTt)))))) fs none kn kx kr (sc0 8189 [RS b off len cap]) (tr0 8189 [RS b off len cap]) [] emptyA =
    bif decide (0 ≤ bif decide (61 < Int.ofNat len) then Int.ofNat 61 else Int.ofNat len) then
      bif Nat.beq cap 9223372036854775809 then CR.fail 435
      else
        bif Nat.ble (Int.toNat (bif decide (61 < Int.ofNat len) then Int.ofNat 61 else Int.ofNat len)) cap then
          bif Nat.beq (Int.toNat (bif decide (61 < Int.ofNat len) then Int.ofNat 61 else Int.ofNat len)) 0 then kn [] (Tr.node (Tr.node (Tr.node Tr.nil (some (Value.slice none 0 0)) Tr.nil) none Tr.nil) (some (Value.slice (some (Addr.mk b off (some 0))) len cap)) (Tr.node (Tr.node Tr.nil (some (Value.int IntKind.i64 (Int.ofNat 0))) Tr.nil) (some (Value.bool false)) Tr.nil)) [] (AW.mk 0 Tr.nil Tr.nil)
          else
            bif Nat.ble (Nat.add 0 (Nat.sub (Int.toNat (bif decide (61 < Int.ofNat len) then Int.ofNat 61 else Int.ofNat len)) 0)) 1000000 then
              Option.casesOn
                (match Nat.beq (Nat.sub cap 0) unkE with
                | true => none
                | false => takeF (Cfg.ro (SC r) b) (Nat.add off (Nat.mul 0 (TypeInfo.size Tryd.t2))) (Nat.mul (Nat.sub (Int.toNat (bif decide (61 < Int.ofNat len) then 61 else Int.ofNat len)) 0) (TypeInfo.size Tryd.t2)))
                (CR.fail 443) fun val => bif Nat.beq (List.length val) (Nat.mul (Nat.sub (Int.toNat (bif decide (61 < Int.ofNat len) then Int.ofNat 61 else Int.ofNat len)) 0) 1) then bif Nat.beq (Nat.sub (Int.toNat (bif decide (61 < Int.ofNat len) then Int.ofNat 61 else Int.ofNat len)) 0) 0 then kn [] (Tr.node (Tr.node (Tr.node Tr.nil (some (Value.slice none 0 0)) Tr.nil) none Tr.nil) (some (Value.slice (some (Addr.mk b off (some 0))) len cap)) (Tr.node (Tr.node Tr.nil (some (Value.int IntKind.i64 (Int.ofNat 0))) Tr.nil) (some (Value.bool false)) Tr.nil)) [] (AW.mk 0 Tr.nil Tr.nil) else kn [] (Tr.node (Tr.node (Tr.node Tr.nil (some (Value.slice (some (Addr.mk 0 0 none)) (Nat.sub (Int.toNat (bif decide (61 < Int.ofNat len) then Int.ofNat 61 else Int.ofNat len)) 0) 9223372036854775808)) Tr.nil) none Tr.nil) (some (Value.slice (some (Addr.mk b off (some 0))) len cap)) (Tr.node (Tr.node Tr.nil (some (Value.int IntKind.i64 (Int.ofNat 0))) Tr.nil) (some (Value.bool false)) Tr.nil)) [] (AW.mk 1 (Tr.node Tr.nil (some (AObj.cells val 2 0 1)) Tr.nil) Tr.nil) else CR.fail 420
            else CR.fail 420
        else CR.fail 420
    else CR.fail 420 := by kernel_rfl

theorem ttB (r : Mem) (L : Nat) (fs : FnsC) (v : Value) (n : Nat) (i : Int) (A : AW) (s : List (Nat × Value)) (kn : KS) (kx : Nat → KS) (kr : KS) : run (SC r) 8189 89 L (lc oTt) fs none kn kx kr s (Tt1 v n i) [] A =
    bif decide (i < 2) then kn [(21, Value.bool true), (20, Value.int IntKind.i64 i)] (Tr.node (Tr.node (Tr.node Tr.nil (some (Value.slice (some (Addr.mk 0 0 none)) n 9223372036854775808)) Tr.nil) none Tr.nil) (some v) (Tr.node (Tr.node Tr.nil (some (Value.int IntKind.i64 i)) Tr.nil) (some (Value.bool false)) Tr.nil)) [] A else kx 0 [(21, Value.bool false), (20, Value.int IntKind.i64 i)] (Tr.node (Tr.node (Tr.node Tr.nil (some (Value.slice (some (Addr.mk 0 0 none)) n 9223372036854775808)) Tr.nil) none Tr.nil) (some v) (Tr.node (Tr.node Tr.nil (some (Value.int IntKind.i64 i)) Tr.nil) (some (Value.bool false)) Tr.nil)) [] A := by kernel_rfl

theorem ttB2 (r : Mem) (L : Nat) (fs : FnsC) (v v5 v6 v7 v8 v9 v10 v11 v12 : Value) (n : Nat) (i : Int) (A : AW) (s : List (Nat × Value)) (kn : KS) (kx : Nat → KS) (kr : KS) : run (SC r) 8189 89 L (lc oTt) fs none kn kx kr s (Tt2 v n i v5 v6 v7 v8 v9 v10 v11 v12) [] A =
    bif decide (i < 2) then kn [(21, Value.bool true), (20, Value.int IntKind.i64 i)] (Tr.node (Tr.node (Tr.node (Tr.node Tr.nil (some v7) Tr.nil) (some (Value.slice (some (Addr.mk 0 0 none)) n 9223372036854775808)) (Tr.node Tr.nil (some v11) Tr.nil)) none (Tr.node (Tr.node Tr.nil (some v9) Tr.nil) (some v5) Tr.nil)) (some v) (Tr.node (Tr.node (Tr.node Tr.nil (some v8) Tr.nil) (some (Value.int IntKind.i64 i)) (Tr.node Tr.nil (some v12) Tr.nil)) (some (Value.bool false)) (Tr.node (Tr.node Tr.nil (some v10) Tr.nil) (some v6) Tr.nil))) [] A else kx 0 [(21, Value.bool false), (20, Value.int IntKind.i64 i)] (Tr.node (Tr.node (Tr.node (Tr.node Tr.nil (some v7) Tr.nil) (some (Value.slice (some (Addr.mk 0 0 none)) n 9223372036854775808)) (Tr.node Tr.nil (some v11) Tr.nil)) none (Tr.node (Tr.node Tr.nil (some v9) Tr.nil) (some v5) Tr.nil)) (some v) (Tr.node (Tr.node (Tr.node Tr.nil (some v8) Tr.nil) (some (Value.int IntKind.i64 i)) (Tr.node Tr.nil (some v12) Tr.nil)) (some (Value.bool false)) (Tr.node (Tr.node Tr.nil (some v10) Tr.nil) (some v6) Tr.nil))) [] A := by kernel_rfl

theorem ttC (r : Mem) (L : Nat) (tm : Tr Nat) (v : Value) (n : Nat) (i : Int) (zs : List Int) (s : List (Nat × Value)) (kn : KS) (kx : Nat → KS) (kr : KS) : run (SC r) 8189 89 L pTt (lvlT (SC r) tTt tm L 0) none kn kx kr s (Tt1 v n i) [] (Aown (m_row zs)) =
    bif m_okL (m_row zs) 0 n && true then bif m_okL (m_row zs) 0 n && true then bif m_rB (m_row zs) 0 n then bif decide (Int.ofNat n > 60) then bif m_ftEL (m_row zs) 0 n != Int.ofNat 2 then kr [] (Tr.node (Tr.node (Tr.node (Tr.node Tr.nil (some (Value.int IntKind.i64 (m_ftEL (m_row zs) 0 n))) Tr.nil) (some (Value.slice (some (Addr.mk 0 0 none)) n 9223372036854775808)) (Tr.node Tr.nil (some (Value.int IntKind.i64 (Int.ofNat 2))) Tr.nil)) none (Tr.node (Tr.node Tr.nil (some (Value.int IntKind.i64 (m_rQ (m_row zs) 0 n))) Tr.nil) (some (Value.int IntKind.i64 (m_ftXL (m_row zs) 0 n))) Tr.nil)) (some v) (Tr.node (Tr.node (Tr.node Tr.nil (some (Value.int IntKind.i64 (m_rP (m_row zs) 0 n))) Tr.nil) (some (Value.int IntKind.i64 i)) Tr.nil) (some (Value.bool false)) (Tr.node (Tr.node Tr.nil (some (Value.bool true)) Tr.nil) (some (Value.int IntKind.i64 (m_ftYL (m_row zs) 0 n))) Tr.nil))) [] (AW.mk 1 (Tr.node Tr.nil (some (AObj.cells (m_row zs) 2 0 1)) Tr.nil) Tr.nil) else bif m_ftXL (m_row zs) 0 n != Int.ofNat 0 then kr [] (Tr.node (Tr.node (Tr.node (Tr.node Tr.nil (some (Value.int IntKind.i64 (m_ftEL (m_row zs) 0 n))) Tr.nil) (some (Value.slice (some (Addr.mk 0 0 none)) n 9223372036854775808)) (Tr.node Tr.nil (some (Value.int IntKind.i64 (Int.ofNat 2))) Tr.nil)) none (Tr.node (Tr.node Tr.nil (some (Value.int IntKind.i64 (m_rQ (m_row zs) 0 n))) Tr.nil) (some (Value.int IntKind.i64 (m_ftXL (m_row zs) 0 n))) Tr.nil)) (some v) (Tr.node (Tr.node (Tr.node Tr.nil (some (Value.int IntKind.i64 (m_rP (m_row zs) 0 n))) Tr.nil) (some (Value.int IntKind.i64 i)) Tr.nil) (some (Value.bool false)) (Tr.node (Tr.node Tr.nil (some (Value.bool true)) Tr.nil) (some (Value.int IntKind.i64 (m_ftYL (m_row zs) 0 n))) Tr.nil))) [] (AW.mk 1 (Tr.node Tr.nil (some (AObj.cells (m_row zs) 2 0 1)) Tr.nil) Tr.nil) else bif m_ftYL (m_row zs) 0 n != Int.ofNat 0 then kr [] (Tr.node (Tr.node (Tr.node (Tr.node Tr.nil (some (Value.int IntKind.i64 (m_ftEL (m_row zs) 0 n))) Tr.nil) (some (Value.slice (some (Addr.mk 0 0 none)) n 9223372036854775808)) (Tr.node Tr.nil (some (Value.int IntKind.i64 (Int.ofNat 2))) Tr.nil)) none (Tr.node (Tr.node Tr.nil (some (Value.int IntKind.i64 (m_rQ (m_row zs) 0 n))) Tr.nil) (some (Value.int IntKind.i64 (m_ftXL (m_row zs) 0 n))) Tr.nil)) (some v) (Tr.node (Tr.node (Tr.node Tr.nil (some (Value.int IntKind.i64 (m_rP (m_row zs) 0 n))) Tr.nil) (some (Value.int IntKind.i64 i)) Tr.nil) (some (Value.bool false)) (Tr.node (Tr.node Tr.nil (some (Value.bool true)) Tr.nil) (some (Value.int IntKind.i64 (m_ftYL (m_row zs) 0 n))) Tr.nil))) [] (AW.mk 1 (Tr.node Tr.nil (some (AObj.cells (m_row zs) 2 0 1)) Tr.nil) Tr.nil) else bif decide (0 ≤ bif decide (8 < Int.ofNat n) then Int.ofNat 8 else Int.ofNat n) then bif Nat.ble (Int.toNat (bif decide (8 < Int.ofNat n) then Int.ofNat 8 else Int.ofNat n)) n then kn [] (Tr.node (Tr.node (Tr.node (Tr.node Tr.nil (some (Value.int IntKind.i64 (m_ftEL (m_row zs) 0 n))) Tr.nil) (some (Value.slice (some (Addr.mk 0 0 none)) (Int.toNat (bif decide (8 < Int.ofNat n) then Int.ofNat 8 else Int.ofNat n)) 9223372036854775808)) (Tr.node Tr.nil (some (Value.int IntKind.i64 (Int.ofNat 2))) Tr.nil)) none (Tr.node (Tr.node Tr.nil (some (Value.int IntKind.i64 (m_rQ (m_row zs) 0 n))) Tr.nil) (some (Value.int IntKind.i64 (m_ftXL (m_row zs) 0 n))) Tr.nil)) (some v) (Tr.node (Tr.node (Tr.node Tr.nil (some (Value.int IntKind.i64 (m_rP (m_row zs) 0 n))) Tr.nil) (some (Value.int IntKind.i64 i)) (Tr.node Tr.nil (some (Value.int IntKind.i64 (Int.ofNat 0))) Tr.nil)) (some (Value.bool false)) (Tr.node (Tr.node Tr.nil (some (Value.bool true)) Tr.nil) (some (Value.int IntKind.i64 (m_ftYL (m_row zs) 0 n))) Tr.nil))) [] (AW.mk 1 (Tr.node Tr.nil (some (AObj.cells (m_row zs) 2 0 1)) Tr.nil) Tr.nil) else CR.fail 420 else CR.fail 420 else bif m_ftEL (m_row zs) 0 n != Int.ofNat 0 then kr [] (Tr.node (Tr.node (Tr.node (Tr.node Tr.nil (some (Value.int IntKind.i64 (m_ftEL (m_row zs) 0 n))) Tr.nil) (some (Value.slice (some (Addr.mk 0 0 none)) n 9223372036854775808)) (Tr.node Tr.nil (some (Value.int IntKind.i64 (Int.ofNat 0))) Tr.nil)) none (Tr.node (Tr.node Tr.nil (some (Value.int IntKind.i64 (m_rQ (m_row zs) 0 n))) Tr.nil) (some (Value.int IntKind.i64 (m_ftXL (m_row zs) 0 n))) Tr.nil)) (some v) (Tr.node (Tr.node (Tr.node Tr.nil (some (Value.int IntKind.i64 (m_rP (m_row zs) 0 n))) Tr.nil) (some (Value.int IntKind.i64 i)) Tr.nil) (some (Value.bool false)) (Tr.node (Tr.node Tr.nil (some (Value.bool true)) Tr.nil) (some (Value.int IntKind.i64 (m_ftYL (m_row zs) 0 n))) Tr.nil))) [] (AW.mk 1 (Tr.node Tr.nil (some (AObj.cells (m_row zs) 2 0 1)) Tr.nil) Tr.nil) else bif m_ftXL (m_row zs) 0 n != m_rP (m_row zs) 0 n then kr [] (Tr.node (Tr.node (Tr.node (Tr.node Tr.nil (some (Value.int IntKind.i64 (m_ftEL (m_row zs) 0 n))) Tr.nil) (some (Value.slice (some (Addr.mk 0 0 none)) n 9223372036854775808)) (Tr.node Tr.nil (some (Value.int IntKind.i64 (Int.ofNat 0))) Tr.nil)) none (Tr.node (Tr.node Tr.nil (some (Value.int IntKind.i64 (m_rQ (m_row zs) 0 n))) Tr.nil) (some (Value.int IntKind.i64 (m_ftXL (m_row zs) 0 n))) Tr.nil)) (some v) (Tr.node (Tr.node (Tr.node Tr.nil (some (Value.int IntKind.i64 (m_rP (m_row zs) 0 n))) Tr.nil) (some (Value.int IntKind.i64 i)) Tr.nil) (some (Value.bool false)) (Tr.node (Tr.node Tr.nil (some (Value.bool true)) Tr.nil) (some (Value.int IntKind.i64 (m_ftYL (m_row zs) 0 n))) Tr.nil))) [] (AW.mk 1 (Tr.node Tr.nil (some (AObj.cells (m_row zs) 2 0 1)) Tr.nil) Tr.nil) else bif m_ftYL (m_row zs) 0 n != m_rQ (m_row zs) 0 n then kr [] (Tr.node (Tr.node (Tr.node (Tr.node Tr.nil (some (Value.int IntKind.i64 (m_ftEL (m_row zs) 0 n))) Tr.nil) (some (Value.slice (some (Addr.mk 0 0 none)) n 9223372036854775808)) (Tr.node Tr.nil (some (Value.int IntKind.i64 (Int.ofNat 0))) Tr.nil)) none (Tr.node (Tr.node Tr.nil (some (Value.int IntKind.i64 (m_rQ (m_row zs) 0 n))) Tr.nil) (some (Value.int IntKind.i64 (m_ftXL (m_row zs) 0 n))) Tr.nil)) (some v) (Tr.node (Tr.node (Tr.node Tr.nil (some (Value.int IntKind.i64 (m_rP (m_row zs) 0 n))) Tr.nil) (some (Value.int IntKind.i64 i)) Tr.nil) (some (Value.bool false)) (Tr.node (Tr.node Tr.nil (some (Value.bool true)) Tr.nil) (some (Value.int IntKind.i64 (m_ftYL (m_row zs) 0 n))) Tr.nil))) [] (AW.mk 1 (Tr.node Tr.nil (some (AObj.cells (m_row zs) 2 0 1)) Tr.nil) Tr.nil) else bif decide (0 ≤ bif decide (8 < Int.ofNat n) then Int.ofNat 8 else Int.ofNat n) then bif Nat.ble (Int.toNat (bif decide (8 < Int.ofNat n) then Int.ofNat 8 else Int.ofNat n)) n then kn [] (Tr.node (Tr.node (Tr.node (Tr.node Tr.nil (some (Value.int IntKind.i64 (m_ftEL (m_row zs) 0 n))) Tr.nil) (some (Value.slice (some (Addr.mk 0 0 none)) (Int.toNat (bif decide (8 < Int.ofNat n) then Int.ofNat 8 else Int.ofNat n)) 9223372036854775808)) (Tr.node Tr.nil (some (Value.int IntKind.i64 (Int.ofNat 0))) Tr.nil)) none (Tr.node (Tr.node Tr.nil (some (Value.int IntKind.i64 (m_rQ (m_row zs) 0 n))) Tr.nil) (some (Value.int IntKind.i64 (m_ftXL (m_row zs) 0 n))) Tr.nil)) (some v) (Tr.node (Tr.node (Tr.node Tr.nil (some (Value.int IntKind.i64 (m_rP (m_row zs) 0 n))) Tr.nil) (some (Value.int IntKind.i64 i)) (Tr.node Tr.nil (some (Value.int IntKind.i64 (Int.ofNat 0))) Tr.nil)) (some (Value.bool false)) (Tr.node (Tr.node Tr.nil (some (Value.bool true)) Tr.nil) (some (Value.int IntKind.i64 (m_ftYL (m_row zs) 0 n))) Tr.nil))) [] (AW.mk 1 (Tr.node Tr.nil (some (AObj.cells (m_row zs) 2 0 1)) Tr.nil) Tr.nil) else CR.fail 420 else CR.fail 420 else bif decide (Int.ofNat n > 60) then bif m_ftEL (m_row zs) 0 n != Int.ofNat 2 then kr [] (Tr.node (Tr.node (Tr.node (Tr.node Tr.nil (some (Value.int IntKind.i64 (m_ftEL (m_row zs) 0 n))) Tr.nil) (some (Value.slice (some (Addr.mk 0 0 none)) n 9223372036854775808)) (Tr.node Tr.nil (some (Value.int IntKind.i64 (Int.ofNat 2))) Tr.nil)) none (Tr.node (Tr.node Tr.nil (some (Value.int IntKind.i64 (m_rQ (m_row zs) 0 n))) Tr.nil) (some (Value.int IntKind.i64 (m_ftXL (m_row zs) 0 n))) Tr.nil)) (some v) (Tr.node (Tr.node (Tr.node Tr.nil (some (Value.int IntKind.i64 (m_rP (m_row zs) 0 n))) Tr.nil) (some (Value.int IntKind.i64 i)) Tr.nil) (some (Value.bool false)) (Tr.node (Tr.node Tr.nil (some (Value.bool false)) Tr.nil) (some (Value.int IntKind.i64 (m_ftYL (m_row zs) 0 n))) Tr.nil))) [] (AW.mk 1 (Tr.node Tr.nil (some (AObj.cells (m_row zs) 2 0 1)) Tr.nil) Tr.nil) else bif m_ftXL (m_row zs) 0 n != Int.ofNat 0 then kr [] (Tr.node (Tr.node (Tr.node (Tr.node Tr.nil (some (Value.int IntKind.i64 (m_ftEL (m_row zs) 0 n))) Tr.nil) (some (Value.slice (some (Addr.mk 0 0 none)) n 9223372036854775808)) (Tr.node Tr.nil (some (Value.int IntKind.i64 (Int.ofNat 2))) Tr.nil)) none (Tr.node (Tr.node Tr.nil (some (Value.int IntKind.i64 (m_rQ (m_row zs) 0 n))) Tr.nil) (some (Value.int IntKind.i64 (m_ftXL (m_row zs) 0 n))) Tr.nil)) (some v) (Tr.node (Tr.node (Tr.node Tr.nil (some (Value.int IntKind.i64 (m_rP (m_row zs) 0 n))) Tr.nil) (some (Value.int IntKind.i64 i)) Tr.nil) (some (Value.bool false)) (Tr.node (Tr.node Tr.nil (some (Value.bool false)) Tr.nil) (some (Value.int IntKind.i64 (m_ftYL (m_row zs) 0 n))) Tr.nil))) [] (AW.mk 1 (Tr.node Tr.nil (some (AObj.cells (m_row zs) 2 0 1)) Tr.nil) Tr.nil) else bif m_ftYL (m_row zs) 0 n != Int.ofNat 0 then kr [] (Tr.node (Tr.node (Tr.node (Tr.node Tr.nil (some (Value.int IntKind.i64 (m_ftEL (m_row zs) 0 n))) Tr.nil) (some (Value.slice (some (Addr.mk 0 0 none)) n 9223372036854775808)) (Tr.node Tr.nil (some (Value.int IntKind.i64 (Int.ofNat 2))) Tr.nil)) none (Tr.node (Tr.node Tr.nil (some (Value.int IntKind.i64 (m_rQ (m_row zs) 0 n))) Tr.nil) (some (Value.int IntKind.i64 (m_ftXL (m_row zs) 0 n))) Tr.nil)) (some v) (Tr.node (Tr.node (Tr.node Tr.nil (some (Value.int IntKind.i64 (m_rP (m_row zs) 0 n))) Tr.nil) (some (Value.int IntKind.i64 i)) Tr.nil) (some (Value.bool false)) (Tr.node (Tr.node Tr.nil (some (Value.bool false)) Tr.nil) (some (Value.int IntKind.i64 (m_ftYL (m_row zs) 0 n))) Tr.nil))) [] (AW.mk 1 (Tr.node Tr.nil (some (AObj.cells (m_row zs) 2 0 1)) Tr.nil) Tr.nil) else bif decide (0 ≤ bif decide (8 < Int.ofNat n) then Int.ofNat 8 else Int.ofNat n) then bif Nat.ble (Int.toNat (bif decide (8 < Int.ofNat n) then Int.ofNat 8 else Int.ofNat n)) n then kn [] (Tr.node (Tr.node (Tr.node (Tr.node Tr.nil (some (Value.int IntKind.i64 (m_ftEL (m_row zs) 0 n))) Tr.nil) (some (Value.slice (some (Addr.mk 0 0 none)) (Int.toNat (bif decide (8 < Int.ofNat n) then Int.ofNat 8 else Int.ofNat n)) 9223372036854775808)) (Tr.node Tr.nil (some (Value.int IntKind.i64 (Int.ofNat 2))) Tr.nil)) none (Tr.node (Tr.node Tr.nil (some (Value.int IntKind.i64 (m_rQ (m_row zs) 0 n))) Tr.nil) (some (Value.int IntKind.i64 (m_ftXL (m_row zs) 0 n))) Tr.nil)) (some v) (Tr.node (Tr.node (Tr.node Tr.nil (some (Value.int IntKind.i64 (m_rP (m_row zs) 0 n))) Tr.nil) (some (Value.int IntKind.i64 i)) (Tr.node Tr.nil (some (Value.int IntKind.i64 (Int.ofNat 0))) Tr.nil)) (some (Value.bool false)) (Tr.node (Tr.node Tr.nil (some (Value.bool false)) Tr.nil) (some (Value.int IntKind.i64 (m_ftYL (m_row zs) 0 n))) Tr.nil))) [] (AW.mk 1 (Tr.node Tr.nil (some (AObj.cells (m_row zs) 2 0 1)) Tr.nil) Tr.nil) else CR.fail 420 else CR.fail 420 else bif m_ftEL (m_row zs) 0 n != Int.ofNat 1 then kr [] (Tr.node (Tr.node (Tr.node (Tr.node Tr.nil (some (Value.int IntKind.i64 (m_ftEL (m_row zs) 0 n))) Tr.nil) (some (Value.slice (some (Addr.mk 0 0 none)) n 9223372036854775808)) (Tr.node Tr.nil (some (Value.int IntKind.i64 (Int.ofNat 1))) Tr.nil)) none (Tr.node (Tr.node Tr.nil (some (Value.int IntKind.i64 (m_rQ (m_row zs) 0 n))) Tr.nil) (some (Value.int IntKind.i64 (m_ftXL (m_row zs) 0 n))) Tr.nil)) (some v) (Tr.node (Tr.node (Tr.node Tr.nil (some (Value.int IntKind.i64 (m_rP (m_row zs) 0 n))) Tr.nil) (some (Value.int IntKind.i64 i)) Tr.nil) (some (Value.bool false)) (Tr.node (Tr.node Tr.nil (some (Value.bool false)) Tr.nil) (some (Value.int IntKind.i64 (m_ftYL (m_row zs) 0 n))) Tr.nil))) [] (AW.mk 1 (Tr.node Tr.nil (some (AObj.cells (m_row zs) 2 0 1)) Tr.nil) Tr.nil) else bif m_ftXL (m_row zs) 0 n != Int.ofNat 0 then kr [] (Tr.node (Tr.node (Tr.node (Tr.node Tr.nil (some (Value.int IntKind.i64 (m_ftEL (m_row zs) 0 n))) Tr.nil) (some (Value.slice (some (Addr.mk 0 0 none)) n 9223372036854775808)) (Tr.node Tr.nil (some (Value.int IntKind.i64 (Int.ofNat 1))) Tr.nil)) none (Tr.node (Tr.node Tr.nil (some (Value.int IntKind.i64 (m_rQ (m_row zs) 0 n))) Tr.nil) (some (Value.int IntKind.i64 (m_ftXL (m_row zs) 0 n))) Tr.nil)) (some v) (Tr.node (Tr.node (Tr.node Tr.nil (some (Value.int IntKind.i64 (m_rP (m_row zs) 0 n))) Tr.nil) (some (Value.int IntKind.i64 i)) Tr.nil) (some (Value.bool false)) (Tr.node (Tr.node Tr.nil (some (Value.bool false)) Tr.nil) (some (Value.int IntKind.i64 (m_ftYL (m_row zs) 0 n))) Tr.nil))) [] (AW.mk 1 (Tr.node Tr.nil (some (AObj.cells (m_row zs) 2 0 1)) Tr.nil) Tr.nil) else bif m_ftYL (m_row zs) 0 n != Int.ofNat 0 then kr [] (Tr.node (Tr.node (Tr.node (Tr.node Tr.nil (some (Value.int IntKind.i64 (m_ftEL (m_row zs) 0 n))) Tr.nil) (some (Value.slice (some (Addr.mk 0 0 none)) n 9223372036854775808)) (Tr.node Tr.nil (some (Value.int IntKind.i64 (Int.ofNat 1))) Tr.nil)) none (Tr.node (Tr.node Tr.nil (some (Value.int IntKind.i64 (m_rQ (m_row zs) 0 n))) Tr.nil) (some (Value.int IntKind.i64 (m_ftXL (m_row zs) 0 n))) Tr.nil)) (some v) (Tr.node (Tr.node (Tr.node Tr.nil (some (Value.int IntKind.i64 (m_rP (m_row zs) 0 n))) Tr.nil) (some (Value.int IntKind.i64 i)) Tr.nil) (some (Value.bool false)) (Tr.node (Tr.node Tr.nil (some (Value.bool false)) Tr.nil) (some (Value.int IntKind.i64 (m_ftYL (m_row zs) 0 n))) Tr.nil))) [] (AW.mk 1 (Tr.node Tr.nil (some (AObj.cells (m_row zs) 2 0 1)) Tr.nil) Tr.nil) else bif decide (0 ≤ bif decide (8 < Int.ofNat n) then Int.ofNat 8 else Int.ofNat n) then bif Nat.ble (Int.toNat (bif decide (8 < Int.ofNat n) then Int.ofNat 8 else Int.ofNat n)) n then kn [] (Tr.node (Tr.node (Tr.node (Tr.node Tr.nil (some (Value.int IntKind.i64 (m_ftEL (m_row zs) 0 n))) Tr.nil) (some (Value.slice (some (Addr.mk 0 0 none)) (Int.toNat (bif decide (8 < Int.ofNat n) then Int.ofNat 8 else Int.ofNat n)) 9223372036854775808)) (Tr.node Tr.nil (some (Value.int IntKind.i64 (Int.ofNat 1))) Tr.nil)) none (Tr.node (Tr.node Tr.nil (some (Value.int IntKind.i64 (m_rQ (m_row zs) 0 n))) Tr.nil) (some (Value.int IntKind.i64 (m_ftXL (m_row zs) 0 n))) Tr.nil)) (some v) (Tr.node (Tr.node (Tr.node Tr.nil (some (Value.int IntKind.i64 (m_rP (m_row zs) 0 n))) Tr.nil) (some (Value.int IntKind.i64 i)) (Tr.node Tr.nil (some (Value.int IntKind.i64 (Int.ofNat 0))) Tr.nil)) (some (Value.bool false)) (Tr.node (Tr.node Tr.nil (some (Value.bool false)) Tr.nil) (some (Value.int IntKind.i64 (m_ftYL (m_row zs) 0 n))) Tr.nil))) [] (AW.mk 1 (Tr.node Tr.nil (some (AObj.cells (m_row zs) 2 0 1)) Tr.nil) Tr.nil) else CR.fail 420 else CR.fail 420 else CR.fail 420 else CR.fail 420 := by kernel_rfl

theorem ttC2 (r : Mem) (L : Nat) (tm : Tr Nat) (v v5 v6 v7 v8 v9 v10 v11 v12 : Value) (n : Nat) (i : Int) (zs : List Int) (s : List (Nat × Value)) (kn : KS) (kx : Nat → KS) (kr : KS) : run (SC r) 8189 89 L pTt (lvlT (SC r) tTt tm L 0) none kn kx kr s (Tt2 v n i v5 v6 v7 v8 v9 v10 v11 v12) [] (Aown (m_row zs)) =
    bif m_okL (m_row zs) 0 n && true then bif m_okL (m_row zs) 0 n && true then bif m_rB (m_row zs) 0 n then bif decide (Int.ofNat n > 60) then bif m_ftEL (m_row zs) 0 n != Int.ofNat 2 then kr [] (Tr.node (Tr.node (Tr.node (Tr.node Tr.nil (some (Value.int IntKind.i64 (m_ftEL (m_row zs) 0 n))) Tr.nil) (some (Value.slice (some (Addr.mk 0 0 none)) n 9223372036854775808)) (Tr.node Tr.nil (some (Value.int IntKind.i64 (Int.ofNat 2))) Tr.nil)) none (Tr.node (Tr.node Tr.nil (some (Value.int IntKind.i64 (m_rQ (m_row zs) 0 n))) Tr.nil) (some (Value.int IntKind.i64 (m_ftXL (m_row zs) 0 n))) Tr.nil)) (some v) (Tr.node (Tr.node (Tr.node Tr.nil (some (Value.int IntKind.i64 (m_rP (m_row zs) 0 n))) Tr.nil) (some (Value.int IntKind.i64 i)) (Tr.node Tr.nil (some v12) Tr.nil)) (some (Value.bool false)) (Tr.node (Tr.node Tr.nil (some (Value.bool true)) Tr.nil) (some (Value.int IntKind.i64 (m_ftYL (m_row zs) 0 n))) Tr.nil))) [] (AW.mk 1 (Tr.node Tr.nil (some (AObj.cells (m_row zs) 2 0 1)) Tr.nil) Tr.nil) else bif m_ftXL (m_row zs) 0 n != Int.ofNat 0 then kr [] (Tr.node (Tr.node (Tr.node (Tr.node Tr.nil (some (Value.int IntKind.i64 (m_ftEL (m_row zs) 0 n))) Tr.nil) (some (Value.slice (some (Addr.mk 0 0 none)) n 9223372036854775808)) (Tr.node Tr.nil (some (Value.int IntKind.i64 (Int.ofNat 2))) Tr.nil)) none (Tr.node (Tr.node Tr.nil (some (Value.int IntKind.i64 (m_rQ (m_row zs) 0 n))) Tr.nil) (some (Value.int IntKind.i64 (m_ftXL (m_row zs) 0 n))) Tr.nil)) (some v) (Tr.node (Tr.node (Tr.node Tr.nil (some (Value.int IntKind.i64 (m_rP (m_row zs) 0 n))) Tr.nil) (some (Value.int IntKind.i64 i)) (Tr.node Tr.nil (some v12) Tr.nil)) (some (Value.bool false)) (Tr.node (Tr.node Tr.nil (some (Value.bool true)) Tr.nil) (some (Value.int IntKind.i64 (m_ftYL (m_row zs) 0 n))) Tr.nil))) [] (AW.mk 1 (Tr.node Tr.nil (some (AObj.cells (m_row zs) 2 0 1)) Tr.nil) Tr.nil) else bif m_ftYL (m_row zs) 0 n != Int.ofNat 0 then kr [] (Tr.node (Tr.node (Tr.node (Tr.node Tr.nil (some (Value.int IntKind.i64 (m_ftEL (m_row zs) 0 n))) Tr.nil) (some (Value.slice (some (Addr.mk 0 0 none)) n 9223372036854775808)) (Tr.node Tr.nil (some (Value.int IntKind.i64 (Int.ofNat 2))) Tr.nil)) none (Tr.node (Tr.node Tr.nil (some (Value.int IntKind.i64 (m_rQ (m_row zs) 0 n))) Tr.nil) (some (Value.int IntKind.i64 (m_ftXL (m_row zs) 0 n))) Tr.nil)) (some v) (Tr.node (Tr.node (Tr.node Tr.nil (some (Value.int IntKind.i64 (m_rP (m_row zs) 0 n))) Tr.nil) (some (Value.int IntKind.i64 i)) (Tr.node Tr.nil (some v12) Tr.nil)) (some (Value.bool false)) (Tr.node (Tr.node Tr.nil (some (Value.bool true)) Tr.nil) (some (Value.int IntKind.i64 (m_ftYL (m_row zs) 0 n))) Tr.nil))) [] (AW.mk 1 (Tr.node Tr.nil (some (AObj.cells (m_row zs) 2 0 1)) Tr.nil) Tr.nil) else bif decide (0 ≤ bif decide (8 < Int.ofNat n) then Int.ofNat 8 else Int.ofNat n) then bif Nat.ble (Int.toNat (bif decide (8 < Int.ofNat n) then Int.ofNat 8 else Int.ofNat n)) n then kn [] (Tr.node (Tr.node (Tr.node (Tr.node Tr.nil (some (Value.int IntKind.i64 (m_ftEL (m_row zs) 0 n))) Tr.nil) (some (Value.slice (some (Addr.mk 0 0 none)) (Int.toNat (bif decide (8 < Int.ofNat n) then Int.ofNat 8 else Int.ofNat n)) 9223372036854775808)) (Tr.node Tr.nil (some (Value.int IntKind.i64 (Int.ofNat 2))) Tr.nil)) none (Tr.node (Tr.node Tr.nil (some (Value.int IntKind.i64 (m_rQ (m_row zs) 0 n))) Tr.nil) (some (Value.int IntKind.i64 (m_ftXL (m_row zs) 0 n))) Tr.nil)) (some v) (Tr.node (Tr.node (Tr.node Tr.nil (some (Value.int IntKind.i64 (m_rP (m_row zs) 0 n))) Tr.nil) (some (Value.int IntKind.i64 i)) (Tr.node Tr.nil (some (Value.int IntKind.i64 (Int.ofNat 0))) Tr.nil)) (some (Value.bool false)) (Tr.node (Tr.node Tr.nil (some (Value.bool true)) Tr.nil) (some (Value.int IntKind.i64 (m_ftYL (m_row zs) 0 n))) Tr.nil))) [] (AW.mk 1 (Tr.node Tr.nil (some (AObj.cells (m_row zs) 2 0 1)) Tr.nil) Tr.nil) else CR.fail 420 else CR.fail 420 else bif m_ftEL (m_row zs) 0 n != Int.ofNat 0 then kr [] (Tr.node (Tr.node (Tr.node (Tr.node Tr.nil (some (Value.int IntKind.i64 (m_ftEL (m_row zs) 0 n))) Tr.nil) (some (Value.slice (some (Addr.mk 0 0 none)) n 9223372036854775808)) (Tr.node Tr.nil (some (Value.int IntKind.i64 (Int.ofNat 0))) Tr.nil)) none (Tr.node (Tr.node Tr.nil (some (Value.int IntKind.i64 (m_rQ (m_row zs) 0 n))) Tr.nil) (some (Value.int IntKind.i64 (m_ftXL (m_row zs) 0 n))) Tr.nil)) (some v) (Tr.node (Tr.node (Tr.node Tr.nil (some (Value.int IntKind.i64 (m_rP (m_row zs) 0 n))) Tr.nil) (some (Value.int IntKind.i64 i)) (Tr.node Tr.nil (some v12) Tr.nil)) (some (Value.bool false)) (Tr.node (Tr.node Tr.nil (some (Value.bool true)) Tr.nil) (some (Value.int IntKind.i64 (m_ftYL (m_row zs) 0 n))) Tr.nil))) [] (AW.mk 1 (Tr.node Tr.nil (some (AObj.cells (m_row zs) 2 0 1)) Tr.nil) Tr.nil) else bif m_ftXL (m_row zs) 0 n != m_rP (m_row zs) 0 n then kr [] (Tr.node (Tr.node (Tr.node (Tr.node Tr.nil (some (Value.int IntKind.i64 (m_ftEL (m_row zs) 0 n))) Tr.nil) (some (Value.slice (some (Addr.mk 0 0 none)) n 9223372036854775808)) (Tr.node Tr.nil (some (Value.int IntKind.i64 (Int.ofNat 0))) Tr.nil)) none (Tr.node (Tr.node Tr.nil (some (Value.int IntKind.i64 (m_rQ (m_row zs) 0 n))) Tr.nil) (some (Value.int IntKind.i64 (m_ftXL (m_row zs) 0 n))) Tr.nil)) (some v) (Tr.node (Tr.node (Tr.node Tr.nil (some (Value.int IntKind.i64 (m_rP (m_row zs) 0 n))) Tr.nil) (some (Value.int IntKind.i64 i)) (Tr.node Tr.nil (some v12) Tr.nil)) (some (Value.bool false)) (Tr.node (Tr.node Tr.nil (some (Value.bool true)) Tr.nil) (some (Value.int IntKind.i64 (m_ftYL (m_row zs) 0 n))) Tr.nil))) [] (AW.mk 1 (Tr.node Tr.nil (some (AObj.cells (m_row zs) 2 0 1)) Tr.nil) Tr.nil) else bif m_ftYL (m_row zs) 0 n != m_rQ (m_row zs) 0 n then kr [] (Tr.node (Tr.node (Tr.node (Tr.node Tr.nil (some (Value.int IntKind.i64 (m_ftEL (m_row zs) 0 n))) Tr.nil) (some (Value.slice (some (Addr.mk 0 0 none)) n 9223372036854775808)) (Tr.node Tr.nil (some (Value.int IntKind.i64 (Int.ofNat 0))) Tr.nil)) none (Tr.node (Tr.node Tr.nil (some (Value.int IntKind.i64 (m_rQ (m_row zs) 0 n))) Tr.nil) (some (Value.int IntKind.i64 (m_ftXL (m_row zs) 0 n))) Tr.nil)) (some v) (Tr.node (Tr.node (Tr.node Tr.nil (some (Value.int IntKind.i64 (m_rP (m_row zs) 0 n))) Tr.nil) (some (Value.int IntKind.i64 i)) (Tr.node Tr.nil (some v12) Tr.nil)) (some (Value.bool false)) (Tr.node (Tr.node Tr.nil (some (Value.bool true)) Tr.nil) (some (Value.int IntKind.i64 (m_ftYL (m_row zs) 0 n))) Tr.nil))) [] (AW.mk 1 (Tr.node Tr.nil (some (AObj.cells (m_row zs) 2 0 1)) Tr.nil) Tr.nil) else bif decide (0 ≤ bif decide (8 < Int.ofNat n) then Int.ofNat 8 else Int.ofNat n) then bif Nat.ble (Int.toNat (bif decide (8 < Int.ofNat n) then Int.ofNat 8 else Int.ofNat n)) n then kn [] (Tr.node (Tr.node (Tr.node (Tr.node Tr.nil (some (Value.int IntKind.i64 (m_ftEL (m_row zs) 0 n))) Tr.nil) (some (Value.slice (some (Addr.mk 0 0 none)) (Int.toNat (bif decide (8 < Int.ofNat n) then Int.ofNat 8 else Int.ofNat n)) 9223372036854775808)) (Tr.node Tr.nil (some (Value.int IntKind.i64 (Int.ofNat 0))) Tr.nil)) none (Tr.node (Tr.node Tr.nil (some (Value.int IntKind.i64 (m_rQ (m_row zs) 0 n))) Tr.nil) (some (Value.int IntKind.i64 (m_ftXL (m_row zs) 0 n))) Tr.nil)) (some v) (Tr.node (Tr.node (Tr.node Tr.nil (some (Value.int IntKind.i64 (m_rP (m_row zs) 0 n))) Tr.nil) (some (Value.int IntKind.i64 i)) (Tr.node Tr.nil (some (Value.int IntKind.i64 (Int.ofNat 0))) Tr.nil)) (some (Value.bool false)) (Tr.node (Tr.node Tr.nil (some (Value.bool true)) Tr.nil) (some (Value.int IntKind.i64 (m_ftYL (m_row zs) 0 n))) Tr.nil))) [] (AW.mk 1 (Tr.node Tr.nil (some (AObj.cells (m_row zs) 2 0 1)) Tr.nil) Tr.nil) else CR.fail 420 else CR.fail 420 else bif decide (Int.ofNat n > 60) then bif m_ftEL (m_row zs) 0 n != Int.ofNat 2 then kr [] (Tr.node (Tr.node (Tr.node (Tr.node Tr.nil (some (Value.int IntKind.i64 (m_ftEL (m_row zs) 0 n))) Tr.nil) (some (Value.slice (some (Addr.mk 0 0 none)) n 9223372036854775808)) (Tr.node Tr.nil (some (Value.int IntKind.i64 (Int.ofNat 2))) Tr.nil)) none (Tr.node (Tr.node Tr.nil (some (Value.int IntKind.i64 (m_rQ (m_row zs) 0 n))) Tr.nil) (some (Value.int IntKind.i64 (m_ftXL (m_row zs) 0 n))) Tr.nil)) (some v) (Tr.node (Tr.node (Tr.node Tr.nil (some (Value.int IntKind.i64 (m_rP (m_row zs) 0 n))) Tr.nil) (some (Value.int IntKind.i64 i)) (Tr.node Tr.nil (some v12) Tr.nil)) (some (Value.bool false)) (Tr.node (Tr.node Tr.nil (some (Value.bool false)) Tr.nil) (some (Value.int IntKind.i64 (m_ftYL (m_row zs) 0 n))) Tr.nil))) [] (AW.mk 1 (Tr.node Tr.nil (some (AObj.cells (m_row zs) 2 0 1)) Tr.nil) Tr.nil) else bif m_ftXL (m_row zs) 0 n != Int.ofNat 0 then kr [] (Tr.node (Tr.node (Tr.node (Tr.node Tr.nil (some (Value.int IntKind.i64 (m_ftEL (m_row zs) 0 n))) Tr.nil) (some (Value.slice (some (Addr.mk 0 0 none)) n 9223372036854775808)) (Tr.node Tr.nil (some (Value.int IntKind.i64 (Int.ofNat 2))) Tr.nil)) none (Tr.node (Tr.node Tr.nil (some (Value.int IntKind.i64 (m_rQ (m_row zs) 0 n))) Tr.nil) (some (Value.int IntKind.i64 (m_ftXL (m_row zs) 0 n))) Tr.nil)) (some v) (Tr.node (Tr.node (Tr.node Tr.nil (some (Value.int IntKind.i64 (m_rP (m_row zs) 0 n))) Tr.nil) (some (Value.int IntKind.i64 i)) (Tr.node Tr.nil (some v12) Tr.nil)) (some (Value.bool false)) (Tr.node (Tr.node Tr.nil (some (Value.bool false)) Tr.nil) (some (Value.int IntKind.i64 (m_ftYL (m_row zs) 0 n))) Tr.nil))) [] (AW.mk 1 (Tr.node Tr.nil (some (AObj.cells (m_row zs) 2 0 1)) Tr.nil) Tr.nil) else bif m_ftYL (m_row zs) 0 n != Int.ofNat 0 then kr [] (Tr.node (Tr.node (Tr.node (Tr.node Tr.nil (some (Value.int IntKind.i64 (m_ftEL (m_row zs) 0 n))) Tr.nil) (some (Value.slice (some (Addr.mk 0 0 none)) n 9223372036854775808)) (Tr.node Tr.nil (some (Value.int IntKind.i64 (Int.ofNat 2))) Tr.nil)) none (Tr.node (Tr.node Tr.nil (some (Value.int IntKind.i64 (m_rQ (m_row zs) 0 n))) Tr.nil) (some (Value.int IntKind.i64 (m_ftXL (m_row zs) 0 n))) Tr.nil)) (some v) (Tr.node (Tr.node (Tr.node Tr.nil (some (Value.int IntKind.i64 (m_rP (m_row zs) 0 n))) Tr.nil) (some (Value.int IntKind.i64 i)) (Tr.node Tr.nil (some v12) Tr.nil)) (some (Value.bool false)) (Tr.node (Tr.node Tr.nil (some (Value.bool false)) Tr.nil) (some (Value.int IntKind.i64 (m_ftYL (m_row zs) 0 n))) Tr.nil))) [] (AW.mk 1 (Tr.node Tr.nil (some (AObj.cells (m_row zs) 2 0 1)) Tr.nil) Tr.nil) else bif decide (0 ≤ bif decide (8 < Int.ofNat n) then Int.ofNat 8 else Int.ofNat n) then bif Nat.ble (Int.toNat (bif decide (8 < Int.ofNat n) then Int.ofNat 8 else Int.ofNat n)) n then kn [] (Tr.node (Tr.node (Tr.node (Tr.node Tr.nil (some (Value.int IntKind.i64 (m_ftEL (m_row zs) 0 n))) Tr.nil) (some (Value.slice (some (Addr.mk 0 0 none)) (Int.toNat (bif decide (8 < Int.ofNat n) then Int.ofNat 8 else Int.ofNat n)) 9223372036854775808)) (Tr.node Tr.nil (some (Value.int IntKind.i64 (Int.ofNat 2))) Tr.nil)) none (Tr.node (Tr.node Tr.nil (some (Value.int IntKind.i64 (m_rQ (m_row zs) 0 n))) Tr.nil) (some (Value.int IntKind.i64 (m_ftXL (m_row zs) 0 n))) Tr.nil)) (some v) (Tr.node (Tr.node (Tr.node Tr.nil (some (Value.int IntKind.i64 (m_rP (m_row zs) 0 n))) Tr.nil) (some (Value.int IntKind.i64 i)) (Tr.node Tr.nil (some (Value.int IntKind.i64 (Int.ofNat 0))) Tr.nil)) (some (Value.bool false)) (Tr.node (Tr.node Tr.nil (some (Value.bool false)) Tr.nil) (some (Value.int IntKind.i64 (m_ftYL (m_row zs) 0 n))) Tr.nil))) [] (AW.mk 1 (Tr.node Tr.nil (some (AObj.cells (m_row zs) 2 0 1)) Tr.nil) Tr.nil) else CR.fail 420 else CR.fail 420 else bif m_ftEL (m_row zs) 0 n != Int.ofNat 1 then kr [] (Tr.node (Tr.node (Tr.node (Tr.node Tr.nil (some (Value.int IntKind.i64 (m_ftEL (m_row zs) 0 n))) Tr.nil) (some (Value.slice (some (Addr.mk 0 0 none)) n 9223372036854775808)) (Tr.node Tr.nil (some (Value.int IntKind.i64 (Int.ofNat 1))) Tr.nil)) none (Tr.node (Tr.node Tr.nil (some (Value.int IntKind.i64 (m_rQ (m_row zs) 0 n))) Tr.nil) (some (Value.int IntKind.i64 (m_ftXL (m_row zs) 0 n))) Tr.nil)) (some v) (Tr.node (Tr.node (Tr.node Tr.nil (some (Value.int IntKind.i64 (m_rP (m_row zs) 0 n))) Tr.nil) (some (Value.int IntKind.i64 i)) (Tr.node Tr.nil (some v12) Tr.nil)) (some (Value.bool false)) (Tr.node (Tr.node Tr.nil (some (Value.bool false)) Tr.nil) (some (Value.int IntKind.i64 (m_ftYL (m_row zs) 0 n))) Tr.nil))) [] (AW.mk 1 (Tr.node Tr.nil (some (AObj.cells (m_row zs) 2 0 1)) Tr.nil) Tr.nil) else bif m_ftXL (m_row zs) 0 n != Int.ofNat 0 then kr [] (Tr.node (Tr.node (Tr.node (Tr.node Tr.nil (some (Value.int IntKind.i64 (m_ftEL (m_row zs) 0 n))) Tr.nil) (some (Value.slice (some (Addr.mk 0 0 none)) n 9223372036854775808)) (Tr.node Tr.nil (some (Value.int IntKind.i64 (Int.ofNat 1))) Tr.nil)) none (Tr.node (Tr.node Tr.nil (some (Value.int IntKind.i64 (m_rQ (m_row zs) 0 n))) Tr.nil) (some (Value.int IntKind.i64 (m_ftXL (m_row zs) 0 n))) Tr.nil)) (some v) (Tr.node (Tr.node (Tr.node Tr.nil (some (Value.int IntKind.i64 (m_rP (m_row zs) 0 n))) Tr.nil) (some (Value.int IntKind.i64 i)) (Tr.node Tr.nil (some v12) Tr.nil)) (some (Value.bool false)) (Tr.node (Tr.node Tr.nil (some (Value.bool false)) Tr.nil) (some (Value.int IntKind.i64 (m_ftYL (m_row zs) 0 n))) Tr.nil))) [] (AW.mk 1 (Tr.node Tr.nil (some (AObj.cells (m_row zs) 2 0 1)) Tr.nil) Tr.nil) else bif m_ftYL (m_row zs) 0 n != Int.ofNat 0 then kr [] (Tr.node (Tr.node (Tr.node (Tr.node Tr.nil (some (Value.int IntKind.i64 (m_ftEL (m_row zs) 0 n))) Tr.nil) (some (Value.slice (some (Addr.mk 0 0 none)) n 9223372036854775808)) (Tr.node Tr.nil (some (Value.int IntKind.i64 (Int.ofNat 1))) Tr.nil)) none (Tr.node (Tr.node Tr.nil (some (Value.int IntKind.i64 (m_rQ (m_row zs) 0 n))) Tr.nil) (some (Value.int IntKind.i64 (m_ftXL (m_row zs) 0 n))) Tr.nil)) (some v) (Tr.node (Tr.node (Tr.node Tr.nil (some (Value.int IntKind.i64 (m_rP (m_row zs) 0 n))) Tr.nil) (some (Value.int IntKind.i64 i)) (Tr.node Tr.nil (some v12) Tr.nil)) (some (Value.bool false)) (Tr.node (Tr.node Tr.nil (some (Value.bool false)) Tr.nil) (some (Value.int IntKind.i64 (m_ftYL (m_row zs) 0 n))) Tr.nil))) [] (AW.mk 1 (Tr.node Tr.nil (some (AObj.cells (m_row zs) 2 0 1)) Tr.nil) Tr.nil) else bif decide (0 ≤ bif decide (8 < Int.ofNat n) then Int.ofNat 8 else Int.ofNat n) then bif Nat.ble (Int.toNat (bif decide (8 < Int.ofNat n) then Int.ofNat 8 else Int.ofNat n)) n then kn [] (Tr.node (Tr.node (Tr.node (Tr.node Tr.nil (some (Value.int IntKind.i64 (m_ftEL (m_row zs) 0 n))) Tr.nil) (some (Value.slice (some (Addr.mk 0 0 none)) (Int.toNat (bif decide (8 < Int.ofNat n) then Int.ofNat 8 else Int.ofNat n)) 9223372036854775808)) (Tr.node Tr.nil (some (Value.int IntKind.i64 (Int.ofNat 1))) Tr.nil)) none (Tr.node (Tr.node Tr.nil (some (Value.int IntKind.i64 (m_rQ (m_row zs) 0 n))) Tr.nil) (some (Value.int IntKind.i64 (m_ftXL (m_row zs) 0 n))) Tr.nil)) (some v) (Tr.node (Tr.node (Tr.node Tr.nil (some (Value.int IntKind.i64 (m_rP (m_row zs) 0 n))) Tr.nil) (some (Value.int IntKind.i64 i)) (Tr.node Tr.nil (some (Value.int IntKind.i64 (Int.ofNat 0))) Tr.nil)) (some (Value.bool false)) (Tr.node (Tr.node Tr.nil (some (Value.bool false)) Tr.nil) (some (Value.int IntKind.i64 (m_ftYL (m_row zs) 0 n))) Tr.nil))) [] (AW.mk 1 (Tr.node Tr.nil (some (AObj.cells (m_row zs) 2 0 1)) Tr.nil) Tr.nil) else CR.fail 420 else CR.fail 420 else CR.fail 420 else CR.fail 420 := by kernel_rfl

theorem ttD (r : Mem) (L : Nat) (fs : FnsC) (v v5 v6 v7 v8 v9 v10 v11 : Value) (n : Nat) (i k : Int) (zs : List Int) (s : List (Nat × Value)) (kn : KS) (kx : Nat → KS) (kr : KS) : run (SC r) 8189 89 L iTt fs none kn kx kr s (Tt2 v n i v5 v6 v7 v8 v9 v10 v11 (I k)) [] (Aown (m_row zs)) =
    bif decide (k < Int.ofNat n) then bif decide (0 ≤ k) then bif Nat.blt (Int.toNat k) n then Option.casesOn (m_row zs)[Nat.add 0 (Nat.mul (Int.toNat k) 1)]? (CR.fail 423) fun val => bif isI IntKind.i64 val then bif decide (0 ≤ k) then bif Nat.blt (Int.toNat k) n then bif Nat.blt (Nat.add 0 (Nat.mul (Int.toNat k) 1)) (List.length (m_row zs)) then kn [(76, Value.int IntKind.i64 (IntKind.wrap IntKind.i64 (k + Int.ofNat 1))), (75, Value.int IntKind.i64 k)] (Tr.node (Tr.node (Tr.node (Tr.node Tr.nil (some v7) Tr.nil) (some (Value.slice (some (Addr.mk 0 0 none)) n 9223372036854775808)) (Tr.node Tr.nil (some v11) Tr.nil)) none (Tr.node (Tr.node Tr.nil (some v9) Tr.nil) (some v5) Tr.nil)) (some v) (Tr.node (Tr.node (Tr.node Tr.nil (some v8) Tr.nil) (some (Value.int IntKind.i64 i)) (Tr.node Tr.nil (some (Value.int IntKind.i64 (IntKind.wrap IntKind.i64 (k + Int.ofNat 1)))) Tr.nil)) (some (Value.bool false)) (Tr.node (Tr.node Tr.nil (some v10) Tr.nil) (some v6) Tr.nil))) [] (AW.mk 1 (Tr.node Tr.nil (some (AObj.cells (List.set (m_row zs) (Nat.add 0 (Nat.mul (Int.toNat k) 1)) (Value.int IntKind.i64 (IntKind.wrap IntKind.i64 (Int.ofNat 1 + IntKind.wrap IntKind.i64 (Int.tmod (IntKind.wrap IntKind.u64 (ofI val)) (Int.ofNat 6)))))) 2 0 1)) Tr.nil) Tr.nil) else CR.fail 420 else CR.fail 420 else CR.fail 420 else CR.fail 420 else CR.fail 420 else CR.fail 420 else kx 2 [(74, Value.bool false), (73, Value.int IntKind.i64 (Int.ofNat n)), (72, Value.slice (some (Addr.mk 0 0 none)) n 9223372036854775808), (71, Value.int IntKind.i64 k)] (Tr.node (Tr.node (Tr.node (Tr.node Tr.nil (some v7) Tr.nil) (some (Value.slice (some (Addr.mk 0 0 none)) n 9223372036854775808)) (Tr.node Tr.nil (some v11) Tr.nil)) none (Tr.node (Tr.node Tr.nil (some v9) Tr.nil) (some v5) Tr.nil)) (some v) (Tr.node (Tr.node (Tr.node Tr.nil (some v8) Tr.nil) (some (Value.int IntKind.i64 i)) (Tr.node Tr.nil (some (Value.int IntKind.i64 k)) Tr.nil)) (some (Value.bool false)) (Tr.node (Tr.node Tr.nil (some v10) Tr.nil) (some v6) Tr.nil))) [] (AW.mk 1 (Tr.node Tr.nil (some (AObj.cells (m_row zs) 2 0 1)) Tr.nil) Tr.nil) := by kernel_rfl

theorem ttE (r : Mem) (L : Nat) (fs : FnsC) (v v5 v6 v7 v8 v9 v10 v11 v12 : Value) (n : Nat) (i : Int) (A : AW) (s : List (Nat × Value)) (kn : KS) (kx : Nat → KS) (kr : KS) : run (SC r) 8189 89 L (rc (rc oTt)) fs none kn kx kr s (Tt2 v n i v5 v6 v7 v8 v9 v10 v11 v12) [] A =
    kn [(23, Value.int IntKind.i64 (IntKind.wrap IntKind.i64 (i + Int.ofNat 1))), (22, Value.int IntKind.i64 i)] (Tr.node (Tr.node (Tr.node (Tr.node Tr.nil (some v7) Tr.nil) (some (Value.slice (some (Addr.mk 0 0 none)) n 9223372036854775808)) (Tr.node Tr.nil (some v11) Tr.nil)) none (Tr.node (Tr.node Tr.nil (some v9) Tr.nil) (some v5) Tr.nil)) (some v) (Tr.node (Tr.node (Tr.node Tr.nil (some v8) Tr.nil) (some (Value.int IntKind.i64 (IntKind.wrap IntKind.i64 (i + Int.ofNat 1)))) (Tr.node Tr.nil (some v12) Tr.nil)) (some (Value.bool false)) (Tr.node (Tr.node Tr.nil (some v10) Tr.nil) (some v6) Tr.nil))) [] A := by kernel_rfl

theorem ttF (r : Mem) (L : Nat) (tm : Tr Nat) (v v5 v6 v7 v8 v9 v10 v11 v12 : Value) (n : Nat) (i : Int) (A : AW) (s : List (Nat × Value)) : run (SC r) 8189 89 L (rc (rc (rc (rc cTt)))) (lvlT (SC r) tTt tm L 0) none (finK (SC r) 8189 [.tmp 2] fin) kx242 (finK (SC r) 8189 [.tmp 2] fin) s (Tt2 v n i v5 v6 v7 v8 v9 v10 v11 v12) [] A =
    CR.ret (Value.bool true) (AW.mk 0 Tr.nil Tr.nil) := by kernel_rfl

theorem ttZ (r : Mem) (b off cap : Nat) : (lvlT (SC r) tTt .nil 4 1).call 7 [RS b off 0 cap] emptyA fin =
    bif Nat.beq cap 9223372036854775809 then CR.fail 435 else CR.ret (Value.bool true) (AW.mk 0 Tr.nil Tr.nil) := by kernel_rfl

theorem ttN (r : Mem) : (lvlT (SC r) tTt .nil 4 1).call 7 [.slice none 0 0] emptyA fin =
    CR.ret (Value.bool true) (AW.mk 0 Tr.nil Tr.nil) := by kernel_rfl

end Go.Proofs

/- The law of terms: it answers true. -/
namespace Go.Num
open Go Go.Proofs

theorem quo_iff {t P Q : Int} (hP : 1 ≤ P) (hQ2 : Q ≤ 1000000) : t > (1000000 - Q).tdiv P ↔ t * P + Q > 1000000 := by
  have e := Int.tdiv_mul_add_tmod (1000000 - Q) P
  have r0 := Int.tmod_nonneg P (show 0 ≤ 1000000 - Q by omega)
  have r1 := Int.tmod_lt_of_pos (1000000 - Q) (show 0 < P by omega)
  constructor
  · intro h
    have := Int.mul_le_mul_of_nonneg_right (show (1000000 - Q).tdiv P + 1 ≤ t by omega) (show 0 ≤ P by omega)
    rw [Int.add_mul] at this
    omega
  · intro h
    by_cases c : t > (1000000 - Q).tdiv P
    · exact c
    · have := Int.mul_le_mul_of_nonneg_right (show t ≤ (1000000 - Q).tdiv P by omega) (show 0 ≤ P by omega)
      omega

theorem ftGo_step (z : Nat → Int) (len n : Nat) (P Q : Int) (hP : 1 ≤ P) (hP2 : P ≤ 1000000) (hQ : 0 ≤ Q) (hQ2 : Q ≤ 1000000) (h1 : ¬ (n + 1 = len ∧ z n = 1)) :
    ftGo z len (n + 1) P Q = if z n < 1 ∨ z n > (1000000 - Q).tdiv P then none else ftGo z len n (z n * P + Q) P := by
  rw [ftGo]
  by_cases c : z n < 1 ∨ z n > (1000000 - Q).tdiv P
  · rw [if_pos c]
    by_cases c1 : z n < 1 ∨ z n > 1000000 ∨ (n + 1 = len ∧ z n = 1)
    · rw [if_pos c1]
    · rw [if_neg c1]
      have hz : 1 ≤ z n := by omega
      have hz2 : z n ≤ 1000000 := by omega
      have hgt := (quo_iff hP hQ2).1 (show z n > (1000000 - Q).tdiv P by omega)
      have hm := Int.mul_le_mul hz2 hP2 (show 0 ≤ P by omega) (by omega)
      have hm0 : 0 ≤ z n * P := Int.mul_nonneg (by omega) (by omega)
      rw [IntWalk.i64_in (z n * P) (by omega), IntWalk.i64_in (z n * P + Q) (by omega), if_pos hgt]
  · rw [if_neg c]
    obtain ⟨b1, b2, b3, b4⟩ := ft_next hP hP2 hQ hQ2 c
    have c1 : ¬ (z n < 1 ∨ z n > 1000000 ∨ (n + 1 = len ∧ z n = 1)) := by omega
    rw [if_neg c1, IntWalk.i64_in (z n * P) (by omega), IntWalk.i64_in (z n * P + Q) (by omega), if_neg (by omega)]

theorem ftGo_eq (z : Nat → Int) (len : Nat) : ∀ (n : Nat) (P Q : Int), n < len → 1 ≤ P → P ≤ 1000000 → 0 ≤ Q → Q ≤ 1000000 → ftGo z len n P Q = if (ftM z n P Q).1 = true then some (ftM z n P Q).2 else none := by
  intro n
  induction n with
  | zero => intro P Q _ _ _ _ _; rfl
  | succ n ih =>
    intro P Q hn hP hP2 hQ hQ2
    rw [ftGo_step z len n P Q hP hP2 hQ hQ2 (by omega), ftM]
    by_cases c : z n < 1 ∨ z n > (1000000 - Q).tdiv P
    · rw [if_pos c, if_pos c]; rfl
    · rw [if_neg c, if_neg c]
      obtain ⟨b1, b2, b3, b4⟩ := ft_next hP hP2 hQ hQ2 c
      exact ih _ _ (by omega) b1 b2 (by omega) hP2

/-- The two answers on a row. -/
theorem ftGo_top (z : Nat → Int) (len : Nat) : ftGo z len len 1 0 = if 0 < len ∧ z (len - 1) = 1 then none else if (ftM z len 1 0).1 = true then some (ftM z len 1 0).2 else none := by
  cases len with
  | zero => rfl
  | succ n =>
    simp only [Nat.add_sub_cancel]
    by_cases c : z n = 1
    · rw [if_pos ⟨by omega, c⟩, ftGo, if_pos (.inr (.inr ⟨rfl, c⟩))]
    · rw [if_neg (by omega), ftGo_step z (n + 1) n 1 0 (by omega) (by omega) (by omega) (by omega) (by omega), ftM]
      by_cases c1 : z n < 1 ∨ z n > (1000000 - 0 : Int).tdiv 1
      · rw [if_pos c1, if_pos c1]; rfl
      · rw [if_neg c1, if_neg c1]
        obtain ⟨b1, b2, b3, b4⟩ := ft_next (by omega) (by omega) (by omega) (by omega) c1
        exact ftGo_eq z (n + 1) n _ _ (by omega) b1 b2 (by omega) (by omega)

end Go.Num
namespace Go.Proofs
open Go Go.Ev Go.Num

theorem tt_cases (c : List Value) (k n : Nat) :
    (n > 60 ∧ m_ftEL c k n = Int.ofNat 2 ∧ m_ftXL c k n = Int.ofNat 0 ∧ m_ftYL c k n = Int.ofNat 0) ∨
    (¬ n > 60 ∧ m_rB c k n = false ∧ m_ftEL c k n = Int.ofNat 1 ∧ m_ftXL c k n = Int.ofNat 0 ∧ m_ftYL c k n = Int.ofNat 0) ∨
    (¬ n > 60 ∧ m_rB c k n = true ∧ m_ftEL c k n = Int.ofNat 0 ∧ m_ftXL c k n = m_rP c k n ∧ m_ftYL c k n = m_rQ c k n) := by
  unfold m_ftEL m_ftXL m_ftYL m_rB m_rP m_rQ
  generalize (fun j => zAt c (k + j)) = z
  have ht := ftGo_top z n
  have zz : ∀ {e : Int}, m_ftE z n = e → e ≠ 0 → m_ftX z n = Int.ofNat 0 ∧ m_ftY z n = Int.ofNat 0 := fun he hne => by
    unfold m_ftX m_ftY
    rw [he, if_neg hne, if_neg hne]
    exact ⟨rfl, rfl⟩
  by_cases c1 : n > 60
  · have he : m_ftE z n = 2 := by unfold m_ftE; rw [if_pos c1]
    exact .inl ⟨c1, he, zz he (by decide)⟩
  · by_cases c2 : 0 < n ∧ z (n - 1) = 1
    · have he : m_ftE z n = 1 := by unfold m_ftE; rw [if_neg c1, if_pos c2]
      rw [if_pos c2] at ht
      exact .inr (.inl ⟨c1, by rw [ht]; rfl, he, zz he (by decide)⟩)
    · rw [if_neg c2] at ht
      by_cases c3 : (ftM z n 1 0).1 = true
      · have he : m_ftE z n = 0 := by unfold m_ftE; rw [if_neg c1, if_neg c2, if_pos c3]
        rw [if_pos c3] at ht
        refine .inr (.inr ⟨c1, by rw [ht]; rfl, he, ?_, ?_⟩)
        · unfold m_ftX; rw [if_pos he, ht]
        · unfold m_ftY; rw [if_pos he, ht]
      · have he : m_ftE z n = 1 := by unfold m_ftE; rw [if_neg c1, if_neg c2, if_neg c3]
        rw [if_neg c3] at ht
        exact .inr (.inl ⟨c1, by rw [ht]; rfl, he, zz he (by decide)⟩)

theorem rFromT_nil : GrT Tryd.prog (fun _ _ => none) 38 [.slice none 0 0] (.tuple ⟨[I 1, I 0, .bool true]⟩) := GrT.closed evMixed evNames .nil 1000 40 (by kernel_rfl)

theorem rFromTE_ok (r : Mem) : EOk (SC r) 38 eRFromT := EOk.ent fun args A hg => by
  split at hg
  · exact (rFromT_nil.any r).ro (C := SC r) rfl A
  · rename_i i k len cap
    split at hg
    · rename_i c e f z hget
      simp only [Bool.and_eq_true, Bool.not_eq_true'] at hg
      obtain ⟨h1, h2⟩ := @of_decide_eq_true _ (Classical.propDecidable _) hg.1
      refine POk.of rfl fun γ W args' hw hR ha => ?_
      cases ha' : args'.toList with
      | nil => rw [ha'] at ha; cases ha
      | cons v' rest =>
        rw [ha'] at ha
        cases ha with
        | cons hv hrest =>
          cases hrest
          obtain ⟨b, k', c', rfl, hrd⟩ := rd_world hw hR hv hg.2
          refine ⟨memW W, [RS b k' len 0], memW_ro W, .cons (.sliceRo _ _ _ _ _ _ (by decide) (Nat.zero_le _)) .nil, ?_⟩
          have hm : ∀ j, j < len → memW W b (k' + j) = some (I (zAt c (k + j))) := fun j hj => by
            obtain ⟨z, hz⟩ := h2 j hj
            have e1 : zAt c (k + j) = z := by unfold zAt; rw [hz]
            rw [e1]
            refine hrd j _ ?_ rfl
            simp only [AW.rd, AW.cell, hget]
            exact hz
          have := rFromTerms_ok (memW W) b k' len 0 (fun j => zAt c (k + j)) hm h1
          have e : ftRes (ftGo (fun j => zAt c (k + j)) len len 1 0) = .tuple ⟨[I (m_rP c k len), I (m_rQ c k len), .bool (m_rB c k len)]⟩ := by
            unfold m_rP m_rQ m_rB
            cases ftGo (fun j => zAt c (k + j)) len len 1 0 <;> rfl
          rw [e] at this
          exact this
    · cases hg
  · cases hg

theorem tTt_ok (r : Mem) (hm : ∀ b j u, tabM b j = some u → r b j = some u) : TOk (SC r) tTt := TOk.cons (TOk.cons (TOk.cons TOk.nil (awakeE_ok r hm)) (rFromTE_ok r)) (fromTE_ok r)

theorem row_get (zs : List Int) (k : Nat) (h : k < zs.length) : (m_row zs)[k]? = some (I zs[k]) := by
  unfold m_row
  rw [List.getElem?_map, List.getElem?_eq_getElem h]
  rfl
theorem row_set (zs : List Int) (k : Nat) (x : Int) : (m_row zs).set k (I x) = m_row (zs.set k x) := by
  unfold m_row
  rw [List.map_set]

theorem tt_inner (r : Mem) (L : Nat) (fs : FnsC) (kx : Nat → KS) (kr : KS) (v v5 v6 v7 v8 v9 v10 v11 : Value) (n : Nat) (i : Int) (R : CR) (hn9 : n ≤ 1000) : ∀ (j k : Nat) (zs : List Int) (s : List (Nat × Value)), n ≤ zs.length → k ≤ n → n - k < j →
    (∀ s zs' v12, zs'.length = zs.length → kx 2 s (Tt2 v n i v5 v6 v7 v8 v9 v10 v11 v12) [] (Aown (m_row zs')) = R) →
    cLoop (fun kl => run (SC r) 8189 89 L iTt fs none kl kx kr) j s (Tt2 v n i v5 v6 v7 v8 v9 v10 v11 (I k)) [] (Aown (m_row zs)) = R := by
  intro j
  induction j with
  | zero => intro k zs s _ _ h; omega
  | succ j ih =>
    intro k zs s hz hk hj hx
    rw [cLoop_succ, ttD]
    by_cases c : k < n
    · have c1 : (k : Int) < Int.ofNat n := by simp; omega
      have c2 : 0 ≤ (k : Int) := by omega
      have c3 : Nat.blt k n = true := Nat.ble_eq_true_of_le (by omega)
      have c4 : Nat.blt k (List.length (m_row zs)) = true := Nat.ble_eq_true_of_le (by rw [row_len]; omega)
      have w : IntKind.wrap IntKind.i64 ((k : Int) + Int.ofNat 1) = ((k + 1 : Nat) : Int) := by rw [wrI (by simp; omega)]; simp
      simp only [dT c1, dT c2, cond_true, Int.toNat_natCast, c3, Nat.add_eq, Nat.mul_eq, Nat.mul_one, Nat.zero_add, row_get zs k (by omega), isI, decide_true, c4, w, row_set]
      exact ih (k + 1) (zs.set k _) _ (by rw [List.length_set]; exact hz) (by omega) (by omega) (fun s zs' v12 hl => hx s zs' v12 (by rw [hl, List.length_set]))
    · have c1 : ¬ (k : Int) < Int.ofNat n := by simp; omega
      simp only [dF c1, cond_false]
      exact hx _ zs _ rfl

theorem run_outer7 {C : Cfg} {m n L : Nat} {fs : FnsC} {ro : Option Nat} {kn : KS} {kx : Nat → KS} {kr : KS} (a a1 a2 a3 a4 a5 a6 a7 b d : Code) :
    run C m n L (.seq a (.seq (.block 1 (.seq a1 (.seq a2 (.seq a3 (.seq a4 (.seq a5 (.seq a6 (.seq a7 (.block 2 (.loop b)))))))))) d)) fs ro kn kx kr =
    run C m n L a fs ro (run C m n L (.seq (.seq (.seq (.seq (.seq (.seq a1 a2) a3) a4) a5) a6) a7) fs ro (cLoop (fun kl => run C m n L b fs ro kl (fun j => match Nat.beq j 2 with | true => run C m n L d fs ro kn kx kr | false => (match Nat.beq j 1 with | true => run C m n L d fs ro kn kx kr | false => kx j)) kr) L)
      (fun j => match Nat.beq j 1 with | true => run C m n L d fs ro kn kx kr | false => kx j) kr) kx kr := rfl

theorem oTt_eq : oTt = .seq (lc oTt) (.seq (.block 1 (.seq (lc xTt) (.seq (lc (rc xTt)) (.seq (lc (rc (rc xTt))) (.seq (lc (rc (rc (rc xTt)))) (.seq (lc (rc (rc (rc (rc xTt))))) (.seq (lc (rc (rc (rc (rc (rc xTt)))))) (.seq (lc (rc (rc (rc (rc (rc (rc xTt))))))) (.block 2 (.loop iTt)))))))))) (rc (rc oTt))) := by kernel_rfl

theorem oTt_run {C : Cfg} {m n L : Nat} {fs : FnsC} {ro : Option Nat} {kn : KS} {kx : Nat → KS} {kr : KS} : run C m n L oTt fs ro kn kx kr =
    run C m n L (lc oTt) fs ro (run C m n L pTt fs ro (cLoop (fun kl => run C m n L iTt fs ro kl (fun j => match Nat.beq j 2 with | true => run C m n L (rc (rc oTt)) fs ro kn kx kr | false => (match Nat.beq j 1 with | true => run C m n L (rc (rc oTt)) fs ro kn kx kr | false => kx j)) kr) L)
      (fun j => match Nat.beq j 1 with | true => run C m n L (rc (rc oTt)) fs ro kn kx kr | false => kx j) kr) kx kr := by
  rw [show run C m n L oTt fs ro kn kx kr = run C m n L (.seq (lc oTt) (.seq (.block 1 (.seq (lc xTt) (.seq (lc (rc xTt)) (.seq (lc (rc (rc xTt))) (.seq (lc (rc (rc (rc xTt)))) (.seq (lc (rc (rc (rc (rc xTt))))) (.seq (lc (rc (rc (rc (rc (rc xTt)))))) (.seq (lc (rc (rc (rc (rc (rc (rc xTt))))))) (.block 2 (.loop iTt)))))))))) (rc (rc oTt)))) fs ro kn kx kr from congrArg (fun c => run C m n L c fs ro kn kx kr) oTt_eq, run_outer7]
  rfl

theorem okL_row' (zs : List Int) (n : Nat) (h : n ≤ zs.length) (h2 : n ≤ 1000000) : m_okL (m_row zs) 0 n = true :=
  @decide_eq_true _ (Classical.propDecidable _) ⟨by omega, fun j hj => ⟨zs[j], by rw [Nat.zero_add]; exact row_get zs j (by omega)⟩⟩

theorem min8 (n : Nat) : (bif decide (8 < Int.ofNat n) then Int.ofNat 8 else Int.ofNat n) = ((min 8 n : Nat) : Int) := by
  by_cases c : 8 < n
  · have : (8 : Int) < Int.ofNat n := by simp; omega
    rw [dT this, cond_true, Nat.min_eq_left (by omega)]
    rfl
  · have : ¬ (8 : Int) < Int.ofNat n := by simp; omega
    rw [dF this, cond_false, Nat.min_eq_right (by omega)]
    rfl

/-- A round: what comes behind it. -/
theorem tt_round1 (r : Mem) (L : Nat) (tm : Tr Nat) (kn : KS) (kx : Nat → KS) (kr : KS) (v : Value) (n : Nat) (i : Int) (zs : List Int) (s : List (Nat × Value)) (R : CR) (hi : 0 ≤ i) (hi2 : i < 2) (hz : n ≤ zs.length) (hn : n ≤ 61) (hL : 1000 < L)
    (h : ∀ s n' zs' v5 v6 v7 v8 v9 v10 v11 v12, n' ≤ List.length zs' → n' ≤ 61 → kn s (Tt2 v n' (i + 1) v5 v6 v7 v8 v9 v10 v11 v12) [] (Aown (m_row zs')) = R) :
    run (SC r) 8189 89 L oTt (lvlT (SC r) tTt tm L 0) none kn kx kr s (Tt1 v n i) [] (Aown (m_row zs)) = R := by
  rw [oTt_run, ttB]
  simp only [dT hi2, cond_true]
  refine (ttC r L tm v n i zs _ _ _ _).trans ?_
  have g1 := okL_row' zs n hz (by omega)
  have g2 : 0 ≤ ((min 8 n : Nat) : Int) := by omega
  have g3 : Nat.ble (min 8 n) n = true := Nat.ble_eq_true_of_le (by omega)
  have ne : ∀ x : Int, (x != x) = false := fun x => by simp
  have fin : ∀ (s : List (Nat × Value)) (v5 v6 v7 v8 v9 v10 v11 : Value), cLoop (fun kl => run (SC r) 8189 89 L iTt (lvlT (SC r) tTt tm L 0) none kl (fun j => match Nat.beq j 2 with | true => run (SC r) 8189 89 L (rc (rc oTt)) (lvlT (SC r) tTt tm L 0) none kn kx kr | false => (match Nat.beq j 1 with | true => run (SC r) 8189 89 L (rc (rc oTt)) (lvlT (SC r) tTt tm L 0) none kn kx kr | false => kx j)) kr) L s (Tt2 v (min 8 n) i v5 v6 v7 v8 v9 v10 v11 (I ((0 : Nat) : Int))) [] (Aown (m_row zs)) = R := fun s v5 v6 v7 v8 v9 v10 v11 => by
    refine tt_inner r L _ _ _ v v5 v6 v7 v8 v9 v10 v11 (min 8 n) i R (by omega) L 0 zs s (by omega) (by omega) (by omega) fun s zs' v12 hl => ?_
    refine (ttE r L _ v v5 v6 v7 v8 v9 v10 v11 v12 (min 8 n) i _ _ kn kx kr).trans ?_
    have w : IntKind.wrap IntKind.i64 (i + Int.ofNat 1) = i + 1 := wrI (by simp; omega)
    rw [w]
    exact h _ _ zs' v5 v6 v7 v8 v9 v10 v11 v12 (by omega) (by omega)
  rcases tt_cases (m_row zs) 0 n with ⟨c1, c2, c3, c4⟩ | ⟨c1, c2, c3, c4, c5⟩ | ⟨c1, c2, c3, c4, c5⟩
  · have d : Int.ofNat n > 60 := by simp; omega
    cases hB : m_rB (m_row zs) 0 n <;>
    · simp only [g1, Bool.and_true, cond_true, cond_false, dT d, c2, c3, c4, ne, min8, dT g2, Int.toNat_natCast, g3]
      exact fin _ _ _ _ _ _ _ _
  · have d : ¬ Int.ofNat n > 60 := by simp; omega
    simp only [g1, Bool.and_true, cond_true, cond_false, dF d, c2, c3, c4, c5, ne, min8, dT g2, Int.toNat_natCast, g3]
    exact fin _ _ _ _ _ _ _ _
  · have d : ¬ Int.ofNat n > 60 := by simp; omega
    simp only [g1, Bool.and_true, cond_true, cond_false, dF d, c2, c3, c4, c5, ne, min8, dT g2, Int.toNat_natCast, g3]
    exact fin _ _ _ _ _ _ _ _

theorem tt_round2 (r : Mem) (L : Nat) (tm : Tr Nat) (kn : KS) (kx : Nat → KS) (kr : KS) (v v5 v6 v7 v8 v9 v10 v11 v12 : Value) (n : Nat) (i : Int) (zs : List Int) (s : List (Nat × Value)) (R : CR) (hi : 0 ≤ i) (hi2 : i < 2) (hz : n ≤ zs.length) (hn : n ≤ 61) (hL : 1000 < L)
    (h : ∀ s n' zs' v5 v6 v7 v8 v9 v10 v11 v12, n' ≤ List.length zs' → n' ≤ 61 → kn s (Tt2 v n' (i + 1) v5 v6 v7 v8 v9 v10 v11 v12) [] (Aown (m_row zs')) = R) :
    run (SC r) 8189 89 L oTt (lvlT (SC r) tTt tm L 0) none kn kx kr s (Tt2 v n i v5 v6 v7 v8 v9 v10 v11 v12) [] (Aown (m_row zs)) = R := by
  rw [oTt_run, ttB2]
  simp only [dT hi2, cond_true]
  refine (ttC2 r L tm v v5 v6 v7 v8 v9 v10 v11 v12 n i zs _ _ _ _).trans ?_
  have g1 := okL_row' zs n hz (by omega)
  have g2 : 0 ≤ ((min 8 n : Nat) : Int) := by omega
  have g3 : Nat.ble (min 8 n) n = true := Nat.ble_eq_true_of_le (by omega)
  have ne : ∀ x : Int, (x != x) = false := fun x => by simp
  have fin : ∀ (s : List (Nat × Value)) (v5 v6 v7 v8 v9 v10 v11 : Value), cLoop (fun kl => run (SC r) 8189 89 L iTt (lvlT (SC r) tTt tm L 0) none kl (fun j => match Nat.beq j 2 with | true => run (SC r) 8189 89 L (rc (rc oTt)) (lvlT (SC r) tTt tm L 0) none kn kx kr | false => (match Nat.beq j 1 with | true => run (SC r) 8189 89 L (rc (rc oTt)) (lvlT (SC r) tTt tm L 0) none kn kx kr | false => kx j)) kr) L s (Tt2 v (min 8 n) i v5 v6 v7 v8 v9 v10 v11 (I ((0 : Nat) : Int))) [] (Aown (m_row zs)) = R := fun s v5 v6 v7 v8 v9 v10 v11 => by
    refine tt_inner r L _ _ _ v v5 v6 v7 v8 v9 v10 v11 (min 8 n) i R (by omega) L 0 zs s (by omega) (by omega) (by omega) fun s zs' v12 hl => ?_
    refine (ttE r L _ v v5 v6 v7 v8 v9 v10 v11 v12 (min 8 n) i _ _ kn kx kr).trans ?_
    have w : IntKind.wrap IntKind.i64 (i + Int.ofNat 1) = i + 1 := wrI (by simp; omega)
    rw [w]
    exact h _ _ zs' v5 v6 v7 v8 v9 v10 v11 v12 (by omega) (by omega)
  rcases tt_cases (m_row zs) 0 n with ⟨c1, c2, c3, c4⟩ | ⟨c1, c2, c3, c4, c5⟩ | ⟨c1, c2, c3, c4, c5⟩
  · have d : Int.ofNat n > 60 := by simp; omega
    cases hB : m_rB (m_row zs) 0 n <;>
    · simp only [g1, Bool.and_true, cond_true, cond_false, dT d, c2, c3, c4, ne, min8, dT g2, Int.toNat_natCast, g3]
      exact fin _ _ _ _ _ _ _ _
  · have d : ¬ Int.ofNat n > 60 := by simp; omega
    simp only [g1, Bool.and_true, cond_true, cond_false, dF d, c2, c3, c4, c5, ne, min8, dT g2, Int.toNat_natCast, g3]
    exact fin _ _ _ _ _ _ _ _
  · have d : ¬ Int.ofNat n > 60 := by simp; omega
    simp only [g1, Bool.and_true, cond_true, cond_false, dF d, c2, c3, c4, c5, ne, min8, dT g2, Int.toNat_natCast, g3]
    exact fin _ _ _ _ _ _ _ _

theorem cTt_eq : cTt = .seq (lc cTt) (.seq (lc (rc cTt)) (.seq (lc (rc (rc cTt))) (.seq (.seq (lc (lc (rc (rc (rc cTt))))) (.block 0 (.loop oTt))) (rc (rc (rc (rc cTt))))))) := by kernel_rfl
def mskTt : Tr Nat := Tr.nil.put 7 (some 8189)

theorem tt_row (r : Mem) (hm : ∀ b j u, tabM b j = some u → r b j = some u) (b off len cap : Nat) (hl : len ≤ cap) (hc : cap ≤ maxLen) (hr : ∀ i, i < cap → ∃ z, r b (off + i) = some (I z)) : GrT Tryd.prog r 7 [RS b off len cap] (.bool true) := by
  have hcap : Nat.beq cap 9223372036854775809 = false := natF (by unfold maxLen at hc; omega)
  by_cases h0 : len = 0
  · subst h0
    refine GrT.of (SC_ok r) (tTt_ok r hm) .nil rfl ⟨4, 1, ?_⟩
    rw [ttZ, hcap]
    rfl
  · refine GrT.of (SC_ok r) (tTt_ok r hm) mskTt rfl ⟨1004, 1, ?_⟩
    rw [enterN (m := 8189) (n := 89) (rs := [.tmp 2]) cTt rfl (by kernel_rfl) (by kernel_rfl) (by kernel_rfl) (by kernel_rfl) (by kernel_rfl) rfl]
    rw [cTt_eq, seqA, seqA, run_pre, run_while]
    refine (ttA r b off len cap _ _ _ _ _).trans ?_
    have hM : (bif decide (61 < Int.ofNat len) then Int.ofNat 61 else Int.ofNat len) = ((min 61 len : Nat) : Int) := by
      by_cases c : 61 < len
      · have : (61 : Int) < Int.ofNat len := by simp; omega
        rw [dT this, cond_true, Nat.min_eq_left (by omega)]
        rfl
      · have : ¬ (61 : Int) < Int.ofNat len := by simp; omega
        rw [dF this, cond_false, Nat.min_eq_right (by omega)]
        rfl
    have hM' : (bif decide (61 < Int.ofNat len) then (61 : Int) else Int.ofNat len) = ((min 61 len : Nat) : Int) := hM
    have hn : 0 < min 61 len := by omega
    have hn61 : min 61 len ≤ 61 := by omega
    have hncap : min 61 len ≤ cap := by omega
    generalize min 61 len = n at *
    obtain ⟨zs, hzl, hz⟩ : ∃ zs : List Int, zs.length = n ∧ ∀ j, j < n → r b (off + j) = (m_row zs)[j]? := by
      refine ⟨(List.range n).map fun j => ofI ((r b (off + j)).getD undef), by simp, fun j hj => ?_⟩
      obtain ⟨z, e⟩ := hr j (by omega)
      rw [row_get _ _ (by simpa using hj)]
      simp [e, ofI]
    have g0 : 0 ≤ (n : Int) := by omega
    have g1 : Nat.ble n cap = true := Nat.ble_eq_true_of_le hncap
    have g2 : Nat.beq n 0 = false := natF (by omega)
    have g3 : Nat.ble n 1000000 = true := Nat.ble_eq_true_of_le (by omega)
    have g4 : takeF (r b) off n = some (m_row zs) := takeF_all _ _ _ _ (by rw [row_len, hzl]) hz
    have g5 : Nat.beq (List.length (m_row zs)) n = true := by rw [row_len, hzl]; exact Nat.beq_refl n
    have g6 : Nat.beq cap unkE = false := hcap
    have g7 : takeF ((SC r).ro b) off (n * TypeInfo.size Tryd.t2) = some (m_row zs) := by
      have e1 : TypeInfo.size Tryd.t2 = 1 := by kernel_rfl
      rw [e1, Nat.mul_one]
      exact g4
    simp only [hM, hM', dT g0, cond_true, hcap, cond_false, Int.toNat_natCast, g1, g2, Nat.sub_eq, Nat.sub_zero, Nat.add_eq, Nat.zero_add, g3, Nat.mul_eq, Nat.mul_one, Nat.zero_mul, Nat.add_zero]
    rw [g6]
    simp only [g7, g5, cond_true]
    rw [show ∀ F, cLoop F 1004 = F (cLoop F 1003) from fun _ => rfl]
    refine (show _ = _ from tt_round1 r 1004 mskTt _ _ _ (RS b off len cap) n 0 zs _ _ (by omega) (by omega) (by omega) hn61 (by omega) fun s n' zs' v5 v6 v7 v8 v9 v10 v11 v12 h1 h2 => ?_)
    rw [show ∀ F, cLoop F 1003 = F (cLoop F 1002) from fun _ => rfl]
    refine (show _ = _ from tt_round2 r 1004 mskTt _ _ _ (RS b off len cap) v5 v6 v7 v8 v9 v10 v11 v12 n' (0 + 1) zs' _ _ (by omega) (by omega) h1 h2 (by omega) fun s n' zs' v5 v6 v7 v8 v9 v10 v11 v12 h1 h2 => ?_)
    rw [show ∀ F, cLoop F 1002 = F (cLoop F 1001) from fun _ => rfl]
    rw [oTt_run]
    refine (ttB2 r _ _ _ _ _ _ _ _ _ _ _ _ _ _ _ _ _ _).trans ?_
    have hd : ¬ ((0 : Int) + 1 + 1 < 2) := by omega
    simp only [dF hd, cond_false]
    exact ttF r _ _ _ _ _ _ _ _ _ _ _ _ _ _ _

theorem law_terms (r : Mem) (hm : ∀ b j u, tabM b j = some u → r b j = some u) (u0 : Value) (s0 : ArgRowT r 1 (ArgInt .i64) u0) : GrT Tryd.prog r 7 [u0] (.bool true) := by
  cases s0 with
  | nil =>
    refine GrT.of (SC_ok r) (tTt_ok r hm) .nil rfl ⟨4, 1, ?_⟩
    rw [ttN]
    rfl
  | row b off len cap hl hc h =>
    refine tt_row r hm b off len cap hl hc fun i hi => ?_
    obtain ⟨u, hu, z, rfl, _⟩ := h i (by omega)
    exact ⟨z, hu⟩

end Go.Proofs

/- The reference's crossings, rows compared: what the calls answer. -/
namespace Go.Proofs
open Go Go.Ev Go.Num

theorem lsum_nonneg : ∀ l : List Int, (∀ t ∈ l, 0 ≤ t) → 0 ≤ lsum l
  | [], _ => by simp [lsum]
  | t :: l, h => by
    have h1 := h t (List.mem_cons_self ..)
    have h2 := lsum_nonneg l fun x hx => h x (List.mem_cons_of_mem _ hx)
    simp only [lsum]
    omega

theorem rc_loop (r : Mem) (L : Nat) (fs : FnsC) (kx : Nat → KS) (kr : KS) (p q : Int) (zs : List Int) (hz : ∀ t ∈ zs, 0 ≤ t) (hn : zs.length ≤ 1000000) (S : Int) (hS : S ≤ 4000000) (R : CR) : ∀ (j k : Nat) (z : Int) (s : List (Nat × Value)), k ≤ zs.length → zs.length - k < j → 0 ≤ z → z + lsum (zs.drop k) = S →
    (∀ s i, kx 0 s (TRc p q zs.length S i) [] (ARm (m_row zs)) = R) →
    cLoop (fun kl => run (SC r) 243 24 L (ic (ic (rc (lc (rc (rc (rc cRc))))))) fs none kl kx kr) j s (TRc p q zs.length z k) [] (ARm (m_row zs)) = R := by
  intro j
  induction j with
  | zero => intro k z s _ h; omega
  | succ j ih =>
    intro k z s hk hj h0 hsum hx
    rw [cLoop_succ, rcB1]
    by_cases c : k < zs.length
    · have c1 : (k : Int) < Int.ofNat zs.length := by simp; omega
      have c2 : 0 ≤ (k : Int) := by omega
      have c3 : Nat.blt k zs.length = true := Nat.ble_eq_true_of_le (by omega)
      have w : IntKind.wrap IntKind.i64 ((k : Int) + Int.ofNat 1) = ((k + 1 : Nat) : Int) := by rw [wrI (by simp; omega)]; simp
      have hd : zs.drop k = zs[k] :: zs.drop (k + 1) := List.drop_eq_getElem_cons c
      rw [hd] at hsum
      simp only [lsum] at hsum
      have hz0 := hz zs[k] (List.getElem_mem c)
      have hr := lsum_nonneg (zs.drop (k + 1)) fun t ht => hz t (List.mem_of_mem_drop ht)
      have w2 : IntKind.wrap IntKind.i64 (z + zs[k]) = z + zs[k] := wrI (by omega)
      simp only [dT c1, dT c2, cond_true, Int.toNat_natCast, c3, Nat.add_eq, Nat.mul_eq, Nat.mul_one, Nat.zero_add, row_get zs k c, isI, ofI, decide_true, w, w2]
      exact ih (k + 1) (z + zs[k]) _ (by omega) (by omega) (by omega) (by omega) hx
    · have c1 : ¬ (k : Int) < Int.ofNat zs.length := by simp; omega
      simp only [dF c1, cond_false]
      have : zs.drop k = [] := List.drop_eq_nil_of_le (by omega)
      rw [this] at hsum
      have hzS : z = S := by simpa [lsum] using hsum
      subst hzS
      exact hx _ _

theorem rTermsE_ok (r : Mem) : EOk (SC r) 32 eRTerms := fun args A hg F hF k γ W args' hw hR ha => by
  simp only [eRTerms] at hg
  split at hg
  · rename_i p q
    have hl := (link_iff p q).1 hg
    refine ⟨fun hc => ?_, fun hc => ?_⟩
    · have hq : 0 < q := by simpa [eRTerms, m_pos] using hc
      exact (rTerms_row r p q (by omega) hq (by omega) (by omega)).ends (γ := γ) (A := A) rfl (gnds_of (row_gnd _)) hF hw (hR.noG noG fun _ => rfl) (by have := ha.eq_of_gnds (by rfl); rw [this]; exact VsRel.of_gnds _ _ rfl) ha
    · have hq : ¬ 0 < q := by simpa [eRTerms, m_pos] using hc
      have hq0 : q = 0 := by omega
      subst hq0
      have hp : p = 1 := by
        have := hl.2.2.2.2
        simp at this
        omega
      subst hp
      exact ((rTerms_one.any r).ro (C := SC r) rfl A).ends hF hw hR ha
  · cases hg

theorem cRc_eq : cRc = .seq (lc cRc) (.seq (lc (rc cRc)) (.seq (lc (rc (rc cRc))) (.seq (.seq (lc (lc (rc (rc (rc cRc))))) (.block 0 (.loop (ic (ic (rc (lc (rc (rc (rc cRc)))))))))) (rc (rc (rc (rc cRc))))))) := by kernel_rfl
def mskRc : Tr Nat := (Tr.nil.put 33 (some 243)).put 31 (some 51)

theorem rCross_one : GrT Tryd.prog (fun _ _ => none) 33 [I 1, I 0] (I 0) := GrT.closed evMixed evNames .nil 1000 40 (by kernel_rfl)

theorem rCross_ok (r : Mem) (p q : Int) (h : m_link p q = true) : GrT Tryd.prog r 33 [I p, I q] (I (m_cs p q)) := by
  have hl := (link_iff p q).1 h
  by_cases hq : 0 < q
  · refine GrT.of (SC_ok r) (show TOk (SC r) tRc from TOk.cons TOk.nil (rTermsE_ok r)) mskRc rfl ⟨(terms p q).length + 1, 1, ?_⟩
    rw [enterN (m := 243) (n := 24) (rs := [.tmp 4]) cRc rfl (by kernel_rfl) (by kernel_rfl) (by kernel_rfl) (by kernel_rfl) (by kernel_rfl) rfl]
    generalize hk : finK (SC r) 243 [.tmp 4] fin = kr
    rw [cRc_eq, seqA, seqA, run_pre, run_while]
    refine (rcA1 r _ _ p q _ _ _).trans ?_
    have hp : m_pos q = true := dT hq
    simp only [h, hp, cond_true]
    have hs := terms_short 20 p q hl.2.2.1 hl.2.2.2.1 (by omega)
    have hpos := terms_pos p q (by omega) (by omega)
    have hsum := lsum_terms p q
    have hb := csum_le p q (by omega) (by omega)
    refine (show _ = _ from rc_loop r _ _ _ _ p q (terms p q) (fun t ht => by have := hpos t ht; omega) (by omega) (csum p q) (by omega) _ ((terms p q).length + 1) 0 0 _ (by omega) (by omega) (by omega) (by simpa using hsum) fun s i => ?_)
    refine (rcC1 r _ _ p q _ _ _ _ _ _ _ _).trans ?_
    subst hk
    rfl
  · have hq0 : q = 0 := by omega
    subst hq0
    have hp : p = 1 := by
      have := hl.2.2.2.2
      simp at this
      omega
    subst hp
    have e : m_cs 1 0 = 0 := by unfold m_cs; rw [csum, dif_neg (by omega)]
    rw [e]
    exact rCross_one.any r

theorem ln_loop (r : Mem) (L : Nat) (fs : FnsC) (kx : Nat → KS) (kr : KS) (b off len cap b' off' cap' : Nat) (z : Nat → Int) (h1 : ∀ j, j < len → r b (off + j) = some (I (z j))) (h2 : ∀ j, j < len → r b' (off' + j) = some (I (z j))) (hl : len ≤ 9223372036854775807) (R : CR) : ∀ (j k : Nat) (s : List (Nat × Value)), k ≤ len → len - k < j →
    (∀ s i, kx 0 s (TLn (RS b off len cap) (RS b' off' len cap') i) [] emptyA = R) →
    cLoop (fun kl => run (SC r) 51 26 L (ic (ic (rc (lc (rc (rc cLn)))))) fs none kl kx kr) j s (TLn (RS b off len cap) (RS b' off' len cap') k) [] emptyA = R := by
  intro j
  induction j with
  | zero => intro k s _ h; omega
  | succ j ih =>
    intro k s hk hj hx
    rw [cLoop_succ, lnB]
    by_cases c : k < len
    · have c1 : (k : Int) < Int.ofNat len := by simp; omega
      have c2 : 0 ≤ (k : Int) := by omega
      have c3 : Nat.blt k len = true := Nat.ble_eq_true_of_le (by omega)
      have w : IntKind.wrap IntKind.i64 ((k : Int) + Int.ofNat 1) = ((k + 1 : Nat) : Int) := by rw [wrI (by simp; omega)]; simp
      have ne : ∀ x : Int, (x != x) = false := fun x => by simp
      simp only [dT c1, dT c2, cond_true, Int.toNat_natCast, c3, Nat.add_eq, Nat.mul_eq, Nat.mul_one, h1 k c, h2 k c, isI, ofI, decide_true, w, ne, cond_false]
      exact ih (k + 1) _ (by omega) (by omega) hx
    · have c1 : ¬ (k : Int) < Int.ofNat len := by simp; omega
      simp only [dF c1, cond_false]
      exact hx _ _

theorem cLn_eq : cLn = .seq (lc cLn) (.seq (lc (rc cLn)) (.seq (.seq (lc (lc (rc (rc cLn)))) (.block 0 (.loop (ic (ic (rc (lc (rc (rc cLn))))))))) (rc (rc (rc cLn))))) := by kernel_rfl

theorem longs_ok (r : Mem) (b off len cap b' off' cap' : Nat) (z : Nat → Int) (h1 : ∀ j, j < len → r b (off + j) = some (I (z j))) (h2 : ∀ j, j < len → r b' (off' + j) = some (I (z j))) (hl : len ≤ 9223372036854775807) :
    GrT Tryd.prog r 31 [RS b off len cap, RS b' off' len cap'] (.bool true) :=
  GrT.of (SC_ok r) TOk.nil mskRc rfl ⟨len + 1, 1, by
    rw [enterN (m := 51) (n := 26) (rs := [.tmp 4]) cLn rfl (by kernel_rfl) (by kernel_rfl) (by kernel_rfl) (by kernel_rfl) (by kernel_rfl) rfl]
    generalize hk : finK (SC r) 51 [.tmp 4] fin = kr
    rw [cLn_eq, seqA, run_pre, run_while]
    refine (lnA r _ _ b off len cap b' off' len cap' _ _ _).trans ?_
    have ne : (Int.ofNat len != Int.ofNat len) = false := by simp
    simp only [ne, cond_false]
    refine (show _ = _ from ln_loop r _ _ _ _ b off len cap b' off' cap' z h1 h2 hl _ (len + 1) 0 _ (by omega) (by omega) fun s i => ?_)
    refine (lnC r _ _ b off len cap b' off' len cap' _ _ _ _ _).trans ?_
    subst hk
    rfl⟩

theorem longs_nil : GrT Tryd.prog (fun _ _ => none) 31 [.slice none 0 0, .slice none 0 0] (.bool true) := GrT.closed evMixed evNames .nil 1000 40 (by kernel_rfl)

/-- Two rows of the caller's that hold the same. -/
noncomputable def m_sameL (c : List Value) (k len : Nat) (c' : List Value) (k' len' : Nat) : Bool := @decide (len = len' ∧ len ≤ 9223372036854775807 ∧ ∀ j, j < len → ∃ z, c[k + j]? = some (I z) ∧ c'[k' + j]? = some (I z)) (Classical.propDecidable _)
noncomputable def eLongs : Ent := ent
  (fun args A => match args with
    | [.slice none 0 0, .slice none 0 0] => true
    | [.slice (some ⟨i, k, none⟩) len cap, .slice (some ⟨i', k', none⟩) len' cap'] => match A.heap.get i with
      | some (.cells c _ _ _) => match A.heap.get i' with
        | some (.cells c' _ _ _) => m_sameL c k len c' k' len' && (!Nat.beq cap unkE && !Nat.beq cap' unkE)
        | _ => false
      | _ => false
    | _ => false)
  (fun _ _ => .bool true)

theorem longsE_ok (r : Mem) : EOk (SC r) 31 eLongs := EOk.ent fun args A hg => by
  split at hg
  · exact (longs_nil.any r).ro (C := SC r) rfl A
  · rename_i i k len cap i' k' len' cap'
    split at hg
    · rename_i c e f z hget
      split at hg
      case h_2 => cases hg
      rename_i c' e' f' z' hget'
      simp only [Bool.and_eq_true, Bool.not_eq_true'] at hg
      obtain ⟨rfl, h1, h2⟩ := @of_decide_eq_true _ (Classical.propDecidable _) hg.1
      refine POk.of rfl fun γ W args' hw hR ha => ?_
      cases ha' : args'.toList with
      | nil => rw [ha'] at ha; cases ha
      | cons v' rest =>
        rw [ha'] at ha
        cases ha with
        | cons hv hrest =>
          cases hrest with
          | cons hv2 hnil =>
            cases hnil
            obtain ⟨b, kk, cc, rfl, hrd⟩ := rd_world hw hR hv hg.2.1
            obtain ⟨b2, kk2, cc2, rfl, hrd2⟩ := rd_world hw hR hv2 hg.2.2
            refine ⟨memW W, [RS b kk len 0, RS b2 kk2 len 0], memW_ro W, .cons (.sliceRo _ _ _ _ _ _ (by decide) (Nat.zero_le _)) (.cons (.sliceRo _ _ _ _ _ _ (by decide) (Nat.zero_le _)) .nil), ?_⟩
            refine longs_ok (memW W) b kk len 0 b2 kk2 0 (fun j => zAt c (k + j)) (fun j hj => ?_) (fun j hj => ?_) h1
            · obtain ⟨z, hz, _⟩ := h2 j hj
              have e1 : zAt c (k + j) = z := by unfold zAt; rw [hz]
              rw [e1]
              refine hrd j _ ?_ rfl
              simp only [AW.rd, AW.cell, hget]
              exact hz
            · obtain ⟨z, hz, hz2⟩ := h2 j hj
              have e1 : zAt c (k + j) = z := by unfold zAt; rw [hz]
              rw [e1]
              refine hrd2 j _ ?_ rfl
              simp only [AW.rd, AW.cell, hget']
              exact hz2
    · cases hg
  · cases hg

end Go.Proofs

/- The law of links, run. -/
namespace Go.Proofs
open Go Go.Ev Go.Num
set_option linter.unusedVariables false

def m_lkE (p q : Int) : Int := if link p q then 0 else 61
def m_lkP (p q : Int) : Int := if link p q then p else 0
def m_lkF (p q : Int) : Int := if link p q then fst p q else 0
def m_lkM (p q : Int) : Bool := link p q && m_mir p q
def m_lkC (p q : Int) : Int := if link p q then csum p q else 0
def m_lkR (p q : Int) : Bool := link p q && m_pos q

def eNo : Ent := ent (fun _ _ => false) fun _ _ => undef
theorem eNo_ok {C : Cfg} {f : Nat} : EOk C f eNo := EOk.ent fun _ _ h => nomatch h
def tNo : Tbl := tcons 74 eLink (tcons 78 eNo fun _ => none)

def tCk : Tbl := tcons 74 eLink fun _ => none
theorem ckA (r : Mem) (p q : Int) : (lvlT (SC r) tCk .nil 8 4).call 23 [I p, I q] emptyA fin =
    bif m_eqv (Value.int IntKind.i64 q) (Value.int IntKind.i64 q) then bif m_eqv (Value.int IntKind.i64 q) (Value.int IntKind.i64 q) then bif m_eqv (Value.int IntKind.i64 p) (Value.int IntKind.i64 p) then bif m_eqv (Value.int IntKind.i64 p) (Value.int IntKind.i64 p) then bif m_link p q then CR.ret (Value.int IntKind.i64 (Int.ofNat 0)) (AW.mk 0 Tr.nil Tr.nil) else CR.ret (Value.int IntKind.i64 (Int.ofNat 61)) (AW.mk 0 Tr.nil Tr.nil) else CR.fail 420 else CR.fail 420 else CR.fail 420 else CR.fail 420 := by kernel_rfl

theorem rmirA (r : Mem) (L : Nat) (p q : Int) : (lvlT (SC r) (tcons 36 (eI4 (fun a b c d => m_link a b && m_link c d) fun a b c d => .bool (m_same a b c d)) fun _ => none) .nil L 1).call 30 [I p, I q] emptyA fin =
    bif p == Int.ofNat 1 then CR.ret (Value.bool true) (AW.mk 0 Tr.nil Tr.nil) else bif m_link p q && m_link p (IntKind.wrap IntKind.i64 (p - q)) then bif m_same p q p (IntKind.wrap IntKind.i64 (p - q)) then CR.ret (Value.bool true) (AW.mk 0 Tr.nil Tr.nil) else CR.ret (Value.bool false) (AW.mk 0 Tr.nil Tr.nil) else CR.fail 420 := by kernel_rfl

theorem crNo (r : Mem) (p q : Int) : (lvlT (SC r) tNo mskCr 8 4).call 27 [I p, I q] emptyA fin =
    bif m_eqv (Value.int IntKind.i64 q) (Value.int IntKind.i64 q) then bif m_eqv (Value.int IntKind.i64 q) (Value.int IntKind.i64 q) then bif m_eqv (Value.int IntKind.i64 p) (Value.int IntKind.i64 p) then bif m_eqv (Value.int IntKind.i64 p) (Value.int IntKind.i64 p) then bif m_link p q then CR.fail 420 else CR.ret (Value.tuple (Array.mk [Value.int IntKind.i64 (Int.ofNat 0), Value.int IntKind.i64 (Int.ofNat 61)])) (AW.mk 0 Tr.nil Tr.nil) else CR.fail 420 else CR.fail 420 else CR.fail 420 else CR.fail 420 := by kernel_rfl

theorem tmNo (r : Mem) (p q : Int) : (lvlT (SC r) tNo mskTm 8 6).call 26 [I p, I q] emptyA fin =
    bif m_eqv (Value.int IntKind.i64 q) (Value.int IntKind.i64 q) then bif m_eqv (Value.int IntKind.i64 q) (Value.int IntKind.i64 q) then bif m_eqv (Value.int IntKind.i64 p) (Value.int IntKind.i64 p) then bif m_eqv (Value.int IntKind.i64 p) (Value.int IntKind.i64 p) then bif m_link p q then CR.fail 420 else CR.ret (Value.tuple (Array.mk [Value.slice none 0 0, Value.int IntKind.i64 (Int.ofNat 61)])) (AW.mk 0 Tr.nil Tr.nil) else CR.fail 420 else CR.fail 420 else CR.fail 420 else CR.fail 420 := by kernel_rfl

def eTermsE : Ent := ⟨fun args _ => match args with | [.int .i64 p, .int .i64 q] => true | _ => false, fun args _ => match args with | [.int .i64 p, .int .i64 q] => m_lkR p q | _ => false,
  fun args A => match args with | [.int .i64 p, .int .i64 q] => .tuple ⟨[.slice (some ⟨A.next, 0, none⟩) (m_tmN p q) unk, I 0]⟩ | _ => undef, fun args A => match args with | [.int .i64 p, .int .i64 q] => A.new (.cells (m_tm p q) 2 A.next 1) | _ => A,
  fun args _ => match args with | [.int .i64 p, .int .i64 q] => .tuple ⟨[.slice none 0 0, I (m_lkE p q)]⟩ | _ => undef, fun _ A => A⟩
noncomputable def tLk : Tbl := tcons 23 (eI2 (fun _ _ => true) fun p q => I (m_lkE p q)) (tcons 24 (eI2 (fun _ _ => true) fun p q => .tuple ⟨[I (m_lkP p q), I (m_lkF p q), I (m_lkE p q)]⟩)
  (tcons 25 (eI2 (fun _ _ => true) fun p q => .tuple ⟨[.bool (m_lkM p q), I (m_lkE p q)]⟩) (tcons 26 eTermsE (tcons 27 (eI2 (fun _ _ => true) fun p q => .tuple ⟨[I (m_lkC p q), I (m_lkE p q)]⟩)
  (tcons 28 (eI2 (fun _ _ => true) fun a b => .bool (m_link a b)) (tcons 29 (eI2 m_link fun p q => .tuple ⟨[I p, I (m_fst p q)]⟩) (tcons 30 (eI2 m_link fun p q => .bool (m_mir p q))
  (tcons 32 eRTerms (tcons 33 (eI2 m_link fun p q => I (m_cs p q)) (tcons 31 eLongs (tcons 34 (eI2 (fun a b => decide (0 ≤ a) && decide (0 ≤ b)) fun a b => I (m_gcd a b))
  (tcons 18 (e0 (.bool true)) fun _ => none))))))))))))

noncomputable def cLk : Code := bodyOf S0 5
noncomputable def oLk : Code := ic (ic (rc (lc (rc cLk))))
noncomputable def xLk : Code := ic (lc (rc oLk))
noncomputable def pLk : Code := .seq (.seq (.seq (.seq (.seq (.seq (.seq (lc xLk) (lc (rc xLk))) (lc (rc (rc xLk)))) (lc (rc (rc (rc xLk))))) (lc (rc (rc (rc (rc xLk)))))) (lc (rc (rc (rc (rc (rc xLk))))))) (lc (rc (rc (rc (rc (rc (rc xLk)))))))) (lc (rc (rc (rc (rc (rc (rc (rc xLk))))))))
noncomputable def iLk : Code := ic (ic (rc (rc (rc (rc (rc (rc (rc (rc xLk)))))))))

def TLk (p q i : Int) : Tr Value := .node (.node .nil (some (I q)) (.node .nil (some (I i)) .nil)) (some (I p)) (.node (.node .nil (some (.bool false)) .nil) none .nil)

def TLk0 (p q : Int) : Tr Value := .node (.node .nil (some (I q)) .nil) (some (I p)) (.node (.node .nil (some (.bool false)) .nil) none .nil)
theorem lkA (r : Mem) (L : Nat) (fs : FnsC) (p q : Int) (kn : KS) (kx : Nat → KS) (kr : KS) : run (SC r) 262131 168 L (lc cLk) fs none kn kx kr (sc0 262131 [I p, I q]) (tr0 262131 [I p, I q]) [] emptyA =
    kn [] (Tr.node (Tr.node Tr.nil (some (Value.int IntKind.i64 q)) Tr.nil) (some (Value.int IntKind.i64 p)) (Tr.node (Tr.node Tr.nil (some (Value.bool false)) Tr.nil) none Tr.nil)) [] (AW.mk 0 Tr.nil Tr.nil) := by kernel_rfl

theorem lkA2 (r : Mem) (L : Nat) (fs : FnsC) (p q : Int) (s : List (Nat × Value)) (kn : KS) (kx : Nat → KS) (kr : KS) : run (SC r) 262131 168 L (lc (lc (rc cLk))) fs none kn kx kr s (TLk0 p q) [] emptyA =
    kn [] (Tr.node (Tr.node Tr.nil (some (Value.int IntKind.i64 q)) (Tr.node Tr.nil (some (Value.int IntKind.i64 (Int.ofNat 0))) Tr.nil)) (some (Value.int IntKind.i64 p)) (Tr.node (Tr.node Tr.nil (some (Value.bool false)) Tr.nil) none Tr.nil)) [] (AW.mk 0 Tr.nil Tr.nil) := by kernel_rfl

theorem lkB (r : Mem) (L : Nat) (fs : FnsC) (p q i : Int) (s : List (Nat × Value)) (kn : KS) (kx : Nat → KS) (kr : KS) : run (SC r) 262131 168 L (lc oLk) fs none kn kx kr s (TLk p q i) [] emptyA =
    bif decide (i < 2) then kn [(19, Value.bool true), (18, Value.int IntKind.i64 i)] (Tr.node (Tr.node Tr.nil (some (Value.int IntKind.i64 q)) (Tr.node Tr.nil (some (Value.int IntKind.i64 i)) Tr.nil)) (some (Value.int IntKind.i64 p)) (Tr.node (Tr.node Tr.nil (some (Value.bool false)) Tr.nil) none Tr.nil)) [] (AW.mk 0 Tr.nil Tr.nil) else kx 0 [(19, Value.bool false), (18, Value.int IntKind.i64 i)] (Tr.node (Tr.node Tr.nil (some (Value.int IntKind.i64 q)) (Tr.node Tr.nil (some (Value.int IntKind.i64 i)) Tr.nil)) (some (Value.int IntKind.i64 p)) (Tr.node (Tr.node Tr.nil (some (Value.bool false)) Tr.nil) none Tr.nil)) [] (AW.mk 0 Tr.nil Tr.nil) := by kernel_rfl

theorem lkC (r : Mem) (L : Nat) (tm : Tr Nat) (p q i : Int) (s : List (Nat × Value)) (kn : KS) (kx : Nat → KS) (kr : KS) : run (SC r) 262131 168 L pLk (lvlT (SC r) tLk tm L 0) none kn kx kr s (TLk p q i) [] emptyA =
    bif m_lkM p q then bif m_lkR p q then bif m_link p q then bif m_link p q then bif m_lkE p q != Int.ofNat 0 then kr [] (Tr.node (Tr.node (Tr.node (Tr.node (Tr.node Tr.nil (some (Value.int IntKind.i64 (m_lkE p q))) Tr.nil) (some (Value.int IntKind.i64 (m_lkP p q))) Tr.nil) none (Tr.node Tr.nil (some (Value.int IntKind.i64 (m_lkE p q))) Tr.nil)) (some (Value.int IntKind.i64 q)) (Tr.node (Tr.node (Tr.node Tr.nil (some (Value.int IntKind.i64 (m_fst p q))) Tr.nil) (some (Value.int IntKind.i64 (m_lkE p q))) Tr.nil) (some (Value.int IntKind.i64 i)) (Tr.node Tr.nil (some (Value.int IntKind.i64 (Int.ofNat 0))) Tr.nil))) (some (Value.int IntKind.i64 p)) (Tr.node (Tr.node (Tr.node (Tr.node Tr.nil (some (Value.int IntKind.i64 p)) Tr.nil) (some (Value.int IntKind.i64 (m_lkF p q))) Tr.nil) (some (Value.bool false)) (Tr.node Tr.nil (some (Value.slice (some (Addr.mk 0 0 none)) (m_tmN p q) 9223372036854775808)) Tr.nil)) none (Tr.node (Tr.node Tr.nil (some (Value.bool true)) Tr.nil) (some (Value.int IntKind.i64 (m_lkE p q))) (Tr.node Tr.nil (some (Value.int IntKind.i64 (m_lkC p q))) Tr.nil)))) [] (AW.mk 1 (Tr.node Tr.nil (some (AObj.cells (m_tm p q) 2 0 1)) Tr.nil) Tr.nil) else bif m_lkE p q != Int.ofNat 0 then kr [] (Tr.node (Tr.node (Tr.node (Tr.node (Tr.node Tr.nil (some (Value.int IntKind.i64 (m_lkE p q))) Tr.nil) (some (Value.int IntKind.i64 (m_lkP p q))) Tr.nil) none (Tr.node Tr.nil (some (Value.int IntKind.i64 (m_lkE p q))) Tr.nil)) (some (Value.int IntKind.i64 q)) (Tr.node (Tr.node (Tr.node Tr.nil (some (Value.int IntKind.i64 (m_fst p q))) Tr.nil) (some (Value.int IntKind.i64 (m_lkE p q))) Tr.nil) (some (Value.int IntKind.i64 i)) (Tr.node Tr.nil (some (Value.int IntKind.i64 (Int.ofNat 0))) Tr.nil))) (some (Value.int IntKind.i64 p)) (Tr.node (Tr.node (Tr.node (Tr.node Tr.nil (some (Value.int IntKind.i64 p)) Tr.nil) (some (Value.int IntKind.i64 (m_lkF p q))) Tr.nil) (some (Value.bool false)) (Tr.node Tr.nil (some (Value.slice (some (Addr.mk 0 0 none)) (m_tmN p q) 9223372036854775808)) Tr.nil)) none (Tr.node (Tr.node Tr.nil (some (Value.bool true)) Tr.nil) (some (Value.int IntKind.i64 (m_lkE p q))) (Tr.node Tr.nil (some (Value.int IntKind.i64 (m_lkC p q))) Tr.nil)))) [] (AW.mk 1 (Tr.node Tr.nil (some (AObj.cells (m_tm p q) 2 0 1)) Tr.nil) Tr.nil) else bif m_lkE p q != Int.ofNat 0 then kr [] (Tr.node (Tr.node (Tr.node (Tr.node (Tr.node Tr.nil (some (Value.int IntKind.i64 (m_lkE p q))) Tr.nil) (some (Value.int IntKind.i64 (m_lkP p q))) Tr.nil) none (Tr.node Tr.nil (some (Value.int IntKind.i64 (m_lkE p q))) Tr.nil)) (some (Value.int IntKind.i64 q)) (Tr.node (Tr.node (Tr.node Tr.nil (some (Value.int IntKind.i64 (m_fst p q))) Tr.nil) (some (Value.int IntKind.i64 (m_lkE p q))) Tr.nil) (some (Value.int IntKind.i64 i)) (Tr.node Tr.nil (some (Value.int IntKind.i64 (Int.ofNat 0))) Tr.nil))) (some (Value.int IntKind.i64 p)) (Tr.node (Tr.node (Tr.node (Tr.node Tr.nil (some (Value.int IntKind.i64 p)) Tr.nil) (some (Value.int IntKind.i64 (m_lkF p q))) Tr.nil) (some (Value.bool false)) (Tr.node Tr.nil (some (Value.slice (some (Addr.mk 0 0 none)) (m_tmN p q) 9223372036854775808)) Tr.nil)) none (Tr.node (Tr.node Tr.nil (some (Value.bool true)) Tr.nil) (some (Value.int IntKind.i64 (m_lkE p q))) (Tr.node Tr.nil (some (Value.int IntKind.i64 (m_lkC p q))) Tr.nil)))) [] (AW.mk 1 (Tr.node Tr.nil (some (AObj.cells (m_tm p q) 2 0 1)) Tr.nil) Tr.nil) else bif m_lkE p q != Int.ofNat 0 then kr [] (Tr.node (Tr.node (Tr.node (Tr.node (Tr.node Tr.nil (some (Value.int IntKind.i64 (m_lkE p q))) Tr.nil) (some (Value.int IntKind.i64 (m_lkP p q))) Tr.nil) none (Tr.node Tr.nil (some (Value.int IntKind.i64 (m_lkE p q))) Tr.nil)) (some (Value.int IntKind.i64 q)) (Tr.node (Tr.node (Tr.node Tr.nil (some (Value.int IntKind.i64 (m_fst p q))) Tr.nil) (some (Value.int IntKind.i64 (m_lkE p q))) Tr.nil) (some (Value.int IntKind.i64 i)) (Tr.node Tr.nil (some (Value.int IntKind.i64 (Int.ofNat 0))) Tr.nil))) (some (Value.int IntKind.i64 p)) (Tr.node (Tr.node (Tr.node (Tr.node Tr.nil (some (Value.int IntKind.i64 p)) Tr.nil) (some (Value.int IntKind.i64 (m_lkF p q))) Tr.nil) (some (Value.bool false)) (Tr.node Tr.nil (some (Value.slice (some (Addr.mk 0 0 none)) (m_tmN p q) 9223372036854775808)) Tr.nil)) none (Tr.node (Tr.node Tr.nil (some (Value.bool true)) Tr.nil) (some (Value.int IntKind.i64 (m_lkE p q))) (Tr.node Tr.nil (some (Value.int IntKind.i64 (m_lkC p q))) Tr.nil)))) [] (AW.mk 1 (Tr.node Tr.nil (some (AObj.cells (m_tm p q) 2 0 1)) Tr.nil) Tr.nil) else bif m_lkP p q != p then kr [] (Tr.node (Tr.node (Tr.node (Tr.node (Tr.node Tr.nil (some (Value.int IntKind.i64 (m_lkE p q))) Tr.nil) (some (Value.int IntKind.i64 (m_lkP p q))) Tr.nil) none (Tr.node Tr.nil (some (Value.int IntKind.i64 (m_lkE p q))) Tr.nil)) (some (Value.int IntKind.i64 q)) (Tr.node (Tr.node (Tr.node Tr.nil (some (Value.int IntKind.i64 (m_fst p q))) Tr.nil) (some (Value.int IntKind.i64 (m_lkE p q))) Tr.nil) (some (Value.int IntKind.i64 i)) (Tr.node Tr.nil (some (Value.int IntKind.i64 (Int.ofNat 0))) Tr.nil))) (some (Value.int IntKind.i64 p)) (Tr.node (Tr.node (Tr.node (Tr.node Tr.nil (some (Value.int IntKind.i64 p)) Tr.nil) (some (Value.int IntKind.i64 (m_lkF p q))) Tr.nil) (some (Value.bool false)) (Tr.node Tr.nil (some (Value.slice (some (Addr.mk 0 0 none)) (m_tmN p q) 9223372036854775808)) Tr.nil)) none (Tr.node (Tr.node Tr.nil (some (Value.bool true)) Tr.nil) (some (Value.int IntKind.i64 (m_lkE p q))) (Tr.node Tr.nil (some (Value.int IntKind.i64 (m_lkC p q))) Tr.nil)))) [] (AW.mk 1 (Tr.node Tr.nil (some (AObj.cells (m_tm p q) 2 0 1)) Tr.nil) Tr.nil) else bif m_lkF p q != m_fst p q then kr [] (Tr.node (Tr.node (Tr.node (Tr.node (Tr.node Tr.nil (some (Value.int IntKind.i64 (m_lkE p q))) Tr.nil) (some (Value.int IntKind.i64 (m_lkP p q))) Tr.nil) none (Tr.node Tr.nil (some (Value.int IntKind.i64 (m_lkE p q))) Tr.nil)) (some (Value.int IntKind.i64 q)) (Tr.node (Tr.node (Tr.node Tr.nil (some (Value.int IntKind.i64 (m_fst p q))) Tr.nil) (some (Value.int IntKind.i64 (m_lkE p q))) Tr.nil) (some (Value.int IntKind.i64 i)) (Tr.node Tr.nil (some (Value.int IntKind.i64 (Int.ofNat 0))) Tr.nil))) (some (Value.int IntKind.i64 p)) (Tr.node (Tr.node (Tr.node (Tr.node Tr.nil (some (Value.int IntKind.i64 p)) Tr.nil) (some (Value.int IntKind.i64 (m_lkF p q))) Tr.nil) (some (Value.bool false)) (Tr.node Tr.nil (some (Value.slice (some (Addr.mk 0 0 none)) (m_tmN p q) 9223372036854775808)) Tr.nil)) none (Tr.node (Tr.node Tr.nil (some (Value.bool true)) Tr.nil) (some (Value.int IntKind.i64 (m_lkE p q))) (Tr.node Tr.nil (some (Value.int IntKind.i64 (m_lkC p q))) Tr.nil)))) [] (AW.mk 1 (Tr.node Tr.nil (some (AObj.cells (m_tm p q) 2 0 1)) Tr.nil) Tr.nil) else bif m_link p q then bif m_mir p q then bif m_link p q then bif m_pos q then bif m_sameL (m_tm p q) 0 (m_tmN p q) (m_tm p q) 0 (m_tmN p q) && true then bif m_link p q then bif m_lkC p q != m_cs p q then kr [] (Tr.node (Tr.node (Tr.node (Tr.node (Tr.node Tr.nil (some (Value.int IntKind.i64 (m_lkE p q))) Tr.nil) (some (Value.int IntKind.i64 (m_lkP p q))) Tr.nil) none (Tr.node Tr.nil (some (Value.int IntKind.i64 (m_lkE p q))) Tr.nil)) (some (Value.int IntKind.i64 q)) (Tr.node (Tr.node (Tr.node Tr.nil (some (Value.int IntKind.i64 (m_fst p q))) Tr.nil) (some (Value.int IntKind.i64 (m_lkE p q))) Tr.nil) (some (Value.int IntKind.i64 i)) (Tr.node Tr.nil (some (Value.int IntKind.i64 (Int.ofNat 0))) Tr.nil))) (some (Value.int IntKind.i64 p)) (Tr.node (Tr.node (Tr.node (Tr.node Tr.nil (some (Value.int IntKind.i64 p)) Tr.nil) (some (Value.int IntKind.i64 (m_lkF p q))) Tr.nil) (some (Value.bool false)) (Tr.node Tr.nil (some (Value.slice (some (Addr.mk 0 0 none)) (m_tmN p q) 9223372036854775808)) Tr.nil)) none (Tr.node (Tr.node Tr.nil (some (Value.bool true)) Tr.nil) (some (Value.int IntKind.i64 (m_lkE p q))) (Tr.node Tr.nil (some (Value.int IntKind.i64 (m_lkC p q))) Tr.nil)))) [] (AW.mk 2 (Tr.node (Tr.node Tr.nil (some (AObj.cells (m_tm p q) 2 1 1)) Tr.nil) (some (AObj.cells (m_tm p q) 2 0 1)) Tr.nil) Tr.nil) else bif !decide (IntKind.wrap IntKind.u64 (IntKind.wrap IntKind.i64 (Int.ofNat 1 + IntKind.wrap IntKind.i64 (Int.tmod (IntKind.wrap IntKind.u64 p) (Int.ofNat 3000)))) = 0) then kn [(158, Value.int IntKind.i64 (IntKind.wrap IntKind.i64 (Int.tmod (IntKind.wrap IntKind.u64 q) (IntKind.wrap IntKind.u64 (IntKind.wrap IntKind.i64 (Int.ofNat 1 + IntKind.wrap IntKind.i64 (Int.tmod (IntKind.wrap IntKind.u64 p) (Int.ofNat 3000)))))))), (157, Value.int IntKind.u64 (Int.tmod (IntKind.wrap IntKind.u64 q) (IntKind.wrap IntKind.u64 (IntKind.wrap IntKind.i64 (Int.ofNat 1 + IntKind.wrap IntKind.i64 (Int.tmod (IntKind.wrap IntKind.u64 p) (Int.ofNat 3000))))))), (156, Value.int IntKind.u64 (IntKind.wrap IntKind.u64 (IntKind.wrap IntKind.i64 (Int.ofNat 1 + IntKind.wrap IntKind.i64 (Int.tmod (IntKind.wrap IntKind.u64 p) (Int.ofNat 3000)))))), (155, Value.int IntKind.i64 (IntKind.wrap IntKind.i64 (Int.ofNat 1 + IntKind.wrap IntKind.i64 (Int.tmod (IntKind.wrap IntKind.u64 p) (Int.ofNat 3000))))), (154, Value.int IntKind.u64 (IntKind.wrap IntKind.u64 q)), (153, Value.int IntKind.i64 q)] (Tr.node (Tr.node (Tr.node (Tr.node (Tr.node Tr.nil (some (Value.int IntKind.i64 (m_lkE p q))) Tr.nil) (some (Value.int IntKind.i64 (m_lkP p q))) Tr.nil) none (Tr.node Tr.nil (some (Value.int IntKind.i64 (m_lkE p q))) Tr.nil)) (some (Value.int IntKind.i64 (IntKind.wrap IntKind.i64 (Int.tmod (IntKind.wrap IntKind.u64 q) (IntKind.wrap IntKind.u64 (IntKind.wrap IntKind.i64 (Int.ofNat 1 + IntKind.wrap IntKind.i64 (Int.tmod (IntKind.wrap IntKind.u64 p) (Int.ofNat 3000))))))))) (Tr.node (Tr.node (Tr.node Tr.nil (some (Value.int IntKind.i64 (m_fst p q))) Tr.nil) (some (Value.int IntKind.i64 (m_lkE p q))) Tr.nil) (some (Value.int IntKind.i64 i)) (Tr.node Tr.nil (some (Value.int IntKind.i64 (Int.ofNat 0))) Tr.nil))) (some (Value.int IntKind.i64 (IntKind.wrap IntKind.i64 (Int.ofNat 1 + IntKind.wrap IntKind.i64 (Int.tmod (IntKind.wrap IntKind.u64 p) (Int.ofNat 3000)))))) (Tr.node (Tr.node (Tr.node (Tr.node Tr.nil (some (Value.int IntKind.i64 p)) Tr.nil) (some (Value.int IntKind.i64 (m_lkF p q))) Tr.nil) (some (Value.bool false)) (Tr.node Tr.nil (some (Value.slice (some (Addr.mk 0 0 none)) (m_tmN p q) 9223372036854775808)) Tr.nil)) none (Tr.node (Tr.node Tr.nil (some (Value.bool true)) Tr.nil) (some (Value.int IntKind.i64 (m_lkE p q))) (Tr.node Tr.nil (some (Value.int IntKind.i64 (m_lkC p q))) Tr.nil)))) [] (AW.mk 2 (Tr.node (Tr.node Tr.nil (some (AObj.cells (m_tm p q) 2 1 1)) Tr.nil) (some (AObj.cells (m_tm p q) 2 0 1)) Tr.nil) Tr.nil) else CR.fail 420 else CR.fail 420 else CR.fail 420 else CR.fail 420 else CR.fail 420 else kr [] (Tr.node (Tr.node (Tr.node (Tr.node (Tr.node Tr.nil (some (Value.int IntKind.i64 (m_lkE p q))) Tr.nil) (some (Value.int IntKind.i64 (m_lkP p q))) Tr.nil) none (Tr.node Tr.nil (some (Value.int IntKind.i64 (m_lkE p q))) Tr.nil)) (some (Value.int IntKind.i64 q)) (Tr.node (Tr.node (Tr.node Tr.nil (some (Value.int IntKind.i64 (m_fst p q))) Tr.nil) (some (Value.int IntKind.i64 (m_lkE p q))) Tr.nil) (some (Value.int IntKind.i64 i)) (Tr.node Tr.nil (some (Value.int IntKind.i64 (Int.ofNat 0))) Tr.nil))) (some (Value.int IntKind.i64 p)) (Tr.node (Tr.node (Tr.node (Tr.node Tr.nil (some (Value.int IntKind.i64 p)) Tr.nil) (some (Value.int IntKind.i64 (m_lkF p q))) Tr.nil) (some (Value.bool false)) (Tr.node Tr.nil (some (Value.slice (some (Addr.mk 0 0 none)) (m_tmN p q) 9223372036854775808)) Tr.nil)) none (Tr.node (Tr.node Tr.nil (some (Value.bool true)) Tr.nil) (some (Value.int IntKind.i64 (m_lkE p q))) (Tr.node Tr.nil (some (Value.int IntKind.i64 (m_lkC p q))) Tr.nil)))) [] (AW.mk 1 (Tr.node Tr.nil (some (AObj.cells (m_tm p q) 2 0 1)) Tr.nil) Tr.nil) else CR.fail 420 else CR.fail 420 else bif m_lkE p q != Int.ofNat 61 then kr [] (Tr.node (Tr.node (Tr.node (Tr.node (Tr.node Tr.nil (some (Value.int IntKind.i64 (m_lkE p q))) Tr.nil) (some (Value.int IntKind.i64 (m_lkP p q))) Tr.nil) none (Tr.node Tr.nil (some (Value.int IntKind.i64 (m_lkE p q))) Tr.nil)) (some (Value.int IntKind.i64 q)) (Tr.node (Tr.node Tr.nil (some (Value.int IntKind.i64 (m_lkE p q))) Tr.nil) (some (Value.int IntKind.i64 i)) (Tr.node Tr.nil (some (Value.int IntKind.i64 (Int.ofNat 0))) Tr.nil))) (some (Value.int IntKind.i64 p)) (Tr.node (Tr.node (Tr.node Tr.nil (some (Value.int IntKind.i64 (m_lkF p q))) Tr.nil) (some (Value.bool false)) (Tr.node Tr.nil (some (Value.slice (some (Addr.mk 0 0 none)) (m_tmN p q) 9223372036854775808)) Tr.nil)) none (Tr.node (Tr.node Tr.nil (some (Value.bool true)) Tr.nil) (some (Value.int IntKind.i64 (m_lkE p q))) (Tr.node Tr.nil (some (Value.int IntKind.i64 (m_lkC p q))) Tr.nil)))) [] (AW.mk 1 (Tr.node Tr.nil (some (AObj.cells (m_tm p q) 2 0 1)) Tr.nil) Tr.nil) else bif m_lkE p q != Int.ofNat 61 then kr [] (Tr.node (Tr.node (Tr.node (Tr.node (Tr.node Tr.nil (some (Value.int IntKind.i64 (m_lkE p q))) Tr.nil) (some (Value.int IntKind.i64 (m_lkP p q))) Tr.nil) none (Tr.node Tr.nil (some (Value.int IntKind.i64 (m_lkE p q))) Tr.nil)) (some (Value.int IntKind.i64 q)) (Tr.node (Tr.node Tr.nil (some (Value.int IntKind.i64 (m_lkE p q))) Tr.nil) (some (Value.int IntKind.i64 i)) (Tr.node Tr.nil (some (Value.int IntKind.i64 (Int.ofNat 0))) Tr.nil))) (some (Value.int IntKind.i64 p)) (Tr.node (Tr.node (Tr.node Tr.nil (some (Value.int IntKind.i64 (m_lkF p q))) Tr.nil) (some (Value.bool false)) (Tr.node Tr.nil (some (Value.slice (some (Addr.mk 0 0 none)) (m_tmN p q) 9223372036854775808)) Tr.nil)) none (Tr.node (Tr.node Tr.nil (some (Value.bool true)) Tr.nil) (some (Value.int IntKind.i64 (m_lkE p q))) (Tr.node Tr.nil (some (Value.int IntKind.i64 (m_lkC p q))) Tr.nil)))) [] (AW.mk 1 (Tr.node Tr.nil (some (AObj.cells (m_tm p q) 2 0 1)) Tr.nil) Tr.nil) else bif m_lkE p q != Int.ofNat 61 then kr [] (Tr.node (Tr.node (Tr.node (Tr.node (Tr.node Tr.nil (some (Value.int IntKind.i64 (m_lkE p q))) Tr.nil) (some (Value.int IntKind.i64 (m_lkP p q))) Tr.nil) none (Tr.node Tr.nil (some (Value.int IntKind.i64 (m_lkE p q))) Tr.nil)) (some (Value.int IntKind.i64 q)) (Tr.node (Tr.node Tr.nil (some (Value.int IntKind.i64 (m_lkE p q))) Tr.nil) (some (Value.int IntKind.i64 i)) (Tr.node Tr.nil (some (Value.int IntKind.i64 (Int.ofNat 0))) Tr.nil))) (some (Value.int IntKind.i64 p)) (Tr.node (Tr.node (Tr.node Tr.nil (some (Value.int IntKind.i64 (m_lkF p q))) Tr.nil) (some (Value.bool false)) (Tr.node Tr.nil (some (Value.slice (some (Addr.mk 0 0 none)) (m_tmN p q) 9223372036854775808)) Tr.nil)) none (Tr.node (Tr.node Tr.nil (some (Value.bool true)) Tr.nil) (some (Value.int IntKind.i64 (m_lkE p q))) (Tr.node Tr.nil (some (Value.int IntKind.i64 (m_lkC p q))) Tr.nil)))) [] (AW.mk 1 (Tr.node Tr.nil (some (AObj.cells (m_tm p q) 2 0 1)) Tr.nil) Tr.nil) else kr [] (Tr.node (Tr.node (Tr.node (Tr.node (Tr.node Tr.nil (some (Value.int IntKind.i64 (m_lkE p q))) Tr.nil) (some (Value.int IntKind.i64 (m_lkP p q))) Tr.nil) none (Tr.node Tr.nil (some (Value.int IntKind.i64 (m_lkE p q))) Tr.nil)) (some (Value.int IntKind.i64 q)) (Tr.node (Tr.node Tr.nil (some (Value.int IntKind.i64 (m_lkE p q))) Tr.nil) (some (Value.int IntKind.i64 i)) (Tr.node Tr.nil (some (Value.int IntKind.i64 (Int.ofNat 0))) Tr.nil))) (some (Value.int IntKind.i64 p)) (Tr.node (Tr.node (Tr.node Tr.nil (some (Value.int IntKind.i64 (m_lkF p q))) Tr.nil) (some (Value.bool false)) (Tr.node Tr.nil (some (Value.slice (some (Addr.mk 0 0 none)) (m_tmN p q) 9223372036854775808)) Tr.nil)) none (Tr.node (Tr.node Tr.nil (some (Value.bool true)) Tr.nil) (some (Value.int IntKind.i64 (m_lkE p q))) (Tr.node Tr.nil (some (Value.int IntKind.i64 (m_lkC p q))) Tr.nil)))) [] (AW.mk 1 (Tr.node Tr.nil (some (AObj.cells (m_tm p q) 2 0 1)) Tr.nil) Tr.nil) else bif m_link p q then bif m_link p q then bif m_lkE p q != Int.ofNat 0 then kr [] (Tr.node (Tr.node (Tr.node (Tr.node (Tr.node Tr.nil (some (Value.int IntKind.i64 (m_lkE p q))) Tr.nil) (some (Value.int IntKind.i64 (m_lkP p q))) Tr.nil) none (Tr.node Tr.nil (some (Value.int IntKind.i64 (m_lkE p q))) Tr.nil)) (some (Value.int IntKind.i64 q)) (Tr.node (Tr.node (Tr.node Tr.nil (some (Value.int IntKind.i64 (m_fst p q))) Tr.nil) (some (Value.int IntKind.i64 (m_lkE p q))) Tr.nil) (some (Value.int IntKind.i64 i)) (Tr.node Tr.nil (some (Value.int IntKind.i64 (m_lkE p q))) Tr.nil))) (some (Value.int IntKind.i64 p)) (Tr.node (Tr.node (Tr.node (Tr.node Tr.nil (some (Value.int IntKind.i64 p)) Tr.nil) (some (Value.int IntKind.i64 (m_lkF p q))) Tr.nil) (some (Value.bool false)) (Tr.node Tr.nil (some (Value.slice none 0 0)) Tr.nil)) none (Tr.node (Tr.node Tr.nil (some (Value.bool true)) Tr.nil) (some (Value.int IntKind.i64 (m_lkE p q))) (Tr.node Tr.nil (some (Value.int IntKind.i64 (m_lkC p q))) Tr.nil)))) [] (AW.mk 0 Tr.nil Tr.nil) else bif m_lkE p q != Int.ofNat 0 then kr [] (Tr.node (Tr.node (Tr.node (Tr.node (Tr.node Tr.nil (some (Value.int IntKind.i64 (m_lkE p q))) Tr.nil) (some (Value.int IntKind.i64 (m_lkP p q))) Tr.nil) none (Tr.node Tr.nil (some (Value.int IntKind.i64 (m_lkE p q))) Tr.nil)) (some (Value.int IntKind.i64 q)) (Tr.node (Tr.node (Tr.node Tr.nil (some (Value.int IntKind.i64 (m_fst p q))) Tr.nil) (some (Value.int IntKind.i64 (m_lkE p q))) Tr.nil) (some (Value.int IntKind.i64 i)) (Tr.node Tr.nil (some (Value.int IntKind.i64 (m_lkE p q))) Tr.nil))) (some (Value.int IntKind.i64 p)) (Tr.node (Tr.node (Tr.node (Tr.node Tr.nil (some (Value.int IntKind.i64 p)) Tr.nil) (some (Value.int IntKind.i64 (m_lkF p q))) Tr.nil) (some (Value.bool false)) (Tr.node Tr.nil (some (Value.slice none 0 0)) Tr.nil)) none (Tr.node (Tr.node Tr.nil (some (Value.bool true)) Tr.nil) (some (Value.int IntKind.i64 (m_lkE p q))) (Tr.node Tr.nil (some (Value.int IntKind.i64 (m_lkC p q))) Tr.nil)))) [] (AW.mk 0 Tr.nil Tr.nil) else bif m_lkE p q != Int.ofNat 0 then kr [] (Tr.node (Tr.node (Tr.node (Tr.node (Tr.node Tr.nil (some (Value.int IntKind.i64 (m_lkE p q))) Tr.nil) (some (Value.int IntKind.i64 (m_lkP p q))) Tr.nil) none (Tr.node Tr.nil (some (Value.int IntKind.i64 (m_lkE p q))) Tr.nil)) (some (Value.int IntKind.i64 q)) (Tr.node (Tr.node (Tr.node Tr.nil (some (Value.int IntKind.i64 (m_fst p q))) Tr.nil) (some (Value.int IntKind.i64 (m_lkE p q))) Tr.nil) (some (Value.int IntKind.i64 i)) (Tr.node Tr.nil (some (Value.int IntKind.i64 (m_lkE p q))) Tr.nil))) (some (Value.int IntKind.i64 p)) (Tr.node (Tr.node (Tr.node (Tr.node Tr.nil (some (Value.int IntKind.i64 p)) Tr.nil) (some (Value.int IntKind.i64 (m_lkF p q))) Tr.nil) (some (Value.bool false)) (Tr.node Tr.nil (some (Value.slice none 0 0)) Tr.nil)) none (Tr.node (Tr.node Tr.nil (some (Value.bool true)) Tr.nil) (some (Value.int IntKind.i64 (m_lkE p q))) (Tr.node Tr.nil (some (Value.int IntKind.i64 (m_lkC p q))) Tr.nil)))) [] (AW.mk 0 Tr.nil Tr.nil) else bif m_lkE p q != Int.ofNat 0 then kr [] (Tr.node (Tr.node (Tr.node (Tr.node (Tr.node Tr.nil (some (Value.int IntKind.i64 (m_lkE p q))) Tr.nil) (some (Value.int IntKind.i64 (m_lkP p q))) Tr.nil) none (Tr.node Tr.nil (some (Value.int IntKind.i64 (m_lkE p q))) Tr.nil)) (some (Value.int IntKind.i64 q)) (Tr.node (Tr.node (Tr.node Tr.nil (some (Value.int IntKind.i64 (m_fst p q))) Tr.nil) (some (Value.int IntKind.i64 (m_lkE p q))) Tr.nil) (some (Value.int IntKind.i64 i)) (Tr.node Tr.nil (some (Value.int IntKind.i64 (m_lkE p q))) Tr.nil))) (some (Value.int IntKind.i64 p)) (Tr.node (Tr.node (Tr.node (Tr.node Tr.nil (some (Value.int IntKind.i64 p)) Tr.nil) (some (Value.int IntKind.i64 (m_lkF p q))) Tr.nil) (some (Value.bool false)) (Tr.node Tr.nil (some (Value.slice none 0 0)) Tr.nil)) none (Tr.node (Tr.node Tr.nil (some (Value.bool true)) Tr.nil) (some (Value.int IntKind.i64 (m_lkE p q))) (Tr.node Tr.nil (some (Value.int IntKind.i64 (m_lkC p q))) Tr.nil)))) [] (AW.mk 0 Tr.nil Tr.nil) else bif m_lkE p q != Int.ofNat 0 then kr [] (Tr.node (Tr.node (Tr.node (Tr.node (Tr.node Tr.nil (some (Value.int IntKind.i64 (m_lkE p q))) Tr.nil) (some (Value.int IntKind.i64 (m_lkP p q))) Tr.nil) none (Tr.node Tr.nil (some (Value.int IntKind.i64 (m_lkE p q))) Tr.nil)) (some (Value.int IntKind.i64 q)) (Tr.node (Tr.node (Tr.node Tr.nil (some (Value.int IntKind.i64 (m_fst p q))) Tr.nil) (some (Value.int IntKind.i64 (m_lkE p q))) Tr.nil) (some (Value.int IntKind.i64 i)) (Tr.node Tr.nil (some (Value.int IntKind.i64 (m_lkE p q))) Tr.nil))) (some (Value.int IntKind.i64 p)) (Tr.node (Tr.node (Tr.node (Tr.node Tr.nil (some (Value.int IntKind.i64 p)) Tr.nil) (some (Value.int IntKind.i64 (m_lkF p q))) Tr.nil) (some (Value.bool false)) (Tr.node Tr.nil (some (Value.slice none 0 0)) Tr.nil)) none (Tr.node (Tr.node Tr.nil (some (Value.bool true)) Tr.nil) (some (Value.int IntKind.i64 (m_lkE p q))) (Tr.node Tr.nil (some (Value.int IntKind.i64 (m_lkC p q))) Tr.nil)))) [] (AW.mk 0 Tr.nil Tr.nil) else bif m_lkP p q != p then kr [] (Tr.node (Tr.node (Tr.node (Tr.node (Tr.node Tr.nil (some (Value.int IntKind.i64 (m_lkE p q))) Tr.nil) (some (Value.int IntKind.i64 (m_lkP p q))) Tr.nil) none (Tr.node Tr.nil (some (Value.int IntKind.i64 (m_lkE p q))) Tr.nil)) (some (Value.int IntKind.i64 q)) (Tr.node (Tr.node (Tr.node Tr.nil (some (Value.int IntKind.i64 (m_fst p q))) Tr.nil) (some (Value.int IntKind.i64 (m_lkE p q))) Tr.nil) (some (Value.int IntKind.i64 i)) (Tr.node Tr.nil (some (Value.int IntKind.i64 (m_lkE p q))) Tr.nil))) (some (Value.int IntKind.i64 p)) (Tr.node (Tr.node (Tr.node (Tr.node Tr.nil (some (Value.int IntKind.i64 p)) Tr.nil) (some (Value.int IntKind.i64 (m_lkF p q))) Tr.nil) (some (Value.bool false)) (Tr.node Tr.nil (some (Value.slice none 0 0)) Tr.nil)) none (Tr.node (Tr.node Tr.nil (some (Value.bool true)) Tr.nil) (some (Value.int IntKind.i64 (m_lkE p q))) (Tr.node Tr.nil (some (Value.int IntKind.i64 (m_lkC p q))) Tr.nil)))) [] (AW.mk 0 Tr.nil Tr.nil) else bif m_lkF p q != m_fst p q then kr [] (Tr.node (Tr.node (Tr.node (Tr.node (Tr.node Tr.nil (some (Value.int IntKind.i64 (m_lkE p q))) Tr.nil) (some (Value.int IntKind.i64 (m_lkP p q))) Tr.nil) none (Tr.node Tr.nil (some (Value.int IntKind.i64 (m_lkE p q))) Tr.nil)) (some (Value.int IntKind.i64 q)) (Tr.node (Tr.node (Tr.node Tr.nil (some (Value.int IntKind.i64 (m_fst p q))) Tr.nil) (some (Value.int IntKind.i64 (m_lkE p q))) Tr.nil) (some (Value.int IntKind.i64 i)) (Tr.node Tr.nil (some (Value.int IntKind.i64 (m_lkE p q))) Tr.nil))) (some (Value.int IntKind.i64 p)) (Tr.node (Tr.node (Tr.node (Tr.node Tr.nil (some (Value.int IntKind.i64 p)) Tr.nil) (some (Value.int IntKind.i64 (m_lkF p q))) Tr.nil) (some (Value.bool false)) (Tr.node Tr.nil (some (Value.slice none 0 0)) Tr.nil)) none (Tr.node (Tr.node Tr.nil (some (Value.bool true)) Tr.nil) (some (Value.int IntKind.i64 (m_lkE p q))) (Tr.node Tr.nil (some (Value.int IntKind.i64 (m_lkC p q))) Tr.nil)))) [] (AW.mk 0 Tr.nil Tr.nil) else bif m_link p q then bif m_mir p q then bif m_link p q then bif m_pos q then CR.fail 420 else bif m_link p q then bif m_lkC p q != m_cs p q then kr [] (Tr.node (Tr.node (Tr.node (Tr.node (Tr.node Tr.nil (some (Value.int IntKind.i64 (m_lkE p q))) Tr.nil) (some (Value.int IntKind.i64 (m_lkP p q))) Tr.nil) none (Tr.node Tr.nil (some (Value.int IntKind.i64 (m_lkE p q))) Tr.nil)) (some (Value.int IntKind.i64 q)) (Tr.node (Tr.node (Tr.node Tr.nil (some (Value.int IntKind.i64 (m_fst p q))) Tr.nil) (some (Value.int IntKind.i64 (m_lkE p q))) Tr.nil) (some (Value.int IntKind.i64 i)) (Tr.node Tr.nil (some (Value.int IntKind.i64 (m_lkE p q))) Tr.nil))) (some (Value.int IntKind.i64 p)) (Tr.node (Tr.node (Tr.node (Tr.node Tr.nil (some (Value.int IntKind.i64 p)) Tr.nil) (some (Value.int IntKind.i64 (m_lkF p q))) Tr.nil) (some (Value.bool false)) (Tr.node Tr.nil (some (Value.slice none 0 0)) Tr.nil)) none (Tr.node (Tr.node Tr.nil (some (Value.bool true)) Tr.nil) (some (Value.int IntKind.i64 (m_lkE p q))) (Tr.node Tr.nil (some (Value.int IntKind.i64 (m_lkC p q))) Tr.nil)))) [] (AW.mk 0 Tr.nil Tr.nil) else bif !decide (IntKind.wrap IntKind.u64 (IntKind.wrap IntKind.i64 (Int.ofNat 1 + IntKind.wrap IntKind.i64 (Int.tmod (IntKind.wrap IntKind.u64 p) (Int.ofNat 3000)))) = 0) then kn [(158, Value.int IntKind.i64 (IntKind.wrap IntKind.i64 (Int.tmod (IntKind.wrap IntKind.u64 q) (IntKind.wrap IntKind.u64 (IntKind.wrap IntKind.i64 (Int.ofNat 1 + IntKind.wrap IntKind.i64 (Int.tmod (IntKind.wrap IntKind.u64 p) (Int.ofNat 3000)))))))), (157, Value.int IntKind.u64 (Int.tmod (IntKind.wrap IntKind.u64 q) (IntKind.wrap IntKind.u64 (IntKind.wrap IntKind.i64 (Int.ofNat 1 + IntKind.wrap IntKind.i64 (Int.tmod (IntKind.wrap IntKind.u64 p) (Int.ofNat 3000))))))), (156, Value.int IntKind.u64 (IntKind.wrap IntKind.u64 (IntKind.wrap IntKind.i64 (Int.ofNat 1 + IntKind.wrap IntKind.i64 (Int.tmod (IntKind.wrap IntKind.u64 p) (Int.ofNat 3000)))))), (155, Value.int IntKind.i64 (IntKind.wrap IntKind.i64 (Int.ofNat 1 + IntKind.wrap IntKind.i64 (Int.tmod (IntKind.wrap IntKind.u64 p) (Int.ofNat 3000))))), (154, Value.int IntKind.u64 (IntKind.wrap IntKind.u64 q)), (153, Value.int IntKind.i64 q)] (Tr.node (Tr.node (Tr.node (Tr.node (Tr.node Tr.nil (some (Value.int IntKind.i64 (m_lkE p q))) Tr.nil) (some (Value.int IntKind.i64 (m_lkP p q))) Tr.nil) none (Tr.node Tr.nil (some (Value.int IntKind.i64 (m_lkE p q))) Tr.nil)) (some (Value.int IntKind.i64 (IntKind.wrap IntKind.i64 (Int.tmod (IntKind.wrap IntKind.u64 q) (IntKind.wrap IntKind.u64 (IntKind.wrap IntKind.i64 (Int.ofNat 1 + IntKind.wrap IntKind.i64 (Int.tmod (IntKind.wrap IntKind.u64 p) (Int.ofNat 3000))))))))) (Tr.node (Tr.node (Tr.node Tr.nil (some (Value.int IntKind.i64 (m_fst p q))) Tr.nil) (some (Value.int IntKind.i64 (m_lkE p q))) Tr.nil) (some (Value.int IntKind.i64 i)) (Tr.node Tr.nil (some (Value.int IntKind.i64 (m_lkE p q))) Tr.nil))) (some (Value.int IntKind.i64 (IntKind.wrap IntKind.i64 (Int.ofNat 1 + IntKind.wrap IntKind.i64 (Int.tmod (IntKind.wrap IntKind.u64 p) (Int.ofNat 3000)))))) (Tr.node (Tr.node (Tr.node (Tr.node Tr.nil (some (Value.int IntKind.i64 p)) Tr.nil) (some (Value.int IntKind.i64 (m_lkF p q))) Tr.nil) (some (Value.bool false)) (Tr.node Tr.nil (some (Value.slice none 0 0)) Tr.nil)) none (Tr.node (Tr.node Tr.nil (some (Value.bool true)) Tr.nil) (some (Value.int IntKind.i64 (m_lkE p q))) (Tr.node Tr.nil (some (Value.int IntKind.i64 (m_lkC p q))) Tr.nil)))) [] (AW.mk 0 Tr.nil Tr.nil) else CR.fail 420 else CR.fail 420 else CR.fail 420 else kr [] (Tr.node (Tr.node (Tr.node (Tr.node (Tr.node Tr.nil (some (Value.int IntKind.i64 (m_lkE p q))) Tr.nil) (some (Value.int IntKind.i64 (m_lkP p q))) Tr.nil) none (Tr.node Tr.nil (some (Value.int IntKind.i64 (m_lkE p q))) Tr.nil)) (some (Value.int IntKind.i64 q)) (Tr.node (Tr.node (Tr.node Tr.nil (some (Value.int IntKind.i64 (m_fst p q))) Tr.nil) (some (Value.int IntKind.i64 (m_lkE p q))) Tr.nil) (some (Value.int IntKind.i64 i)) (Tr.node Tr.nil (some (Value.int IntKind.i64 (m_lkE p q))) Tr.nil))) (some (Value.int IntKind.i64 p)) (Tr.node (Tr.node (Tr.node (Tr.node Tr.nil (some (Value.int IntKind.i64 p)) Tr.nil) (some (Value.int IntKind.i64 (m_lkF p q))) Tr.nil) (some (Value.bool false)) (Tr.node Tr.nil (some (Value.slice none 0 0)) Tr.nil)) none (Tr.node (Tr.node Tr.nil (some (Value.bool true)) Tr.nil) (some (Value.int IntKind.i64 (m_lkE p q))) (Tr.node Tr.nil (some (Value.int IntKind.i64 (m_lkC p q))) Tr.nil)))) [] (AW.mk 0 Tr.nil Tr.nil) else CR.fail 420 else CR.fail 420 else bif m_lkE p q != Int.ofNat 61 then kr [] (Tr.node (Tr.node (Tr.node (Tr.node (Tr.node Tr.nil (some (Value.int IntKind.i64 (m_lkE p q))) Tr.nil) (some (Value.int IntKind.i64 (m_lkP p q))) Tr.nil) none (Tr.node Tr.nil (some (Value.int IntKind.i64 (m_lkE p q))) Tr.nil)) (some (Value.int IntKind.i64 q)) (Tr.node (Tr.node Tr.nil (some (Value.int IntKind.i64 (m_lkE p q))) Tr.nil) (some (Value.int IntKind.i64 i)) (Tr.node Tr.nil (some (Value.int IntKind.i64 (m_lkE p q))) Tr.nil))) (some (Value.int IntKind.i64 p)) (Tr.node (Tr.node (Tr.node Tr.nil (some (Value.int IntKind.i64 (m_lkF p q))) Tr.nil) (some (Value.bool false)) (Tr.node Tr.nil (some (Value.slice none 0 0)) Tr.nil)) none (Tr.node (Tr.node Tr.nil (some (Value.bool true)) Tr.nil) (some (Value.int IntKind.i64 (m_lkE p q))) (Tr.node Tr.nil (some (Value.int IntKind.i64 (m_lkC p q))) Tr.nil)))) [] (AW.mk 0 Tr.nil Tr.nil) else bif m_lkE p q != Int.ofNat 61 then kr [] (Tr.node (Tr.node (Tr.node (Tr.node (Tr.node Tr.nil (some (Value.int IntKind.i64 (m_lkE p q))) Tr.nil) (some (Value.int IntKind.i64 (m_lkP p q))) Tr.nil) none (Tr.node Tr.nil (some (Value.int IntKind.i64 (m_lkE p q))) Tr.nil)) (some (Value.int IntKind.i64 q)) (Tr.node (Tr.node Tr.nil (some (Value.int IntKind.i64 (m_lkE p q))) Tr.nil) (some (Value.int IntKind.i64 i)) (Tr.node Tr.nil (some (Value.int IntKind.i64 (m_lkE p q))) Tr.nil))) (some (Value.int IntKind.i64 p)) (Tr.node (Tr.node (Tr.node Tr.nil (some (Value.int IntKind.i64 (m_lkF p q))) Tr.nil) (some (Value.bool false)) (Tr.node Tr.nil (some (Value.slice none 0 0)) Tr.nil)) none (Tr.node (Tr.node Tr.nil (some (Value.bool true)) Tr.nil) (some (Value.int IntKind.i64 (m_lkE p q))) (Tr.node Tr.nil (some (Value.int IntKind.i64 (m_lkC p q))) Tr.nil)))) [] (AW.mk 0 Tr.nil Tr.nil) else bif m_lkE p q != Int.ofNat 61 then kr [] (Tr.node (Tr.node (Tr.node (Tr.node (Tr.node Tr.nil (some (Value.int IntKind.i64 (m_lkE p q))) Tr.nil) (some (Value.int IntKind.i64 (m_lkP p q))) Tr.nil) none (Tr.node Tr.nil (some (Value.int IntKind.i64 (m_lkE p q))) Tr.nil)) (some (Value.int IntKind.i64 q)) (Tr.node (Tr.node Tr.nil (some (Value.int IntKind.i64 (m_lkE p q))) Tr.nil) (some (Value.int IntKind.i64 i)) (Tr.node Tr.nil (some (Value.int IntKind.i64 (m_lkE p q))) Tr.nil))) (some (Value.int IntKind.i64 p)) (Tr.node (Tr.node (Tr.node Tr.nil (some (Value.int IntKind.i64 (m_lkF p q))) Tr.nil) (some (Value.bool false)) (Tr.node Tr.nil (some (Value.slice none 0 0)) Tr.nil)) none (Tr.node (Tr.node Tr.nil (some (Value.bool true)) Tr.nil) (some (Value.int IntKind.i64 (m_lkE p q))) (Tr.node Tr.nil (some (Value.int IntKind.i64 (m_lkC p q))) Tr.nil)))) [] (AW.mk 0 Tr.nil Tr.nil) else bif m_lkE p q != Int.ofNat 61 then kr [] (Tr.node (Tr.node (Tr.node (Tr.node (Tr.node Tr.nil (some (Value.int IntKind.i64 (m_lkE p q))) Tr.nil) (some (Value.int IntKind.i64 (m_lkP p q))) Tr.nil) none (Tr.node Tr.nil (some (Value.int IntKind.i64 (m_lkE p q))) Tr.nil)) (some (Value.int IntKind.i64 q)) (Tr.node (Tr.node Tr.nil (some (Value.int IntKind.i64 (m_lkE p q))) Tr.nil) (some (Value.int IntKind.i64 i)) (Tr.node Tr.nil (some (Value.int IntKind.i64 (m_lkE p q))) Tr.nil))) (some (Value.int IntKind.i64 p)) (Tr.node (Tr.node (Tr.node Tr.nil (some (Value.int IntKind.i64 (m_lkF p q))) Tr.nil) (some (Value.bool false)) (Tr.node Tr.nil (some (Value.slice none 0 0)) Tr.nil)) none (Tr.node (Tr.node Tr.nil (some (Value.bool true)) Tr.nil) (some (Value.int IntKind.i64 (m_lkE p q))) (Tr.node Tr.nil (some (Value.int IntKind.i64 (m_lkC p q))) Tr.nil)))) [] (AW.mk 0 Tr.nil Tr.nil) else bif m_lkE p q != Int.ofNat 61 then kr [] (Tr.node (Tr.node (Tr.node (Tr.node (Tr.node Tr.nil (some (Value.int IntKind.i64 (m_lkE p q))) Tr.nil) (some (Value.int IntKind.i64 (m_lkP p q))) Tr.nil) none (Tr.node Tr.nil (some (Value.int IntKind.i64 (m_lkE p q))) Tr.nil)) (some (Value.int IntKind.i64 q)) (Tr.node (Tr.node Tr.nil (some (Value.int IntKind.i64 (m_lkE p q))) Tr.nil) (some (Value.int IntKind.i64 i)) (Tr.node Tr.nil (some (Value.int IntKind.i64 (m_lkE p q))) Tr.nil))) (some (Value.int IntKind.i64 p)) (Tr.node (Tr.node (Tr.node Tr.nil (some (Value.int IntKind.i64 (m_lkF p q))) Tr.nil) (some (Value.bool false)) (Tr.node Tr.nil (some (Value.slice none 0 0)) Tr.nil)) none (Tr.node (Tr.node Tr.nil (some (Value.bool true)) Tr.nil) (some (Value.int IntKind.i64 (m_lkE p q))) (Tr.node Tr.nil (some (Value.int IntKind.i64 (m_lkC p q))) Tr.nil)))) [] (AW.mk 0 Tr.nil Tr.nil) else bif m_lkP p q != Int.ofNat 0 then kr [] (Tr.node (Tr.node (Tr.node (Tr.node (Tr.node Tr.nil (some (Value.int IntKind.i64 (m_lkE p q))) Tr.nil) (some (Value.int IntKind.i64 (m_lkP p q))) Tr.nil) none (Tr.node Tr.nil (some (Value.int IntKind.i64 (m_lkE p q))) Tr.nil)) (some (Value.int IntKind.i64 q)) (Tr.node (Tr.node Tr.nil (some (Value.int IntKind.i64 (m_lkE p q))) Tr.nil) (some (Value.int IntKind.i64 i)) (Tr.node Tr.nil (some (Value.int IntKind.i64 (m_lkE p q))) Tr.nil))) (some (Value.int IntKind.i64 p)) (Tr.node (Tr.node (Tr.node Tr.nil (some (Value.int IntKind.i64 (m_lkF p q))) Tr.nil) (some (Value.bool false)) (Tr.node Tr.nil (some (Value.slice none 0 0)) Tr.nil)) none (Tr.node (Tr.node Tr.nil (some (Value.bool true)) Tr.nil) (some (Value.int IntKind.i64 (m_lkE p q))) (Tr.node Tr.nil (some (Value.int IntKind.i64 (m_lkC p q))) Tr.nil)))) [] (AW.mk 0 Tr.nil Tr.nil) else bif m_lkF p q != Int.ofNat 0 then kr [] (Tr.node (Tr.node (Tr.node (Tr.node (Tr.node Tr.nil (some (Value.int IntKind.i64 (m_lkE p q))) Tr.nil) (some (Value.int IntKind.i64 (m_lkP p q))) Tr.nil) none (Tr.node Tr.nil (some (Value.int IntKind.i64 (m_lkE p q))) Tr.nil)) (some (Value.int IntKind.i64 q)) (Tr.node (Tr.node Tr.nil (some (Value.int IntKind.i64 (m_lkE p q))) Tr.nil) (some (Value.int IntKind.i64 i)) (Tr.node Tr.nil (some (Value.int IntKind.i64 (m_lkE p q))) Tr.nil))) (some (Value.int IntKind.i64 p)) (Tr.node (Tr.node (Tr.node Tr.nil (some (Value.int IntKind.i64 (m_lkF p q))) Tr.nil) (some (Value.bool false)) (Tr.node Tr.nil (some (Value.slice none 0 0)) Tr.nil)) none (Tr.node (Tr.node Tr.nil (some (Value.bool true)) Tr.nil) (some (Value.int IntKind.i64 (m_lkE p q))) (Tr.node Tr.nil (some (Value.int IntKind.i64 (m_lkC p q))) Tr.nil)))) [] (AW.mk 0 Tr.nil Tr.nil) else kr [] (Tr.node (Tr.node (Tr.node (Tr.node (Tr.node Tr.nil (some (Value.int IntKind.i64 (m_lkE p q))) Tr.nil) (some (Value.int IntKind.i64 (m_lkP p q))) Tr.nil) none (Tr.node Tr.nil (some (Value.int IntKind.i64 (m_lkE p q))) Tr.nil)) (some (Value.int IntKind.i64 q)) (Tr.node (Tr.node Tr.nil (some (Value.int IntKind.i64 (m_lkE p q))) Tr.nil) (some (Value.int IntKind.i64 i)) (Tr.node Tr.nil (some (Value.int IntKind.i64 (m_lkE p q))) Tr.nil))) (some (Value.int IntKind.i64 p)) (Tr.node (Tr.node (Tr.node Tr.nil (some (Value.int IntKind.i64 (m_lkF p q))) Tr.nil) (some (Value.bool false)) (Tr.node Tr.nil (some (Value.slice none 0 0)) Tr.nil)) none (Tr.node (Tr.node Tr.nil (some (Value.bool true)) Tr.nil) (some (Value.int IntKind.i64 (m_lkE p q))) (Tr.node Tr.nil (some (Value.int IntKind.i64 (m_lkC p q))) Tr.nil)))) [] (AW.mk 0 Tr.nil Tr.nil) else bif m_lkR p q then bif m_link p q then bif m_link p q then bif m_lkE p q != Int.ofNat 0 then kr [] (Tr.node (Tr.node (Tr.node (Tr.node (Tr.node Tr.nil (some (Value.int IntKind.i64 (m_lkE p q))) Tr.nil) (some (Value.int IntKind.i64 (m_lkP p q))) Tr.nil) none (Tr.node Tr.nil (some (Value.int IntKind.i64 (m_lkE p q))) Tr.nil)) (some (Value.int IntKind.i64 q)) (Tr.node (Tr.node (Tr.node Tr.nil (some (Value.int IntKind.i64 (m_fst p q))) Tr.nil) (some (Value.int IntKind.i64 (m_lkE p q))) Tr.nil) (some (Value.int IntKind.i64 i)) (Tr.node Tr.nil (some (Value.int IntKind.i64 (Int.ofNat 0))) Tr.nil))) (some (Value.int IntKind.i64 p)) (Tr.node (Tr.node (Tr.node (Tr.node Tr.nil (some (Value.int IntKind.i64 p)) Tr.nil) (some (Value.int IntKind.i64 (m_lkF p q))) Tr.nil) (some (Value.bool false)) (Tr.node Tr.nil (some (Value.slice (some (Addr.mk 0 0 none)) (m_tmN p q) 9223372036854775808)) Tr.nil)) none (Tr.node (Tr.node Tr.nil (some (Value.bool false)) Tr.nil) (some (Value.int IntKind.i64 (m_lkE p q))) (Tr.node Tr.nil (some (Value.int IntKind.i64 (m_lkC p q))) Tr.nil)))) [] (AW.mk 1 (Tr.node Tr.nil (some (AObj.cells (m_tm p q) 2 0 1)) Tr.nil) Tr.nil) else bif m_lkE p q != Int.ofNat 0 then kr [] (Tr.node (Tr.node (Tr.node (Tr.node (Tr.node Tr.nil (some (Value.int IntKind.i64 (m_lkE p q))) Tr.nil) (some (Value.int IntKind.i64 (m_lkP p q))) Tr.nil) none (Tr.node Tr.nil (some (Value.int IntKind.i64 (m_lkE p q))) Tr.nil)) (some (Value.int IntKind.i64 q)) (Tr.node (Tr.node (Tr.node Tr.nil (some (Value.int IntKind.i64 (m_fst p q))) Tr.nil) (some (Value.int IntKind.i64 (m_lkE p q))) Tr.nil) (some (Value.int IntKind.i64 i)) (Tr.node Tr.nil (some (Value.int IntKind.i64 (Int.ofNat 0))) Tr.nil))) (some (Value.int IntKind.i64 p)) (Tr.node (Tr.node (Tr.node (Tr.node Tr.nil (some (Value.int IntKind.i64 p)) Tr.nil) (some (Value.int IntKind.i64 (m_lkF p q))) Tr.nil) (some (Value.bool false)) (Tr.node Tr.nil (some (Value.slice (some (Addr.mk 0 0 none)) (m_tmN p q) 9223372036854775808)) Tr.nil)) none (Tr.node (Tr.node Tr.nil (some (Value.bool false)) Tr.nil) (some (Value.int IntKind.i64 (m_lkE p q))) (Tr.node Tr.nil (some (Value.int IntKind.i64 (m_lkC p q))) Tr.nil)))) [] (AW.mk 1 (Tr.node Tr.nil (some (AObj.cells (m_tm p q) 2 0 1)) Tr.nil) Tr.nil) else bif m_lkE p q != Int.ofNat 0 then kr [] (Tr.node (Tr.node (Tr.node (Tr.node (Tr.node Tr.nil (some (Value.int IntKind.i64 (m_lkE p q))) Tr.nil) (some (Value.int IntKind.i64 (m_lkP p q))) Tr.nil) none (Tr.node Tr.nil (some (Value.int IntKind.i64 (m_lkE p q))) Tr.nil)) (some (Value.int IntKind.i64 q)) (Tr.node (Tr.node (Tr.node Tr.nil (some (Value.int IntKind.i64 (m_fst p q))) Tr.nil) (some (Value.int IntKind.i64 (m_lkE p q))) Tr.nil) (some (Value.int IntKind.i64 i)) (Tr.node Tr.nil (some (Value.int IntKind.i64 (Int.ofNat 0))) Tr.nil))) (some (Value.int IntKind.i64 p)) (Tr.node (Tr.node (Tr.node (Tr.node Tr.nil (some (Value.int IntKind.i64 p)) Tr.nil) (some (Value.int IntKind.i64 (m_lkF p q))) Tr.nil) (some (Value.bool false)) (Tr.node Tr.nil (some (Value.slice (some (Addr.mk 0 0 none)) (m_tmN p q) 9223372036854775808)) Tr.nil)) none (Tr.node (Tr.node Tr.nil (some (Value.bool false)) Tr.nil) (some (Value.int IntKind.i64 (m_lkE p q))) (Tr.node Tr.nil (some (Value.int IntKind.i64 (m_lkC p q))) Tr.nil)))) [] (AW.mk 1 (Tr.node Tr.nil (some (AObj.cells (m_tm p q) 2 0 1)) Tr.nil) Tr.nil) else bif m_lkE p q != Int.ofNat 0 then kr [] (Tr.node (Tr.node (Tr.node (Tr.node (Tr.node Tr.nil (some (Value.int IntKind.i64 (m_lkE p q))) Tr.nil) (some (Value.int IntKind.i64 (m_lkP p q))) Tr.nil) none (Tr.node Tr.nil (some (Value.int IntKind.i64 (m_lkE p q))) Tr.nil)) (some (Value.int IntKind.i64 q)) (Tr.node (Tr.node (Tr.node Tr.nil (some (Value.int IntKind.i64 (m_fst p q))) Tr.nil) (some (Value.int IntKind.i64 (m_lkE p q))) Tr.nil) (some (Value.int IntKind.i64 i)) (Tr.node Tr.nil (some (Value.int IntKind.i64 (Int.ofNat 0))) Tr.nil))) (some (Value.int IntKind.i64 p)) (Tr.node (Tr.node (Tr.node (Tr.node Tr.nil (some (Value.int IntKind.i64 p)) Tr.nil) (some (Value.int IntKind.i64 (m_lkF p q))) Tr.nil) (some (Value.bool false)) (Tr.node Tr.nil (some (Value.slice (some (Addr.mk 0 0 none)) (m_tmN p q) 9223372036854775808)) Tr.nil)) none (Tr.node (Tr.node Tr.nil (some (Value.bool false)) Tr.nil) (some (Value.int IntKind.i64 (m_lkE p q))) (Tr.node Tr.nil (some (Value.int IntKind.i64 (m_lkC p q))) Tr.nil)))) [] (AW.mk 1 (Tr.node Tr.nil (some (AObj.cells (m_tm p q) 2 0 1)) Tr.nil) Tr.nil) else bif m_lkP p q != p then kr [] (Tr.node (Tr.node (Tr.node (Tr.node (Tr.node Tr.nil (some (Value.int IntKind.i64 (m_lkE p q))) Tr.nil) (some (Value.int IntKind.i64 (m_lkP p q))) Tr.nil) none (Tr.node Tr.nil (some (Value.int IntKind.i64 (m_lkE p q))) Tr.nil)) (some (Value.int IntKind.i64 q)) (Tr.node (Tr.node (Tr.node Tr.nil (some (Value.int IntKind.i64 (m_fst p q))) Tr.nil) (some (Value.int IntKind.i64 (m_lkE p q))) Tr.nil) (some (Value.int IntKind.i64 i)) (Tr.node Tr.nil (some (Value.int IntKind.i64 (Int.ofNat 0))) Tr.nil))) (some (Value.int IntKind.i64 p)) (Tr.node (Tr.node (Tr.node (Tr.node Tr.nil (some (Value.int IntKind.i64 p)) Tr.nil) (some (Value.int IntKind.i64 (m_lkF p q))) Tr.nil) (some (Value.bool false)) (Tr.node Tr.nil (some (Value.slice (some (Addr.mk 0 0 none)) (m_tmN p q) 9223372036854775808)) Tr.nil)) none (Tr.node (Tr.node Tr.nil (some (Value.bool false)) Tr.nil) (some (Value.int IntKind.i64 (m_lkE p q))) (Tr.node Tr.nil (some (Value.int IntKind.i64 (m_lkC p q))) Tr.nil)))) [] (AW.mk 1 (Tr.node Tr.nil (some (AObj.cells (m_tm p q) 2 0 1)) Tr.nil) Tr.nil) else bif m_lkF p q != m_fst p q then kr [] (Tr.node (Tr.node (Tr.node (Tr.node (Tr.node Tr.nil (some (Value.int IntKind.i64 (m_lkE p q))) Tr.nil) (some (Value.int IntKind.i64 (m_lkP p q))) Tr.nil) none (Tr.node Tr.nil (some (Value.int IntKind.i64 (m_lkE p q))) Tr.nil)) (some (Value.int IntKind.i64 q)) (Tr.node (Tr.node (Tr.node Tr.nil (some (Value.int IntKind.i64 (m_fst p q))) Tr.nil) (some (Value.int IntKind.i64 (m_lkE p q))) Tr.nil) (some (Value.int IntKind.i64 i)) (Tr.node Tr.nil (some (Value.int IntKind.i64 (Int.ofNat 0))) Tr.nil))) (some (Value.int IntKind.i64 p)) (Tr.node (Tr.node (Tr.node (Tr.node Tr.nil (some (Value.int IntKind.i64 p)) Tr.nil) (some (Value.int IntKind.i64 (m_lkF p q))) Tr.nil) (some (Value.bool false)) (Tr.node Tr.nil (some (Value.slice (some (Addr.mk 0 0 none)) (m_tmN p q) 9223372036854775808)) Tr.nil)) none (Tr.node (Tr.node Tr.nil (some (Value.bool false)) Tr.nil) (some (Value.int IntKind.i64 (m_lkE p q))) (Tr.node Tr.nil (some (Value.int IntKind.i64 (m_lkC p q))) Tr.nil)))) [] (AW.mk 1 (Tr.node Tr.nil (some (AObj.cells (m_tm p q) 2 0 1)) Tr.nil) Tr.nil) else bif m_link p q then bif m_mir p q then kr [] (Tr.node (Tr.node (Tr.node (Tr.node (Tr.node Tr.nil (some (Value.int IntKind.i64 (m_lkE p q))) Tr.nil) (some (Value.int IntKind.i64 (m_lkP p q))) Tr.nil) none (Tr.node Tr.nil (some (Value.int IntKind.i64 (m_lkE p q))) Tr.nil)) (some (Value.int IntKind.i64 q)) (Tr.node (Tr.node (Tr.node Tr.nil (some (Value.int IntKind.i64 (m_fst p q))) Tr.nil) (some (Value.int IntKind.i64 (m_lkE p q))) Tr.nil) (some (Value.int IntKind.i64 i)) (Tr.node Tr.nil (some (Value.int IntKind.i64 (Int.ofNat 0))) Tr.nil))) (some (Value.int IntKind.i64 p)) (Tr.node (Tr.node (Tr.node (Tr.node Tr.nil (some (Value.int IntKind.i64 p)) Tr.nil) (some (Value.int IntKind.i64 (m_lkF p q))) Tr.nil) (some (Value.bool false)) (Tr.node Tr.nil (some (Value.slice (some (Addr.mk 0 0 none)) (m_tmN p q) 9223372036854775808)) Tr.nil)) none (Tr.node (Tr.node Tr.nil (some (Value.bool false)) Tr.nil) (some (Value.int IntKind.i64 (m_lkE p q))) (Tr.node Tr.nil (some (Value.int IntKind.i64 (m_lkC p q))) Tr.nil)))) [] (AW.mk 1 (Tr.node Tr.nil (some (AObj.cells (m_tm p q) 2 0 1)) Tr.nil) Tr.nil) else bif m_link p q then bif m_pos q then bif m_sameL (m_tm p q) 0 (m_tmN p q) (m_tm p q) 0 (m_tmN p q) && true then bif m_link p q then bif m_lkC p q != m_cs p q then kr [] (Tr.node (Tr.node (Tr.node (Tr.node (Tr.node Tr.nil (some (Value.int IntKind.i64 (m_lkE p q))) Tr.nil) (some (Value.int IntKind.i64 (m_lkP p q))) Tr.nil) none (Tr.node Tr.nil (some (Value.int IntKind.i64 (m_lkE p q))) Tr.nil)) (some (Value.int IntKind.i64 q)) (Tr.node (Tr.node (Tr.node Tr.nil (some (Value.int IntKind.i64 (m_fst p q))) Tr.nil) (some (Value.int IntKind.i64 (m_lkE p q))) Tr.nil) (some (Value.int IntKind.i64 i)) (Tr.node Tr.nil (some (Value.int IntKind.i64 (Int.ofNat 0))) Tr.nil))) (some (Value.int IntKind.i64 p)) (Tr.node (Tr.node (Tr.node (Tr.node Tr.nil (some (Value.int IntKind.i64 p)) Tr.nil) (some (Value.int IntKind.i64 (m_lkF p q))) Tr.nil) (some (Value.bool false)) (Tr.node Tr.nil (some (Value.slice (some (Addr.mk 0 0 none)) (m_tmN p q) 9223372036854775808)) Tr.nil)) none (Tr.node (Tr.node Tr.nil (some (Value.bool false)) Tr.nil) (some (Value.int IntKind.i64 (m_lkE p q))) (Tr.node Tr.nil (some (Value.int IntKind.i64 (m_lkC p q))) Tr.nil)))) [] (AW.mk 2 (Tr.node (Tr.node Tr.nil (some (AObj.cells (m_tm p q) 2 1 1)) Tr.nil) (some (AObj.cells (m_tm p q) 2 0 1)) Tr.nil) Tr.nil) else bif !decide (IntKind.wrap IntKind.u64 (IntKind.wrap IntKind.i64 (Int.ofNat 1 + IntKind.wrap IntKind.i64 (Int.tmod (IntKind.wrap IntKind.u64 p) (Int.ofNat 3000)))) = 0) then kn [(158, Value.int IntKind.i64 (IntKind.wrap IntKind.i64 (Int.tmod (IntKind.wrap IntKind.u64 q) (IntKind.wrap IntKind.u64 (IntKind.wrap IntKind.i64 (Int.ofNat 1 + IntKind.wrap IntKind.i64 (Int.tmod (IntKind.wrap IntKind.u64 p) (Int.ofNat 3000)))))))), (157, Value.int IntKind.u64 (Int.tmod (IntKind.wrap IntKind.u64 q) (IntKind.wrap IntKind.u64 (IntKind.wrap IntKind.i64 (Int.ofNat 1 + IntKind.wrap IntKind.i64 (Int.tmod (IntKind.wrap IntKind.u64 p) (Int.ofNat 3000))))))), (156, Value.int IntKind.u64 (IntKind.wrap IntKind.u64 (IntKind.wrap IntKind.i64 (Int.ofNat 1 + IntKind.wrap IntKind.i64 (Int.tmod (IntKind.wrap IntKind.u64 p) (Int.ofNat 3000)))))), (155, Value.int IntKind.i64 (IntKind.wrap IntKind.i64 (Int.ofNat 1 + IntKind.wrap IntKind.i64 (Int.tmod (IntKind.wrap IntKind.u64 p) (Int.ofNat 3000))))), (154, Value.int IntKind.u64 (IntKind.wrap IntKind.u64 q)), (153, Value.int IntKind.i64 q)] (Tr.node (Tr.node (Tr.node (Tr.node (Tr.node Tr.nil (some (Value.int IntKind.i64 (m_lkE p q))) Tr.nil) (some (Value.int IntKind.i64 (m_lkP p q))) Tr.nil) none (Tr.node Tr.nil (some (Value.int IntKind.i64 (m_lkE p q))) Tr.nil)) (some (Value.int IntKind.i64 (IntKind.wrap IntKind.i64 (Int.tmod (IntKind.wrap IntKind.u64 q) (IntKind.wrap IntKind.u64 (IntKind.wrap IntKind.i64 (Int.ofNat 1 + IntKind.wrap IntKind.i64 (Int.tmod (IntKind.wrap IntKind.u64 p) (Int.ofNat 3000))))))))) (Tr.node (Tr.node (Tr.node Tr.nil (some (Value.int IntKind.i64 (m_fst p q))) Tr.nil) (some (Value.int IntKind.i64 (m_lkE p q))) Tr.nil) (some (Value.int IntKind.i64 i)) (Tr.node Tr.nil (some (Value.int IntKind.i64 (Int.ofNat 0))) Tr.nil))) (some (Value.int IntKind.i64 (IntKind.wrap IntKind.i64 (Int.ofNat 1 + IntKind.wrap IntKind.i64 (Int.tmod (IntKind.wrap IntKind.u64 p) (Int.ofNat 3000)))))) (Tr.node (Tr.node (Tr.node (Tr.node Tr.nil (some (Value.int IntKind.i64 p)) Tr.nil) (some (Value.int IntKind.i64 (m_lkF p q))) Tr.nil) (some (Value.bool false)) (Tr.node Tr.nil (some (Value.slice (some (Addr.mk 0 0 none)) (m_tmN p q) 9223372036854775808)) Tr.nil)) none (Tr.node (Tr.node Tr.nil (some (Value.bool false)) Tr.nil) (some (Value.int IntKind.i64 (m_lkE p q))) (Tr.node Tr.nil (some (Value.int IntKind.i64 (m_lkC p q))) Tr.nil)))) [] (AW.mk 2 (Tr.node (Tr.node Tr.nil (some (AObj.cells (m_tm p q) 2 1 1)) Tr.nil) (some (AObj.cells (m_tm p q) 2 0 1)) Tr.nil) Tr.nil) else CR.fail 420 else CR.fail 420 else CR.fail 420 else CR.fail 420 else CR.fail 420 else CR.fail 420 else CR.fail 420 else bif m_lkE p q != Int.ofNat 61 then kr [] (Tr.node (Tr.node (Tr.node (Tr.node (Tr.node Tr.nil (some (Value.int IntKind.i64 (m_lkE p q))) Tr.nil) (some (Value.int IntKind.i64 (m_lkP p q))) Tr.nil) none (Tr.node Tr.nil (some (Value.int IntKind.i64 (m_lkE p q))) Tr.nil)) (some (Value.int IntKind.i64 q)) (Tr.node (Tr.node Tr.nil (some (Value.int IntKind.i64 (m_lkE p q))) Tr.nil) (some (Value.int IntKind.i64 i)) (Tr.node Tr.nil (some (Value.int IntKind.i64 (Int.ofNat 0))) Tr.nil))) (some (Value.int IntKind.i64 p)) (Tr.node (Tr.node (Tr.node Tr.nil (some (Value.int IntKind.i64 (m_lkF p q))) Tr.nil) (some (Value.bool false)) (Tr.node Tr.nil (some (Value.slice (some (Addr.mk 0 0 none)) (m_tmN p q) 9223372036854775808)) Tr.nil)) none (Tr.node (Tr.node Tr.nil (some (Value.bool false)) Tr.nil) (some (Value.int IntKind.i64 (m_lkE p q))) (Tr.node Tr.nil (some (Value.int IntKind.i64 (m_lkC p q))) Tr.nil)))) [] (AW.mk 1 (Tr.node Tr.nil (some (AObj.cells (m_tm p q) 2 0 1)) Tr.nil) Tr.nil) else bif m_lkE p q != Int.ofNat 61 then kr [] (Tr.node (Tr.node (Tr.node (Tr.node (Tr.node Tr.nil (some (Value.int IntKind.i64 (m_lkE p q))) Tr.nil) (some (Value.int IntKind.i64 (m_lkP p q))) Tr.nil) none (Tr.node Tr.nil (some (Value.int IntKind.i64 (m_lkE p q))) Tr.nil)) (some (Value.int IntKind.i64 q)) (Tr.node (Tr.node Tr.nil (some (Value.int IntKind.i64 (m_lkE p q))) Tr.nil) (some (Value.int IntKind.i64 i)) (Tr.node Tr.nil (some (Value.int IntKind.i64 (Int.ofNat 0))) Tr.nil))) (some (Value.int IntKind.i64 p)) (Tr.node (Tr.node (Tr.node Tr.nil (some (Value.int IntKind.i64 (m_lkF p q))) Tr.nil) (some (Value.bool false)) (Tr.node Tr.nil (some (Value.slice (some (Addr.mk 0 0 none)) (m_tmN p q) 9223372036854775808)) Tr.nil)) none (Tr.node (Tr.node Tr.nil (some (Value.bool false)) Tr.nil) (some (Value.int IntKind.i64 (m_lkE p q))) (Tr.node Tr.nil (some (Value.int IntKind.i64 (m_lkC p q))) Tr.nil)))) [] (AW.mk 1 (Tr.node Tr.nil (some (AObj.cells (m_tm p q) 2 0 1)) Tr.nil) Tr.nil) else bif m_lkE p q != Int.ofNat 61 then kr [] (Tr.node (Tr.node (Tr.node (Tr.node (Tr.node Tr.nil (some (Value.int IntKind.i64 (m_lkE p q))) Tr.nil) (some (Value.int IntKind.i64 (m_lkP p q))) Tr.nil) none (Tr.node Tr.nil (some (Value.int IntKind.i64 (m_lkE p q))) Tr.nil)) (some (Value.int IntKind.i64 q)) (Tr.node (Tr.node Tr.nil (some (Value.int IntKind.i64 (m_lkE p q))) Tr.nil) (some (Value.int IntKind.i64 i)) (Tr.node Tr.nil (some (Value.int IntKind.i64 (Int.ofNat 0))) Tr.nil))) (some (Value.int IntKind.i64 p)) (Tr.node (Tr.node (Tr.node Tr.nil (some (Value.int IntKind.i64 (m_lkF p q))) Tr.nil) (some (Value.bool false)) (Tr.node Tr.nil (some (Value.slice (some (Addr.mk 0 0 none)) (m_tmN p q) 9223372036854775808)) Tr.nil)) none (Tr.node (Tr.node Tr.nil (some (Value.bool false)) Tr.nil) (some (Value.int IntKind.i64 (m_lkE p q))) (Tr.node Tr.nil (some (Value.int IntKind.i64 (m_lkC p q))) Tr.nil)))) [] (AW.mk 1 (Tr.node Tr.nil (some (AObj.cells (m_tm p q) 2 0 1)) Tr.nil) Tr.nil) else kr [] (Tr.node (Tr.node (Tr.node (Tr.node (Tr.node Tr.nil (some (Value.int IntKind.i64 (m_lkE p q))) Tr.nil) (some (Value.int IntKind.i64 (m_lkP p q))) Tr.nil) none (Tr.node Tr.nil (some (Value.int IntKind.i64 (m_lkE p q))) Tr.nil)) (some (Value.int IntKind.i64 q)) (Tr.node (Tr.node Tr.nil (some (Value.int IntKind.i64 (m_lkE p q))) Tr.nil) (some (Value.int IntKind.i64 i)) (Tr.node Tr.nil (some (Value.int IntKind.i64 (Int.ofNat 0))) Tr.nil))) (some (Value.int IntKind.i64 p)) (Tr.node (Tr.node (Tr.node Tr.nil (some (Value.int IntKind.i64 (m_lkF p q))) Tr.nil) (some (Value.bool false)) (Tr.node Tr.nil (some (Value.slice (some (Addr.mk 0 0 none)) (m_tmN p q) 9223372036854775808)) Tr.nil)) none (Tr.node (Tr.node Tr.nil (some (Value.bool false)) Tr.nil) (some (Value.int IntKind.i64 (m_lkE p q))) (Tr.node Tr.nil (some (Value.int IntKind.i64 (m_lkC p q))) Tr.nil)))) [] (AW.mk 1 (Tr.node Tr.nil (some (AObj.cells (m_tm p q) 2 0 1)) Tr.nil) Tr.nil) else bif m_link p q then bif m_link p q then bif m_lkE p q != Int.ofNat 0 then kr [] (Tr.node (Tr.node (Tr.node (Tr.node (Tr.node Tr.nil (some (Value.int IntKind.i64 (m_lkE p q))) Tr.nil) (some (Value.int IntKind.i64 (m_lkP p q))) Tr.nil) none (Tr.node Tr.nil (some (Value.int IntKind.i64 (m_lkE p q))) Tr.nil)) (some (Value.int IntKind.i64 q)) (Tr.node (Tr.node (Tr.node Tr.nil (some (Value.int IntKind.i64 (m_fst p q))) Tr.nil) (some (Value.int IntKind.i64 (m_lkE p q))) Tr.nil) (some (Value.int IntKind.i64 i)) (Tr.node Tr.nil (some (Value.int IntKind.i64 (m_lkE p q))) Tr.nil))) (some (Value.int IntKind.i64 p)) (Tr.node (Tr.node (Tr.node (Tr.node Tr.nil (some (Value.int IntKind.i64 p)) Tr.nil) (some (Value.int IntKind.i64 (m_lkF p q))) Tr.nil) (some (Value.bool false)) (Tr.node Tr.nil (some (Value.slice none 0 0)) Tr.nil)) none (Tr.node (Tr.node Tr.nil (some (Value.bool false)) Tr.nil) (some (Value.int IntKind.i64 (m_lkE p q))) (Tr.node Tr.nil (some (Value.int IntKind.i64 (m_lkC p q))) Tr.nil)))) [] (AW.mk 0 Tr.nil Tr.nil) else bif m_lkE p q != Int.ofNat 0 then kr [] (Tr.node (Tr.node (Tr.node (Tr.node (Tr.node Tr.nil (some (Value.int IntKind.i64 (m_lkE p q))) Tr.nil) (some (Value.int IntKind.i64 (m_lkP p q))) Tr.nil) none (Tr.node Tr.nil (some (Value.int IntKind.i64 (m_lkE p q))) Tr.nil)) (some (Value.int IntKind.i64 q)) (Tr.node (Tr.node (Tr.node Tr.nil (some (Value.int IntKind.i64 (m_fst p q))) Tr.nil) (some (Value.int IntKind.i64 (m_lkE p q))) Tr.nil) (some (Value.int IntKind.i64 i)) (Tr.node Tr.nil (some (Value.int IntKind.i64 (m_lkE p q))) Tr.nil))) (some (Value.int IntKind.i64 p)) (Tr.node (Tr.node (Tr.node (Tr.node Tr.nil (some (Value.int IntKind.i64 p)) Tr.nil) (some (Value.int IntKind.i64 (m_lkF p q))) Tr.nil) (some (Value.bool false)) (Tr.node Tr.nil (some (Value.slice none 0 0)) Tr.nil)) none (Tr.node (Tr.node Tr.nil (some (Value.bool false)) Tr.nil) (some (Value.int IntKind.i64 (m_lkE p q))) (Tr.node Tr.nil (some (Value.int IntKind.i64 (m_lkC p q))) Tr.nil)))) [] (AW.mk 0 Tr.nil Tr.nil) else bif m_lkE p q != Int.ofNat 0 then kr [] (Tr.node (Tr.node (Tr.node (Tr.node (Tr.node Tr.nil (some (Value.int IntKind.i64 (m_lkE p q))) Tr.nil) (some (Value.int IntKind.i64 (m_lkP p q))) Tr.nil) none (Tr.node Tr.nil (some (Value.int IntKind.i64 (m_lkE p q))) Tr.nil)) (some (Value.int IntKind.i64 q)) (Tr.node (Tr.node (Tr.node Tr.nil (some (Value.int IntKind.i64 (m_fst p q))) Tr.nil) (some (Value.int IntKind.i64 (m_lkE p q))) Tr.nil) (some (Value.int IntKind.i64 i)) (Tr.node Tr.nil (some (Value.int IntKind.i64 (m_lkE p q))) Tr.nil))) (some (Value.int IntKind.i64 p)) (Tr.node (Tr.node (Tr.node (Tr.node Tr.nil (some (Value.int IntKind.i64 p)) Tr.nil) (some (Value.int IntKind.i64 (m_lkF p q))) Tr.nil) (some (Value.bool false)) (Tr.node Tr.nil (some (Value.slice none 0 0)) Tr.nil)) none (Tr.node (Tr.node Tr.nil (some (Value.bool false)) Tr.nil) (some (Value.int IntKind.i64 (m_lkE p q))) (Tr.node Tr.nil (some (Value.int IntKind.i64 (m_lkC p q))) Tr.nil)))) [] (AW.mk 0 Tr.nil Tr.nil) else bif m_lkE p q != Int.ofNat 0 then kr [] (Tr.node (Tr.node (Tr.node (Tr.node (Tr.node Tr.nil (some (Value.int IntKind.i64 (m_lkE p q))) Tr.nil) (some (Value.int IntKind.i64 (m_lkP p q))) Tr.nil) none (Tr.node Tr.nil (some (Value.int IntKind.i64 (m_lkE p q))) Tr.nil)) (some (Value.int IntKind.i64 q)) (Tr.node (Tr.node (Tr.node Tr.nil (some (Value.int IntKind.i64 (m_fst p q))) Tr.nil) (some (Value.int IntKind.i64 (m_lkE p q))) Tr.nil) (some (Value.int IntKind.i64 i)) (Tr.node Tr.nil (some (Value.int IntKind.i64 (m_lkE p q))) Tr.nil))) (some (Value.int IntKind.i64 p)) (Tr.node (Tr.node (Tr.node (Tr.node Tr.nil (some (Value.int IntKind.i64 p)) Tr.nil) (some (Value.int IntKind.i64 (m_lkF p q))) Tr.nil) (some (Value.bool false)) (Tr.node Tr.nil (some (Value.slice none 0 0)) Tr.nil)) none (Tr.node (Tr.node Tr.nil (some (Value.bool false)) Tr.nil) (some (Value.int IntKind.i64 (m_lkE p q))) (Tr.node Tr.nil (some (Value.int IntKind.i64 (m_lkC p q))) Tr.nil)))) [] (AW.mk 0 Tr.nil Tr.nil) else bif m_lkE p q != Int.ofNat 0 then kr [] (Tr.node (Tr.node (Tr.node (Tr.node (Tr.node Tr.nil (some (Value.int IntKind.i64 (m_lkE p q))) Tr.nil) (some (Value.int IntKind.i64 (m_lkP p q))) Tr.nil) none (Tr.node Tr.nil (some (Value.int IntKind.i64 (m_lkE p q))) Tr.nil)) (some (Value.int IntKind.i64 q)) (Tr.node (Tr.node (Tr.node Tr.nil (some (Value.int IntKind.i64 (m_fst p q))) Tr.nil) (some (Value.int IntKind.i64 (m_lkE p q))) Tr.nil) (some (Value.int IntKind.i64 i)) (Tr.node Tr.nil (some (Value.int IntKind.i64 (m_lkE p q))) Tr.nil))) (some (Value.int IntKind.i64 p)) (Tr.node (Tr.node (Tr.node (Tr.node Tr.nil (some (Value.int IntKind.i64 p)) Tr.nil) (some (Value.int IntKind.i64 (m_lkF p q))) Tr.nil) (some (Value.bool false)) (Tr.node Tr.nil (some (Value.slice none 0 0)) Tr.nil)) none (Tr.node (Tr.node Tr.nil (some (Value.bool false)) Tr.nil) (some (Value.int IntKind.i64 (m_lkE p q))) (Tr.node Tr.nil (some (Value.int IntKind.i64 (m_lkC p q))) Tr.nil)))) [] (AW.mk 0 Tr.nil Tr.nil) else bif m_lkP p q != p then kr [] (Tr.node (Tr.node (Tr.node (Tr.node (Tr.node Tr.nil (some (Value.int IntKind.i64 (m_lkE p q))) Tr.nil) (some (Value.int IntKind.i64 (m_lkP p q))) Tr.nil) none (Tr.node Tr.nil (some (Value.int IntKind.i64 (m_lkE p q))) Tr.nil)) (some (Value.int IntKind.i64 q)) (Tr.node (Tr.node (Tr.node Tr.nil (some (Value.int IntKind.i64 (m_fst p q))) Tr.nil) (some (Value.int IntKind.i64 (m_lkE p q))) Tr.nil) (some (Value.int IntKind.i64 i)) (Tr.node Tr.nil (some (Value.int IntKind.i64 (m_lkE p q))) Tr.nil))) (some (Value.int IntKind.i64 p)) (Tr.node (Tr.node (Tr.node (Tr.node Tr.nil (some (Value.int IntKind.i64 p)) Tr.nil) (some (Value.int IntKind.i64 (m_lkF p q))) Tr.nil) (some (Value.bool false)) (Tr.node Tr.nil (some (Value.slice none 0 0)) Tr.nil)) none (Tr.node (Tr.node Tr.nil (some (Value.bool false)) Tr.nil) (some (Value.int IntKind.i64 (m_lkE p q))) (Tr.node Tr.nil (some (Value.int IntKind.i64 (m_lkC p q))) Tr.nil)))) [] (AW.mk 0 Tr.nil Tr.nil) else bif m_lkF p q != m_fst p q then kr [] (Tr.node (Tr.node (Tr.node (Tr.node (Tr.node Tr.nil (some (Value.int IntKind.i64 (m_lkE p q))) Tr.nil) (some (Value.int IntKind.i64 (m_lkP p q))) Tr.nil) none (Tr.node Tr.nil (some (Value.int IntKind.i64 (m_lkE p q))) Tr.nil)) (some (Value.int IntKind.i64 q)) (Tr.node (Tr.node (Tr.node Tr.nil (some (Value.int IntKind.i64 (m_fst p q))) Tr.nil) (some (Value.int IntKind.i64 (m_lkE p q))) Tr.nil) (some (Value.int IntKind.i64 i)) (Tr.node Tr.nil (some (Value.int IntKind.i64 (m_lkE p q))) Tr.nil))) (some (Value.int IntKind.i64 p)) (Tr.node (Tr.node (Tr.node (Tr.node Tr.nil (some (Value.int IntKind.i64 p)) Tr.nil) (some (Value.int IntKind.i64 (m_lkF p q))) Tr.nil) (some (Value.bool false)) (Tr.node Tr.nil (some (Value.slice none 0 0)) Tr.nil)) none (Tr.node (Tr.node Tr.nil (some (Value.bool false)) Tr.nil) (some (Value.int IntKind.i64 (m_lkE p q))) (Tr.node Tr.nil (some (Value.int IntKind.i64 (m_lkC p q))) Tr.nil)))) [] (AW.mk 0 Tr.nil Tr.nil) else bif m_link p q then bif m_mir p q then kr [] (Tr.node (Tr.node (Tr.node (Tr.node (Tr.node Tr.nil (some (Value.int IntKind.i64 (m_lkE p q))) Tr.nil) (some (Value.int IntKind.i64 (m_lkP p q))) Tr.nil) none (Tr.node Tr.nil (some (Value.int IntKind.i64 (m_lkE p q))) Tr.nil)) (some (Value.int IntKind.i64 q)) (Tr.node (Tr.node (Tr.node Tr.nil (some (Value.int IntKind.i64 (m_fst p q))) Tr.nil) (some (Value.int IntKind.i64 (m_lkE p q))) Tr.nil) (some (Value.int IntKind.i64 i)) (Tr.node Tr.nil (some (Value.int IntKind.i64 (m_lkE p q))) Tr.nil))) (some (Value.int IntKind.i64 p)) (Tr.node (Tr.node (Tr.node (Tr.node Tr.nil (some (Value.int IntKind.i64 p)) Tr.nil) (some (Value.int IntKind.i64 (m_lkF p q))) Tr.nil) (some (Value.bool false)) (Tr.node Tr.nil (some (Value.slice none 0 0)) Tr.nil)) none (Tr.node (Tr.node Tr.nil (some (Value.bool false)) Tr.nil) (some (Value.int IntKind.i64 (m_lkE p q))) (Tr.node Tr.nil (some (Value.int IntKind.i64 (m_lkC p q))) Tr.nil)))) [] (AW.mk 0 Tr.nil Tr.nil) else bif m_link p q then bif m_pos q then CR.fail 420 else bif m_link p q then bif m_lkC p q != m_cs p q then kr [] (Tr.node (Tr.node (Tr.node (Tr.node (Tr.node Tr.nil (some (Value.int IntKind.i64 (m_lkE p q))) Tr.nil) (some (Value.int IntKind.i64 (m_lkP p q))) Tr.nil) none (Tr.node Tr.nil (some (Value.int IntKind.i64 (m_lkE p q))) Tr.nil)) (some (Value.int IntKind.i64 q)) (Tr.node (Tr.node (Tr.node Tr.nil (some (Value.int IntKind.i64 (m_fst p q))) Tr.nil) (some (Value.int IntKind.i64 (m_lkE p q))) Tr.nil) (some (Value.int IntKind.i64 i)) (Tr.node Tr.nil (some (Value.int IntKind.i64 (m_lkE p q))) Tr.nil))) (some (Value.int IntKind.i64 p)) (Tr.node (Tr.node (Tr.node (Tr.node Tr.nil (some (Value.int IntKind.i64 p)) Tr.nil) (some (Value.int IntKind.i64 (m_lkF p q))) Tr.nil) (some (Value.bool false)) (Tr.node Tr.nil (some (Value.slice none 0 0)) Tr.nil)) none (Tr.node (Tr.node Tr.nil (some (Value.bool false)) Tr.nil) (some (Value.int IntKind.i64 (m_lkE p q))) (Tr.node Tr.nil (some (Value.int IntKind.i64 (m_lkC p q))) Tr.nil)))) [] (AW.mk 0 Tr.nil Tr.nil) else bif !decide (IntKind.wrap IntKind.u64 (IntKind.wrap IntKind.i64 (Int.ofNat 1 + IntKind.wrap IntKind.i64 (Int.tmod (IntKind.wrap IntKind.u64 p) (Int.ofNat 3000)))) = 0) then kn [(158, Value.int IntKind.i64 (IntKind.wrap IntKind.i64 (Int.tmod (IntKind.wrap IntKind.u64 q) (IntKind.wrap IntKind.u64 (IntKind.wrap IntKind.i64 (Int.ofNat 1 + IntKind.wrap IntKind.i64 (Int.tmod (IntKind.wrap IntKind.u64 p) (Int.ofNat 3000)))))))), (157, Value.int IntKind.u64 (Int.tmod (IntKind.wrap IntKind.u64 q) (IntKind.wrap IntKind.u64 (IntKind.wrap IntKind.i64 (Int.ofNat 1 + IntKind.wrap IntKind.i64 (Int.tmod (IntKind.wrap IntKind.u64 p) (Int.ofNat 3000))))))), (156, Value.int IntKind.u64 (IntKind.wrap IntKind.u64 (IntKind.wrap IntKind.i64 (Int.ofNat 1 + IntKind.wrap IntKind.i64 (Int.tmod (IntKind.wrap IntKind.u64 p) (Int.ofNat 3000)))))), (155, Value.int IntKind.i64 (IntKind.wrap IntKind.i64 (Int.ofNat 1 + IntKind.wrap IntKind.i64 (Int.tmod (IntKind.wrap IntKind.u64 p) (Int.ofNat 3000))))), (154, Value.int IntKind.u64 (IntKind.wrap IntKind.u64 q)), (153, Value.int IntKind.i64 q)] (Tr.node (Tr.node (Tr.node (Tr.node (Tr.node Tr.nil (some (Value.int IntKind.i64 (m_lkE p q))) Tr.nil) (some (Value.int IntKind.i64 (m_lkP p q))) Tr.nil) none (Tr.node Tr.nil (some (Value.int IntKind.i64 (m_lkE p q))) Tr.nil)) (some (Value.int IntKind.i64 (IntKind.wrap IntKind.i64 (Int.tmod (IntKind.wrap IntKind.u64 q) (IntKind.wrap IntKind.u64 (IntKind.wrap IntKind.i64 (Int.ofNat 1 + IntKind.wrap IntKind.i64 (Int.tmod (IntKind.wrap IntKind.u64 p) (Int.ofNat 3000))))))))) (Tr.node (Tr.node (Tr.node Tr.nil (some (Value.int IntKind.i64 (m_fst p q))) Tr.nil) (some (Value.int IntKind.i64 (m_lkE p q))) Tr.nil) (some (Value.int IntKind.i64 i)) (Tr.node Tr.nil (some (Value.int IntKind.i64 (m_lkE p q))) Tr.nil))) (some (Value.int IntKind.i64 (IntKind.wrap IntKind.i64 (Int.ofNat 1 + IntKind.wrap IntKind.i64 (Int.tmod (IntKind.wrap IntKind.u64 p) (Int.ofNat 3000)))))) (Tr.node (Tr.node (Tr.node (Tr.node Tr.nil (some (Value.int IntKind.i64 p)) Tr.nil) (some (Value.int IntKind.i64 (m_lkF p q))) Tr.nil) (some (Value.bool false)) (Tr.node Tr.nil (some (Value.slice none 0 0)) Tr.nil)) none (Tr.node (Tr.node Tr.nil (some (Value.bool false)) Tr.nil) (some (Value.int IntKind.i64 (m_lkE p q))) (Tr.node Tr.nil (some (Value.int IntKind.i64 (m_lkC p q))) Tr.nil)))) [] (AW.mk 0 Tr.nil Tr.nil) else CR.fail 420 else CR.fail 420 else CR.fail 420 else CR.fail 420 else CR.fail 420 else bif m_lkE p q != Int.ofNat 61 then kr [] (Tr.node (Tr.node (Tr.node (Tr.node (Tr.node Tr.nil (some (Value.int IntKind.i64 (m_lkE p q))) Tr.nil) (some (Value.int IntKind.i64 (m_lkP p q))) Tr.nil) none (Tr.node Tr.nil (some (Value.int IntKind.i64 (m_lkE p q))) Tr.nil)) (some (Value.int IntKind.i64 q)) (Tr.node (Tr.node Tr.nil (some (Value.int IntKind.i64 (m_lkE p q))) Tr.nil) (some (Value.int IntKind.i64 i)) (Tr.node Tr.nil (some (Value.int IntKind.i64 (m_lkE p q))) Tr.nil))) (some (Value.int IntKind.i64 p)) (Tr.node (Tr.node (Tr.node Tr.nil (some (Value.int IntKind.i64 (m_lkF p q))) Tr.nil) (some (Value.bool false)) (Tr.node Tr.nil (some (Value.slice none 0 0)) Tr.nil)) none (Tr.node (Tr.node Tr.nil (some (Value.bool false)) Tr.nil) (some (Value.int IntKind.i64 (m_lkE p q))) (Tr.node Tr.nil (some (Value.int IntKind.i64 (m_lkC p q))) Tr.nil)))) [] (AW.mk 0 Tr.nil Tr.nil) else bif m_lkE p q != Int.ofNat 61 then kr [] (Tr.node (Tr.node (Tr.node (Tr.node (Tr.node Tr.nil (some (Value.int IntKind.i64 (m_lkE p q))) Tr.nil) (some (Value.int IntKind.i64 (m_lkP p q))) Tr.nil) none (Tr.node Tr.nil (some (Value.int IntKind.i64 (m_lkE p q))) Tr.nil)) (some (Value.int IntKind.i64 q)) (Tr.node (Tr.node Tr.nil (some (Value.int IntKind.i64 (m_lkE p q))) Tr.nil) (some (Value.int IntKind.i64 i)) (Tr.node Tr.nil (some (Value.int IntKind.i64 (m_lkE p q))) Tr.nil))) (some (Value.int IntKind.i64 p)) (Tr.node (Tr.node (Tr.node Tr.nil (some (Value.int IntKind.i64 (m_lkF p q))) Tr.nil) (some (Value.bool false)) (Tr.node Tr.nil (some (Value.slice none 0 0)) Tr.nil)) none (Tr.node (Tr.node Tr.nil (some (Value.bool false)) Tr.nil) (some (Value.int IntKind.i64 (m_lkE p q))) (Tr.node Tr.nil (some (Value.int IntKind.i64 (m_lkC p q))) Tr.nil)))) [] (AW.mk 0 Tr.nil Tr.nil) else bif m_lkE p q != Int.ofNat 61 then kr [] (Tr.node (Tr.node (Tr.node (Tr.node (Tr.node Tr.nil (some (Value.int IntKind.i64 (m_lkE p q))) Tr.nil) (some (Value.int IntKind.i64 (m_lkP p q))) Tr.nil) none (Tr.node Tr.nil (some (Value.int IntKind.i64 (m_lkE p q))) Tr.nil)) (some (Value.int IntKind.i64 q)) (Tr.node (Tr.node Tr.nil (some (Value.int IntKind.i64 (m_lkE p q))) Tr.nil) (some (Value.int IntKind.i64 i)) (Tr.node Tr.nil (some (Value.int IntKind.i64 (m_lkE p q))) Tr.nil))) (some (Value.int IntKind.i64 p)) (Tr.node (Tr.node (Tr.node Tr.nil (some (Value.int IntKind.i64 (m_lkF p q))) Tr.nil) (some (Value.bool false)) (Tr.node Tr.nil (some (Value.slice none 0 0)) Tr.nil)) none (Tr.node (Tr.node Tr.nil (some (Value.bool false)) Tr.nil) (some (Value.int IntKind.i64 (m_lkE p q))) (Tr.node Tr.nil (some (Value.int IntKind.i64 (m_lkC p q))) Tr.nil)))) [] (AW.mk 0 Tr.nil Tr.nil) else bif m_lkE p q != Int.ofNat 61 then kr [] (Tr.node (Tr.node (Tr.node (Tr.node (Tr.node Tr.nil (some (Value.int IntKind.i64 (m_lkE p q))) Tr.nil) (some (Value.int IntKind.i64 (m_lkP p q))) Tr.nil) none (Tr.node Tr.nil (some (Value.int IntKind.i64 (m_lkE p q))) Tr.nil)) (some (Value.int IntKind.i64 q)) (Tr.node (Tr.node Tr.nil (some (Value.int IntKind.i64 (m_lkE p q))) Tr.nil) (some (Value.int IntKind.i64 i)) (Tr.node Tr.nil (some (Value.int IntKind.i64 (m_lkE p q))) Tr.nil))) (some (Value.int IntKind.i64 p)) (Tr.node (Tr.node (Tr.node Tr.nil (some (Value.int IntKind.i64 (m_lkF p q))) Tr.nil) (some (Value.bool false)) (Tr.node Tr.nil (some (Value.slice none 0 0)) Tr.nil)) none (Tr.node (Tr.node Tr.nil (some (Value.bool false)) Tr.nil) (some (Value.int IntKind.i64 (m_lkE p q))) (Tr.node Tr.nil (some (Value.int IntKind.i64 (m_lkC p q))) Tr.nil)))) [] (AW.mk 0 Tr.nil Tr.nil) else bif m_lkE p q != Int.ofNat 61 then kr [] (Tr.node (Tr.node (Tr.node (Tr.node (Tr.node Tr.nil (some (Value.int IntKind.i64 (m_lkE p q))) Tr.nil) (some (Value.int IntKind.i64 (m_lkP p q))) Tr.nil) none (Tr.node Tr.nil (some (Value.int IntKind.i64 (m_lkE p q))) Tr.nil)) (some (Value.int IntKind.i64 q)) (Tr.node (Tr.node Tr.nil (some (Value.int IntKind.i64 (m_lkE p q))) Tr.nil) (some (Value.int IntKind.i64 i)) (Tr.node Tr.nil (some (Value.int IntKind.i64 (m_lkE p q))) Tr.nil))) (some (Value.int IntKind.i64 p)) (Tr.node (Tr.node (Tr.node Tr.nil (some (Value.int IntKind.i64 (m_lkF p q))) Tr.nil) (some (Value.bool false)) (Tr.node Tr.nil (some (Value.slice none 0 0)) Tr.nil)) none (Tr.node (Tr.node Tr.nil (some (Value.bool false)) Tr.nil) (some (Value.int IntKind.i64 (m_lkE p q))) (Tr.node Tr.nil (some (Value.int IntKind.i64 (m_lkC p q))) Tr.nil)))) [] (AW.mk 0 Tr.nil Tr.nil) else bif m_lkP p q != Int.ofNat 0 then kr [] (Tr.node (Tr.node (Tr.node (Tr.node (Tr.node Tr.nil (some (Value.int IntKind.i64 (m_lkE p q))) Tr.nil) (some (Value.int IntKind.i64 (m_lkP p q))) Tr.nil) none (Tr.node Tr.nil (some (Value.int IntKind.i64 (m_lkE p q))) Tr.nil)) (some (Value.int IntKind.i64 q)) (Tr.node (Tr.node Tr.nil (some (Value.int IntKind.i64 (m_lkE p q))) Tr.nil) (some (Value.int IntKind.i64 i)) (Tr.node Tr.nil (some (Value.int IntKind.i64 (m_lkE p q))) Tr.nil))) (some (Value.int IntKind.i64 p)) (Tr.node (Tr.node (Tr.node Tr.nil (some (Value.int IntKind.i64 (m_lkF p q))) Tr.nil) (some (Value.bool false)) (Tr.node Tr.nil (some (Value.slice none 0 0)) Tr.nil)) none (Tr.node (Tr.node Tr.nil (some (Value.bool false)) Tr.nil) (some (Value.int IntKind.i64 (m_lkE p q))) (Tr.node Tr.nil (some (Value.int IntKind.i64 (m_lkC p q))) Tr.nil)))) [] (AW.mk 0 Tr.nil Tr.nil) else bif m_lkF p q != Int.ofNat 0 then kr [] (Tr.node (Tr.node (Tr.node (Tr.node (Tr.node Tr.nil (some (Value.int IntKind.i64 (m_lkE p q))) Tr.nil) (some (Value.int IntKind.i64 (m_lkP p q))) Tr.nil) none (Tr.node Tr.nil (some (Value.int IntKind.i64 (m_lkE p q))) Tr.nil)) (some (Value.int IntKind.i64 q)) (Tr.node (Tr.node Tr.nil (some (Value.int IntKind.i64 (m_lkE p q))) Tr.nil) (some (Value.int IntKind.i64 i)) (Tr.node Tr.nil (some (Value.int IntKind.i64 (m_lkE p q))) Tr.nil))) (some (Value.int IntKind.i64 p)) (Tr.node (Tr.node (Tr.node Tr.nil (some (Value.int IntKind.i64 (m_lkF p q))) Tr.nil) (some (Value.bool false)) (Tr.node Tr.nil (some (Value.slice none 0 0)) Tr.nil)) none (Tr.node (Tr.node Tr.nil (some (Value.bool false)) Tr.nil) (some (Value.int IntKind.i64 (m_lkE p q))) (Tr.node Tr.nil (some (Value.int IntKind.i64 (m_lkC p q))) Tr.nil)))) [] (AW.mk 0 Tr.nil Tr.nil) else bif m_lkC p q != Int.ofNat 0 then kr [] (Tr.node (Tr.node (Tr.node (Tr.node (Tr.node Tr.nil (some (Value.int IntKind.i64 (m_lkE p q))) Tr.nil) (some (Value.int IntKind.i64 (m_lkP p q))) Tr.nil) none (Tr.node Tr.nil (some (Value.int IntKind.i64 (m_lkE p q))) Tr.nil)) (some (Value.int IntKind.i64 q)) (Tr.node (Tr.node Tr.nil (some (Value.int IntKind.i64 (m_lkE p q))) Tr.nil) (some (Value.int IntKind.i64 i)) (Tr.node Tr.nil (some (Value.int IntKind.i64 (m_lkE p q))) Tr.nil))) (some (Value.int IntKind.i64 p)) (Tr.node (Tr.node (Tr.node Tr.nil (some (Value.int IntKind.i64 (m_lkF p q))) Tr.nil) (some (Value.bool false)) (Tr.node Tr.nil (some (Value.slice none 0 0)) Tr.nil)) none (Tr.node (Tr.node Tr.nil (some (Value.bool false)) Tr.nil) (some (Value.int IntKind.i64 (m_lkE p q))) (Tr.node Tr.nil (some (Value.int IntKind.i64 (m_lkC p q))) Tr.nil)))) [] (AW.mk 0 Tr.nil Tr.nil) else bif !decide (IntKind.wrap IntKind.u64 (IntKind.wrap IntKind.i64 (Int.ofNat 1 + IntKind.wrap IntKind.i64 (Int.tmod (IntKind.wrap IntKind.u64 p) (Int.ofNat 3000)))) = 0) then kn [(158, Value.int IntKind.i64 (IntKind.wrap IntKind.i64 (Int.tmod (IntKind.wrap IntKind.u64 q) (IntKind.wrap IntKind.u64 (IntKind.wrap IntKind.i64 (Int.ofNat 1 + IntKind.wrap IntKind.i64 (Int.tmod (IntKind.wrap IntKind.u64 p) (Int.ofNat 3000)))))))), (157, Value.int IntKind.u64 (Int.tmod (IntKind.wrap IntKind.u64 q) (IntKind.wrap IntKind.u64 (IntKind.wrap IntKind.i64 (Int.ofNat 1 + IntKind.wrap IntKind.i64 (Int.tmod (IntKind.wrap IntKind.u64 p) (Int.ofNat 3000))))))), (156, Value.int IntKind.u64 (IntKind.wrap IntKind.u64 (IntKind.wrap IntKind.i64 (Int.ofNat 1 + IntKind.wrap IntKind.i64 (Int.tmod (IntKind.wrap IntKind.u64 p) (Int.ofNat 3000)))))), (155, Value.int IntKind.i64 (IntKind.wrap IntKind.i64 (Int.ofNat 1 + IntKind.wrap IntKind.i64 (Int.tmod (IntKind.wrap IntKind.u64 p) (Int.ofNat 3000))))), (154, Value.int IntKind.u64 (IntKind.wrap IntKind.u64 q)), (153, Value.int IntKind.i64 q)] (Tr.node (Tr.node (Tr.node (Tr.node (Tr.node Tr.nil (some (Value.int IntKind.i64 (m_lkE p q))) Tr.nil) (some (Value.int IntKind.i64 (m_lkP p q))) Tr.nil) none (Tr.node Tr.nil (some (Value.int IntKind.i64 (m_lkE p q))) Tr.nil)) (some (Value.int IntKind.i64 (IntKind.wrap IntKind.i64 (Int.tmod (IntKind.wrap IntKind.u64 q) (IntKind.wrap IntKind.u64 (IntKind.wrap IntKind.i64 (Int.ofNat 1 + IntKind.wrap IntKind.i64 (Int.tmod (IntKind.wrap IntKind.u64 p) (Int.ofNat 3000))))))))) (Tr.node (Tr.node Tr.nil (some (Value.int IntKind.i64 (m_lkE p q))) Tr.nil) (some (Value.int IntKind.i64 i)) (Tr.node Tr.nil (some (Value.int IntKind.i64 (m_lkE p q))) Tr.nil))) (some (Value.int IntKind.i64 (IntKind.wrap IntKind.i64 (Int.ofNat 1 + IntKind.wrap IntKind.i64 (Int.tmod (IntKind.wrap IntKind.u64 p) (Int.ofNat 3000)))))) (Tr.node (Tr.node (Tr.node Tr.nil (some (Value.int IntKind.i64 (m_lkF p q))) Tr.nil) (some (Value.bool false)) (Tr.node Tr.nil (some (Value.slice none 0 0)) Tr.nil)) none (Tr.node (Tr.node Tr.nil (some (Value.bool false)) Tr.nil) (some (Value.int IntKind.i64 (m_lkE p q))) (Tr.node Tr.nil (some (Value.int IntKind.i64 (m_lkC p q))) Tr.nil)))) [] (AW.mk 0 Tr.nil Tr.nil) else CR.fail 420 := by kernel_rfl

theorem lkF (r : Mem) (L : Nat) (tm : Tr Nat) (p q i : Int) (s : List (Nat × Value)) (kn : KS) (kx : Nat → KS) (kr : KS) : run (SC r) 262131 168 L (rc (rc cLk)) (lvlT (SC r) tLk tm L 0) none kn kx kr s (TLk p q i) [] emptyA =
    kr [(167, Value.bool true)] (Tr.node (Tr.node Tr.nil (some (Value.int IntKind.i64 q)) (Tr.node Tr.nil (some (Value.int IntKind.i64 i)) Tr.nil)) (some (Value.int IntKind.i64 p)) (Tr.node (Tr.node Tr.nil (some (Value.bool true)) Tr.nil) none Tr.nil)) [] (AW.mk 0 Tr.nil Tr.nil) := by kernel_rfl

/-- The temporaries, whatever the others hold. -/
def TGl (a bl br cl cr c2 : Tr Value) (co : Option Value) (p q i : Int) : Tr Value := .node (.node a (some (I q)) (.node bl (some (I i)) br)) (some (I p)) (.node (.node cl (some (.bool false)) cr) co c2)

theorem lkD (r : Mem) (L : Nat) (tm : Tr Nat) (a bl br cl cr c2 : Tr Value) (co : Option Value) (p q i : Int) (A : AW) (s : List (Nat × Value)) (kn : KS) (kx : Nat → KS) (kr : KS) : run (SC r) 262131 168 L iLk (lvlT (SC r) tLk tm L 0) none kn kx kr s (TGl a bl br cl cr c2 co p q i) [] A =
    bif decide (0 ≤ p) && decide (0 ≤ q) then bif m_gcd p q != Int.ofNat 1 then bif !decide (p = 0) then kn [(166, Value.int IntKind.i64 (Int.tmod (IntKind.wrap IntKind.i64 (q + Int.ofNat 1)) p)), (165, Value.int IntKind.i64 p), (164, Value.int IntKind.i64 (IntKind.wrap IntKind.i64 (q + Int.ofNat 1))), (163, Value.int IntKind.i64 q)] (Tr.node (Tr.node a (some (Value.int IntKind.i64 (Int.tmod (IntKind.wrap IntKind.i64 (q + Int.ofNat 1)) p))) (Tr.node bl (some (Value.int IntKind.i64 i)) br)) (some (Value.int IntKind.i64 p)) (Tr.node (Tr.node cl (some (Value.bool false)) cr) co c2)) [] A else CR.fail 420 else kx 2 [(162, Value.bool false), (161, Value.int IntKind.i64 (m_gcd p q)), (160, Value.int IntKind.i64 q), (159, Value.int IntKind.i64 p)] (Tr.node (Tr.node a (some (Value.int IntKind.i64 q)) (Tr.node bl (some (Value.int IntKind.i64 i)) br)) (some (Value.int IntKind.i64 p)) (Tr.node (Tr.node cl (some (Value.bool false)) cr) co c2)) [] A else CR.fail 420 := by kernel_rfl

theorem lkE (r : Mem) (L : Nat) (fs : FnsC) (a bl br cl cr c2 : Tr Value) (co : Option Value) (p q i : Int) (A : AW) (s : List (Nat × Value)) (kn : KS) (kx : Nat → KS) (kr : KS) : run (SC r) 262131 168 L (rc (rc oLk)) fs none kn kx kr s (TGl a bl br cl cr c2 co p q i) [] A =
    kn [(21, Value.int IntKind.i64 (IntKind.wrap IntKind.i64 (i + Int.ofNat 1))), (20, Value.int IntKind.i64 i)] (Tr.node (Tr.node a (some (Value.int IntKind.i64 q)) (Tr.node bl (some (Value.int IntKind.i64 (IntKind.wrap IntKind.i64 (i + Int.ofNat 1)))) br)) (some (Value.int IntKind.i64 p)) (Tr.node (Tr.node cl (some (Value.bool false)) cr) co c2)) [] A := by kernel_rfl

end Go.Proofs

/- The law of links: it answers true. -/
namespace Go.Proofs
open Go Go.Ev Go.Num

theorem checkLink_ok (r : Mem) (p q : Int) : GrT Tryd.prog r 23 [I p, I q] (I (m_lkE p q)) :=
  GrT.of (SC_ok r) (show TOk (SC r) tCk from TOk.cons TOk.nil (linkE_ok r)) .nil rfl ⟨8, 4, by
    rw [ckA]
    unfold m_link m_lkE
    cases link p q <;> simp only [eqv_int, cond_true, cond_false] <;> rfl⟩

theorem first24E_ok (r : Mem) (p q : Int) : GrT Tryd.prog r 24 [I p, I q] (.tuple ⟨[I (m_lkP p q), I (m_lkF p q), I (m_lkE p q)]⟩) :=
  GrT.of (SC_ok r) (show TOk (SC r) tFm from TOk.cons (TOk.cons (TOk.cons TOk.nil (restE_ok r)) (fstE_ok r)) (linkE_ok r)) .nil rfl ⟨8, 4, by
    rw [f1A]
    unfold m_lkP m_lkF m_lkE
    cases h : link p q with
    | true =>
      have h' : m_link p q = true := h
      simp only [eqv_int, h', linkG h, cond_true]
      rfl
    | false =>
      have h' : m_link p q = false := h
      simp only [eqv_int, h', cond_true, cond_false]
      rfl⟩

theorem mirE_ok (r : Mem) (p q : Int) : GrT Tryd.prog r 25 [I p, I q] (.tuple ⟨[.bool (m_lkM p q), I (m_lkE p q)]⟩) := by
  cases h : link p q with
  | true =>
    have := mir_ok r p q h
    have e1 : m_lkM p q = m_mir p q := by unfold m_lkM; rw [h]; rfl
    have e2 : m_lkE p q = 0 := by unfold m_lkE; rw [h]; rfl
    rw [e1, e2]
    exact this
  | false =>
    have e1 : m_lkM p q = false := by unfold m_lkM; rw [h]; rfl
    have e2 : m_lkE p q = 61 := by unfold m_lkE; rw [h]; rfl
    rw [e1, e2]
    exact GrT.of (SC_ok r) (show TOk (SC r) tFm from TOk.cons (TOk.cons (TOk.cons TOk.nil (restE_ok r)) (fstE_ok r)) (linkE_ok r)) .nil rfl ⟨8, 4, by
      rw [miA]
      have h' : m_link p q = false := h
      simp only [eqv_int, h', cond_true, cond_false]
      rfl⟩

theorem crossE_ok (r : Mem) (p q : Int) : GrT Tryd.prog r 27 [I p, I q] (.tuple ⟨[I (m_lkC p q), I (m_lkE p q)]⟩) := by
  cases h : link p q with
  | true =>
    have := cross_ok r p q h
    have e1 : m_lkC p q = m_cs p q := by unfold m_lkC m_cs; rw [h]; rfl
    have e2 : m_lkE p q = 0 := by unfold m_lkE; rw [h]; rfl
    rw [e1, e2]
    exact this
  | false =>
    have e1 : m_lkC p q = 0 := by unfold m_lkC; rw [h]; rfl
    have e2 : m_lkE p q = 61 := by unfold m_lkE; rw [h]; rfl
    rw [e1, e2]
    exact GrT.of (SC_ok r) (show TOk (SC r) tNo from TOk.cons (TOk.cons TOk.nil eNo_ok) (linkE_ok r)) mskCr rfl ⟨8, 4, by
      rw [crNo]
      have h' : m_link p q = false := h
      simp only [eqv_int, h', cond_true, cond_false]
      rfl⟩

theorem termsN_ok (r : Mem) (p q : Int) (h : link p q = false) : GrT Tryd.prog r 26 [I p, I q] (.tuple ⟨[.slice none 0 0, I 61]⟩) :=
  GrT.of (SC_ok r) (show TOk (SC r) tNo from TOk.cons (TOk.cons TOk.nil eNo_ok) (linkE_ok r)) mskTm rfl ⟨8, 6, by
    have h' : m_link p q = false := h
    rw [tmNo]
    simp only [eqv_int, h', cond_true, cond_false]
    rfl⟩

theorem termsEE_ok (r : Mem) : EOk (SC r) 26 eTermsE := fun args A hg F hF k γ W args' hw hR ha => by
  simp only [eTermsE] at hg
  split at hg
  · rename_i p q
    refine ⟨fun hc => ?_, fun hc => ?_⟩
    · have hc' : link p q = true ∧ 0 < q := by simpa [eTermsE, m_lkR, m_pos] using hc
      exact (terms_row r p q hc'.1 hc'.2).ends (γ := γ) (A := A) rfl (gnds_of (row_gnd _)) hF hw (hR.noG noG fun _ => rfl) (by have := ha.eq_of_gnds (by rfl); rw [this]; exact VsRel.of_gnds _ _ rfl) ha
    · have hc' : ¬ (link p q = true ∧ 0 < q) := by
        have : m_lkR p q = false := hc
        simp [m_lkR, m_pos] at this
        rintro ⟨a, b⟩
        have := this a
        omega
      show CallsIn F k _ _ _ _ (Go.Ev.Ends γ W (.tuple ⟨[.slice none 0 0, I (m_lkE p q)]⟩) A)
      cases h : link p q with
      | true =>
        have hl := (link_iff p q).1 h
        have hq0 : q = 0 := by
          by_cases c : 0 < q
          · exact absurd ⟨h, c⟩ hc'
          · omega
        subst hq0
        have hp : p = 1 := by
          have := hl.2.2.2.2
          simp at this
          omega
        subst hp
        have e : m_lkE 1 0 = 0 := by unfold m_lkE; rw [h]; rfl
        rw [e]
        exact ((terms_one.any r).ro (C := SC r) rfl A).ends hF hw hR ha
      | false =>
        have e : m_lkE p q = 61 := by unfold m_lkE; rw [h]; rfl
        rw [e]
        exact ((termsN_ok r p q h).ro (C := SC r) rfl A).ends hF hw hR ha
  · cases hg

theorem rFirst_ok (r : Mem) (p q : Int) (h : m_link p q = true) : GrT Tryd.prog r 29 [I p, I q] (.tuple ⟨[I p, I (m_fst p q)]⟩) := by
  have hl := (link_iff p q).1 h
  have := first_ok r p q (by omega) hl.2.1 (by omega)
  rw [fstR_eq hl.2.2.1 hl.2.2.2.1 (by rw [Int.gcd_comm]; exact hl.2.2.2.2) 0 (by omega) hl.2.2.1 (inv_nonneg _ (by omega))] at this
  exact this

theorem rMir_ok (r : Mem) (p q : Int) (h : m_link p q = true) : GrT Tryd.prog r 30 [I p, I q] (.bool (m_mir p q)) :=
  GrT.of (SC_ok r) (TOk.cons TOk.nil (rSameE_ok r)) .nil rfl ⟨1, 1, by
    rw [rmirA]
    have hl := (link_iff p q).1 h
    by_cases hp : p = 1
    · subst hp
      have hq : q = 0 := by omega
      subst hq
      have e2 : m_mir 1 0 = true := by unfold m_mir; simp
      rw [e2]
      rfl
    · obtain ⟨m1, m2⟩ := link_mirror h (by omega)
      have w3 : IntKind.wrap IntKind.i64 (p - q) = p - q := wrI (by omega)
      have f8 : m_link p (p - q) = true := m1
      have hmir : m_mir p q = m_same p q p (p - q) := by
        unfold m_mir m_same
        rw [neg_rest m2 hl.2.2.2.1, show link p q = true from h, m1]
        simp
      simp only [eqF (show p ≠ Int.ofNat 1 from hp), cond_false, w3, h, f8, Bool.and_self, cond_true]
      rw [hmir]
      cases m_same p q p (p - q) <;> rfl⟩

theorem tLk_ok (r : Mem) (hm : ∀ b j u, tabM b j = some u → r b j = some u) : TOk (SC r) tLk :=
  TOk.cons (TOk.cons (TOk.cons (TOk.cons (TOk.cons (TOk.cons (TOk.cons (TOk.cons (TOk.cons (TOk.cons (TOk.cons (TOk.cons (TOk.cons TOk.nil (awakeE_ok r hm)) (gcdE_ok r)) (longsE_ok r)) (eI2_ok fun a b h => rCross_ok r a b h)) (rTermsE_ok r))
    (eI2_ok fun a b h => rMir_ok r a b h)) (eI2_ok fun a b h => rFirst_ok r a b h)) (rLinkE_ok r)) (eI2_ok fun a b _ => crossE_ok r a b)) (termsEE_ok r)) (eI2_ok fun a b _ => mirE_ok r a b)) (eI2_ok fun a b _ => first24E_ok r a b)) (eI2_ok fun a b _ => checkLink_ok r a b)

theorem lk_inner (r : Mem) (tm : Tr Nat) (L : Nat) (kx : Nat → KS) (kr : KS) (a bl br cl cr c2 : Tr Value) (co : Option Value) (i : Int) (A : AW) (p : Int) (hp : 1 ≤ p) (hp2 : p ≤ 3000) (R : CR) : ∀ (j : Nat) (q : Int) (s : List (Nat × Value)), 0 ≤ q → q < p → (p - q).toNat < j →
    (∀ s q', kx 2 s (TGl a bl br cl cr c2 co p q' i) [] A = R) →
    cLoop (fun kl => run (SC r) 262131 168 L iLk (lvlT (SC r) tLk tm L 0) none kl kx kr) j s (TGl a bl br cl cr c2 co p q i) [] A = R := by
  intro j
  induction j with
  | zero => intro q s h0 h1 h; omega
  | succ j ih =>
    intro q s h0 h1 h hx
    rw [cLoop_succ, lkD]
    have g : (decide (0 ≤ p) && decide (0 ≤ q)) = true := by simp; omega
    have e : m_gcd p q = Int.gcd p q := gcdP_gcd p q (by omega) h0
    have hp0 : ¬ p = 0 := by omega
    simp only [g, cond_true, e, dF hp0, Bool.not_false]
    by_cases c : (Int.gcd p q : Int) = 1
    · simp only [neF (show (Int.gcd p q : Int) = Int.ofNat 1 from c), cond_false]
      exact hx _ q
    · simp only [neT (show (Int.gcd p q : Int) ≠ Int.ofNat 1 from c), cond_true]
      have hq : q + 1 < p := by
        by_cases c2 : q + 1 < p
        · exact c2
        · exfalso
          have : q = p - 1 := by omega
          rw [this] at c
          apply c
          rw [Int.gcd_self_sub_right]
          simp
      have w : IntKind.wrap IntKind.i64 (q + Int.ofNat 1) = q + 1 := wrI (by simp; omega)
      have w2 : (q + 1).tmod p = q + 1 := by rw [Int.tmod_eq_emod_of_nonneg (by omega), Int.emod_eq_of_lt (by omega) hq]
      rw [w, w2]
      exact ih (q + 1) _ (by omega) hq (by omega) hx

theorem run_outer8 {C : Cfg} {m n L : Nat} {fs : FnsC} {ro : Option Nat} {kn : KS} {kx : Nat → KS} {kr : KS} (a a1 a2 a3 a4 a5 a6 a7 a8 b d : Code) :
    run C m n L (.seq a (.seq (.block 1 (.seq a1 (.seq a2 (.seq a3 (.seq a4 (.seq a5 (.seq a6 (.seq a7 (.seq a8 (.block 2 (.loop b))))))))))) d)) fs ro kn kx kr =
    run C m n L a fs ro (run C m n L (.seq (.seq (.seq (.seq (.seq (.seq (.seq a1 a2) a3) a4) a5) a6) a7) a8) fs ro (cLoop (fun kl => run C m n L b fs ro kl (fun j => match Nat.beq j 2 with | true => run C m n L d fs ro kn kx kr | false => (match Nat.beq j 1 with | true => run C m n L d fs ro kn kx kr | false => kx j)) kr) L)
      (fun j => match Nat.beq j 1 with | true => run C m n L d fs ro kn kx kr | false => kx j) kr) kx kr := rfl

theorem oLk_eq : oLk = .seq (lc oLk) (.seq (.block 1 (.seq (lc xLk) (.seq (lc (rc xLk)) (.seq (lc (rc (rc xLk))) (.seq (lc (rc (rc (rc xLk)))) (.seq (lc (rc (rc (rc (rc xLk))))) (.seq (lc (rc (rc (rc (rc (rc xLk)))))) (.seq (lc (rc (rc (rc (rc (rc (rc xLk))))))) (.seq (lc (rc (rc (rc (rc (rc (rc (rc xLk)))))))) (.block 2 (.loop iLk))))))))))) (rc (rc oLk))) := by kernel_rfl

theorem oLk_run {C : Cfg} {m n L : Nat} {fs : FnsC} {ro : Option Nat} {kn : KS} {kx : Nat → KS} {kr : KS} : run C m n L oLk fs ro kn kx kr =
    run C m n L (lc oLk) fs ro (run C m n L pLk fs ro (cLoop (fun kl => run C m n L iLk fs ro kl (fun j => match Nat.beq j 2 with | true => run C m n L (rc (rc oLk)) fs ro kn kx kr | false => (match Nat.beq j 1 with | true => run C m n L (rc (rc oLk)) fs ro kn kx kr | false => kx j)) kr) L)
      (fun j => match Nat.beq j 1 with | true => run C m n L (rc (rc oLk)) fs ro kn kx kr | false => kx j) kr) kx kr := by
  rw [show run C m n L oLk fs ro kn kx kr = run C m n L (.seq (lc oLk) (.seq (.block 1 (.seq (lc xLk) (.seq (lc (rc xLk)) (.seq (lc (rc (rc xLk))) (.seq (lc (rc (rc (rc xLk)))) (.seq (lc (rc (rc (rc (rc xLk))))) (.seq (lc (rc (rc (rc (rc (rc xLk)))))) (.seq (lc (rc (rc (rc (rc (rc (rc xLk))))))) (.seq (lc (rc (rc (rc (rc (rc (rc (rc xLk)))))))) (.block 2 (.loop iLk))))))))))) (rc (rc oLk)))) fs ro kn kx kr from congrArg (fun c => run C m n L c fs ro kn kx kr) oLk_eq, run_outer8]
  rfl

theorem sameL_tm {p q : Int} (h : link p q = true) : m_sameL (m_tm p q) 0 (m_tmN p q) (m_tm p q) 0 (m_tmN p q) = true := by
  have hl := (link_iff p q).1 h
  have hs := terms_short 20 p q hl.2.2.1 hl.2.2.2.1 (by omega)
  refine @decide_eq_true _ (Classical.propDecidable _) ⟨rfl, by unfold m_tmN; omega, fun j hj => ⟨(terms p q)[j]'hj, ?_, ?_⟩⟩ <;>
  · rw [Nat.zero_add]
    exact row_get _ j hj

end Go.Proofs

/- The law of links: a round. -/
namespace Go.Proofs
open Go Go.Ev Go.Num

/-- A round: what comes behind it. -/
theorem lk_round (r : Mem) (L : Nat) (tm : Tr Nat) (kn : KS) (kx : Nat → KS) (kr : KS) (p q i : Int) (s : List (Nat × Value)) (R : CR) (hi : 0 ≤ i) (hi2 : i < 2) (hL : 3001 < L)
    (h : ∀ s a bl br cl cr c2 co p' q' A, kn s (TGl a bl br cl cr c2 co p' q' (i + 1)) [] A = R) :
    run (SC r) 262131 168 L oLk (lvlT (SC r) tLk tm L 0) none kn kx kr s (TLk p q i) [] emptyA = R := by
  rw [oLk_run, lkB]
  rw [dT hi2, cond_true]
  refine (lkC r L tm p q i _ _ _ _).trans ?_
  have ne : ∀ x : Int, (x != x) = false := fun x => by simp
  have fin : ∀ (s : List (Nat × Value)) (a bl br cl cr c2 : Tr Value) (co : Option Value) (A : AW), (bif !decide (IntKind.wrap IntKind.u64 (IntKind.wrap IntKind.i64 (Int.ofNat 1 + IntKind.wrap IntKind.i64 (Int.tmod (IntKind.wrap IntKind.u64 p) (Int.ofNat 3000)))) = 0) then cLoop (fun kl => run (SC r) 262131 168 L iLk (lvlT (SC r) tLk tm L 0) none kl (fun j => match Nat.beq j 2 with | true => run (SC r) 262131 168 L (rc (rc oLk)) (lvlT (SC r) tLk tm L 0) none kn kx kr | false => (match Nat.beq j 1 with | true => run (SC r) 262131 168 L (rc (rc oLk)) (lvlT (SC r) tLk tm L 0) none kn kx kr | false => kx j)) kr) L s (TGl a bl br cl cr c2 co (IntKind.wrap IntKind.i64 (Int.ofNat 1 + IntKind.wrap IntKind.i64 (Int.tmod (IntKind.wrap IntKind.u64 p) (Int.ofNat 3000)))) (IntKind.wrap IntKind.i64 (Int.tmod (IntKind.wrap IntKind.u64 q) (IntKind.wrap IntKind.u64 (IntKind.wrap IntKind.i64 (Int.ofNat 1 + IntKind.wrap IntKind.i64 (Int.tmod (IntKind.wrap IntKind.u64 p) (Int.ofNat 3000))))))) i) [] A else CR.fail 420) = R := fun s a bl br cl cr c2 co A => by
    have a0 := Int.tmod_nonneg (Int.ofNat 3000) (u64_nonneg p)
    have a1 : Int.tmod (IntKind.wrap IntKind.u64 p) (Int.ofNat 3000) < 3000 := Int.tmod_lt_of_pos (IntKind.wrap IntKind.u64 p) (show (0:Int) < Int.ofNat 3000 by decide)
    generalize Int.tmod (IntKind.wrap IntKind.u64 p) (Int.ofNat 3000) = X at *
    have w1 : IntKind.wrap IntKind.i64 X = X := wrI (by omega)
    have w2 : IntKind.wrap IntKind.i64 (Int.ofNat 1 + X) = 1 + X := wrI (z := 1 + X) (by omega)
    have hP1 : 1 ≤ 1 + X := by omega
    have hP2 : 1 + X ≤ 3000 := by omega
    rw [w1, w2]
    generalize 1 + X = P at *
    have w3 : IntKind.wrap IntKind.u64 P = P := u64_in (by omega) (by omega)
    have b0 := Int.tmod_nonneg P (u64_nonneg q)
    have b1 := Int.tmod_lt_of_pos (IntKind.wrap IntKind.u64 q) (show 0 < P by omega)
    have w4 : IntKind.wrap IntKind.i64 (Int.tmod (IntKind.wrap IntKind.u64 q) P) = Int.tmod (IntKind.wrap IntKind.u64 q) P := wrI (by omega)
    have hP0 : ¬ P = 0 := by omega
    rw [w3, w4]
    simp only [dF hP0, Bool.not_false, cond_true]
    generalize Int.tmod (IntKind.wrap IntKind.u64 q) P = Q at *
    refine lk_inner r tm L _ _ a bl br cl cr c2 co i A P hP1 hP2 R L Q s b0 b1 (by omega) fun s q' => ?_
    refine (lkE r L _ a bl br cl cr c2 co P q' i A _ kn kx kr).trans ?_
    have w : IntKind.wrap IntKind.i64 (i + Int.ofNat 1) = i + 1 := wrI (by simp; omega)
    rw [w]
    exact h _ _ _ _ _ _ _ _ _ _ _
  cases hl : link p q with
  | false =>
    have c1 : m_lkM p q = false := by unfold m_lkM; rw [hl]; rfl
    have c2 : m_lkR p q = false := by unfold m_lkR; rw [hl]; rfl
    have c3 : m_lkE p q = Int.ofNat 61 := by unfold m_lkE; rw [hl]; rfl
    have c4 : m_lkP p q = Int.ofNat 0 := by unfold m_lkP; rw [hl]; rfl
    have c5 : m_lkF p q = Int.ofNat 0 := by unfold m_lkF; rw [hl]; rfl
    have c6 : m_lkC p q = Int.ofNat 0 := by unfold m_lkC; rw [hl]; rfl
    have c7 : m_link p q = false := hl
    simp only [c1, c2, c3, c4, c5, c6, c7, ne, cond_false]
    exact fin _ _ _ _ _ _ _ _ _
  | true =>
    have c1 : m_lkM p q = m_mir p q := by unfold m_lkM; rw [hl]; rfl
    have c3 : m_lkE p q = Int.ofNat 0 := by unfold m_lkE; rw [hl]; rfl
    have c4 : m_lkP p q = p := by unfold m_lkP; rw [hl]; rfl
    have c5 : m_lkF p q = m_fst p q := by unfold m_lkF; rw [hl]; rfl
    have c6 : m_lkC p q = m_cs p q := by unfold m_lkC; rw [hl]; rfl
    have c7 : m_link p q = true := hl
    have c8 := sameL_tm hl
    cases hq : m_pos q with
    | true =>
      have c2 : m_lkR p q = true := by unfold m_lkR; rw [hl, hq]; rfl
      cases hmm : m_mir p q <;>
      · simp only [c1, c2, c3, c4, c5, c6, c7, c8, hq, hmm, ne, cond_true, cond_false, Bool.and_self]
        exact fin _ _ _ _ _ _ _ _ _
    | false =>
      have c2 : m_lkR p q = false := by unfold m_lkR; rw [hl, hq]; rfl
      cases hmm : m_mir p q <;>
      · simp only [c1, c2, c3, c4, c5, c6, c7, hq, hmm, ne, cond_true, cond_false, Bool.and_self]
        exact fin _ _ _ _ _ _ _ _ _

end Go.Proofs

/- The law of links: it answers true. -/
namespace Go.Proofs
open Go Go.Ev Go.Num

theorem ren_lk {r : Mem} {W0 : World} (s : List (Nat × Value)) (a bl br cl cr c2 : Tr Value) (co : Option Value) (p q i : Int) (A : AW) : Ren (SC r) 262131 168 noG W0 ⟨⟨s, TGl a bl br cl cr c2 co p q i⟩, [], A⟩ ⟨⟨[], TLk p q i⟩, [], emptyA⟩ := by
  refine Ren.of (fun i => i) 0 rfl (fun _ _ => rfl) (Nat.zero_le _) (fun i hi => rfl) ?_ rfl trivial trivial
  simp only [Tr.All, TLk]
  repeat' (first | exact trivial | apply And.intro)
  all_goals exact ⟨_, rfl, rfl⟩

theorem cLk_eq : cLk = .seq (lc cLk) (.seq (.seq (lc (lc (rc cLk))) (.block 0 (.loop oLk))) (rc (rc cLk))) := by kernel_rfl

theorem links_ok (r : Mem) (hm : ∀ b j u, tabM b j = some u → r b j = some u) (p q : Int) : GrT Tryd.prog r 5 [I p, I q] (.bool true) := by
  refine GrM.plain (fun F hF k W args' hR ha => ?_) rfl
  obtain ⟨fn, h1, h2, h3, h4⟩ := fn_of (C := SC r) (f := 5) (by kernel_rfl)
  have hn : fn.ntmps = 168 := h3.trans (by kernel_rfl)
  have hr : fn.results.toList = [.tmp 4] := h4.trans (by kernel_rfl)
  rw [bodySC] at h2
  have ht := tLk_ok r hm
  refine call_reach (C := SC r) (SC_ok r) (A := emptyA) h1 h2 262131 (by rw [hn]; rfl) (fun F k hF hro => ?_) (WRel.empty W) hR ha hF k
  rw [hn, hr]
  show Go.Ev.Reach (SC r) 262131 168 F k noG W cLk _ _
  rw [cLk_eq]
  refine Go.Ev.Reach.seq (Go.Ev.Reach.seg (SC_ok r) ht (tm := .nil) (L := 3003) (L' := 3003) (d := 0) hF hro ((lkA r _ _ p q _ _ _).trans (qn_ok ?_)))
  refine Go.Ev.Reach.seq (Go.Ev.Reach.seq (Go.Ev.Reach.seg (SC_ok r) ht (tm := .nil) (L := 3003) (L' := 3003) (d := 0) hF hro ((lkA2 r _ _ p q _ _ _ _).trans (qn_ok ?_))))
  refine Go.Ev.Reach.block (Go.Ev.Reach.loop (I := fun j st => ∃ st1, Ren (SC r) 262131 168 noG W st st1 ∧ ∃ p q i, 0 ≤ i ∧ j = (2 - i : Int).toNat ∧ st1 = ⟨⟨[], TLk p q i⟩, [], emptyA⟩) (fun j st ⟨st1, hr, p, q, i, hi, hj, hs⟩ => Go.Ev.Reach.pre hr ?_) ⟨_, Ren.refl _, p, q, 0, by omega, rfl, rfl⟩)
  subst hs
  refine Go.Ev.Reach.seg (SC_ok r) ht (tm := .nil) (L := 3003) (L' := 3003) (d := 0) hF hro ?_
  by_cases c : i < 2
  · refine lk_round r 3003 .nil _ _ _ p q i [] _ hi c (by omega) fun s a bl br cl cr c2 co p' q' A => ?_
    exact qn_ok ⟨(2 - (i + 1) : Int).toNat, by omega, _, ren_lk s a bl br cl cr c2 co p' q' (i + 1) A, p', q', i + 1, by omega, rfl, rfl⟩
  · rw [oLk_run, lkB]
    simp only [dF c, cond_false]
    refine qn_ok ?_
    simp only [if_true]
    refine Go.Ev.Reach.pre (st1 := ⟨⟨[], TLk p q i⟩, [], emptyA⟩) (ren_lk _ .nil .nil .nil .nil .nil .nil none p q i emptyA) ?_
    exact Go.Ev.Reach.seg (SC_ok r) ht (tm := .nil) (L := 3003) (L' := 3003) (d := 0) hF hro ((lkF r _ _ p q i _ _ _ _).trans (qn_ok ⟨.inr rfl, _, Ren.refl _, rfl⟩))

theorem law_links (r : Mem) (hm : ∀ b j u, tabM b j = some u → r b j = some u) (u0 u1 : Value) (s0 : ArgInt .i64 u0) (s1 : ArgInt .i64 u1) : GrT Tryd.prog r 5 [u0, u1] (.bool true) := by
  obtain ⟨p, rfl, _⟩ := s0
  obtain ⟨q, rfl, _⟩ := s1
  exact links_ok r hm p q

end Go.Proofs

