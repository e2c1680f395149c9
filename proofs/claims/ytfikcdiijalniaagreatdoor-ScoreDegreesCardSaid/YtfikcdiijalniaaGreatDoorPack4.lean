/- What the claim is proved with, part 4: the evaluator and the contracts of the calls. -/
import Derived.Test.YtfikcdiijalniaaGreatDoorPack3
import Derived.Test.YtfikcdiijalniaaGreatDoorPack1
import Derived.Test.YtfikcdiijalniaaGreatDoorPack2
/- The reference's violations: what the call answers. -/
namespace Go.Proofs
open Go Go.Ev Go.Num
set_option linter.unusedVariables false
set_option linter.unusedSimpArgs false
set_option maxRecDepth 100000

def viR (z : Nat → Int) (n : Nat) (k : Int) : Bool := decide (1 ≤ n ∧ n ≤ 16) && viB z n k

section
variable {r : Mem} {b off n cap : Nat} {z : Nat → Int}
theorem eFa_ok (hz : rowAt r b off n z) (h1 : 1 ≤ n) (hn : n ≤ 1000) : EOk (SC r) 40 (eRow [RS b off n cap] n (ixN (dN z n) n)) := fun args A hgd F hF k γ W args' hw hR ha => by
 refine ⟨fun hcc => ?_, fun h => nomatch h⟩
 have hs := @of_decide_eq_true _ (Classical.propDecidable _) hgd
 subst hs
 have hof : ofV 0 (gw 0 n) = true := by simp [ofV, of1]
 have hg : GrM Tryz.prog r 40 [RS b off n cap] (gw 0 n) (rowA (ixN (dN z n) n) 3 1) := GrM.ofS (C := SC r) rfl rfl (by rw [← fL_ix]; exact fa_S hz h1 hn)
 exact hg.ends (γ := γ) (A := A) hof (ix_gnd _ _) hF hw (hR.noG noG fun _ => rfl) (ha.of_ros rfl) ha
theorem tRz_ok (h64 : ∀ j, j < n → s64 (z j)) (hn : n ≤ 16) {k : Nat} (hk : k ≤ n) (S : Int) : TOk (SC r) (tRz (.slice (some ⟨0, 0, none⟩) k unk) (ixN (dN z n) n) S (suN (dN z n) k) (decide (S < suN (dN z n) k))) := by
 refine (TOk.nil.cons (EOk.ent fun args A hg => ?_)).cons (EOk.ent fun args A hg => POk.of rfl fun γ W args' hw hR ha => ?_)
 ·have hs := @of_decide_eq_true _ (Classical.propDecidable _) hg
  subst hs
  exact (less_calls r _ _).ro rfl A
 ·obtain ⟨b, k1, p1, p2⟩ := gOne_use (by decide) hg hk hw hR ha
  exact ⟨memW W, _, memW_ro W, p1, to_ok p2 (fun j hj => dN_64 h64 j (by omega)) (by omega)⟩

theorem rv_ok (hz : rowAt r b off n z) (h64 : ∀ j, j < n → s64 (z j)) (k : Int) : GrT Tryz.prog r 20 [RS b off n cap, I k] (.bool (viR z n k)) := by
 refine GrT.ofS (C := SC r) rfl rfl rfl (callO (SC_ok r) (by kernel_rfl) ((bodySC r _).trans RV_eq) (nt := 77) (by kernel_rfl) (rs := [.tmp 4]) (by kernel_rfl) 536872947 rfl ⟨[4], [], fun vs ms os => vs = [some (.bool (viR z n k))] ∧ ms = [] ∧ os = []⟩ ?_ fun γ W F kk hwr hF hro h0' => ?_)
 ·rintro vs ms os ⟨rfl, rfl, rfl⟩
  exact ⟨_, mkA [], by kernel_rfl, rfl⟩
 have h0' : ∀ i, 0 ≤ i → γ i = none := h0'
 let E : Outs := ⟨[4], [], fun vs ms os => vs = [some (.bool (viR z n k))] ∧ ms = [] ∧ os = []⟩
 refine Go.Ev.Reach.after3R (SC_ok r) TOk.nil (tm := .nil) (L := 1) (L' := 1) (d := 1) hF hro h0' (.step (.step (.step .base)))
  (o1 := ⟨[0, 1, 5, 29], [], fun vs ms os => 1 ≤ n ∧ n ≤ 16 ∧ ∃ m : Nat, m ≤ n ∧ k = m ∧ vs = [some (RS b off n cap), some (I (m : Nat)), some (I (n : Nat)), some (.bool (decide (m = 0)))] ∧ ms = [] ∧ os = []⟩)
  (o2 := ⟨[0, 1, 5], [], fun vs ms os => 1 ≤ n ∧ n ≤ 16 ∧ ∃ m : Nat, 1 ≤ m ∧ m ≤ n ∧ k = m ∧ vs = [some (RS b off n cap), some (I (m : Nat)), some (I (n : Nat))] ∧ ms = [] ∧ os = []⟩) [] (fun p hp => nomatch hp) ?_ ?_ ?_
 ·rintro vs ms os ⟨h1, hn, m, hmn, rfl, rfl, rfl, rfl⟩
  by_cases m0 : m = 0
  ·subst m0
   have hv : viR z n ((0 : Nat) : Int) = (suN z n % 2 == 1 || decide (dN z n (n - 1) < 0)) := by
    unfold viR viB
    rw [dT (show 1 ≤ n ∧ n ≤ 16 from ⟨h1, hn⟩), Bool.true_and, if_neg (by omega), if_pos (show ((0 : Nat) : Int) = 0 from rfl)]
   refine Go.Ev.Reach.condT (by kernel_rfl) ?_
   refine Go.Ev.Reach.after3R (SC_ok r) (t := tRt (RS b off n cap) (suN z n / 4294967296) (suN z n % 4294967296)) (TOk.nil.cons (EOk.ent fun args A hg => by
     have hs := @of_decide_eq_true _ (Classical.propDecidable _) hg
     subst hs
     exact (to_ok (cap := cap) hz h64 (by omega)).ro rfl A)) (tm := .nil) (L := 1) (L' := 1) (d := 1) hF hro h0' (.step .base)
    (o1 := ⟨lvRO, [], fun vs ms os => vs = vRO b off n cap (ngN z (suN z n % 2 == 1) 0) 0 ∧ ms = [] ∧ os = []⟩)
    (o2 := ⟨[6], [], fun vs ms os => vs = [some (.bool (ngN z (suN z n % 2 == 1) n))] ∧ ms = [] ∧ os = []⟩) [] (fun p hp => nomatch hp) ?_ ?_ ?_
   ·rintro vs ms os ⟨rfl, rfl, rfl⟩
    refine Go.Ev.Reach.blockC (Go.Ev.Reach.loopC (j := n) (lv := lvRO) (fl := []) (I := fun q vs ms os => ∃ i, i ≤ n ∧ q = n - i ∧ vs = vRO b off n cap (ngN z (suN z n % 2 == 1) i) i ∧ ms = [] ∧ os = []) (fun q vs ms os hJ => ?_) ⟨0, by omega, rfl, rfl, rfl, rfl⟩)
    obtain ⟨i, hi, rfl, rfl, rfl, rfl⟩ := hJ
    refine Go.Ev.Reach.segR (SC_ok r) TOk.nil (tm := .nil) (L := 1) (L' := 1) (d := 1) hF hro h0' [(0, ⟨[6], [], fun vs ms os => vs = [some (.bool (ngN z (suN z n % 2 == 1) n))] ∧ ms = [] ∧ os = []⟩)] (fun p hp => by simp only [List.mem_cons, List.not_mem_nil, or_false] at hp; subst hp; rfl) ?_
    have hn' := rvC r b off n cap i (ngN z (suN z n % 2 == 1) i)
    simp only [Int.ofNat_eq_natCast, Int.toNat_natCast] at hn'
    by_cases c : i < n
    ·have c1 : (i : Int) < (n : Int) := by omega
     have c3 : Nat.blt i n = true := Nat.ble_eq_true_of_le (by omega)
     have e3 := inc1' (k := i) (by omega)
     simp only [Int.ofNat_eq_natCast] at e3
     simp only [dT c1, c3, cond_true, row_1 hz c, isI_I, e3] at hn'
     dsimp +instances only [ofI_I] at hn'
     have fin : ∀ o, o = ngN z (suN z n % 2 == 1) (i + 1) → qq (∃ q', q' < n - i ∧ ∃ i', i' ≤ n ∧ q' = n - i' ∧ vRO b off n cap o (i + 1) = vRO b off n cap (ngN z (suN z n % 2 == 1) i') i' ∧ ([] : List Nat) = [] ∧ ([] : OO) = []) = okR := fun o ho => qq_ok ⟨n - (i + 1), by omega, i + 1, c, rfl, by rw [ho], rfl, rfl⟩
     cases hb : ngN z (suN z n % 2 == 1) i with
     | true =>
      simp only [hb, cond_true] at hn'
      exact (hn' _ _ _ _).trans (fin true (by rw [ngN, hb]; rfl))
     | false =>
      simp only [hb, cond_false] at hn'
      by_cases d : z i < 0
      ·simp only [dT d, cond_true] at hn'
       exact (hn' _ _ _ _).trans (fin true (by rw [ngN, hb, dT d]; rfl))
      ·simp only [dF d, cond_false] at hn'
       exact (hn' _ _ _ _).trans (fin false (by rw [ngN, hb, dF d]; rfl))
    ·obtain rfl : i = n := by omega
     have c1 : ¬ (i : Int) < (i : Int) := by omega
     simp only [dF c1, cond_false] at hn'
     exact (hn' _ _ _ _).trans (qq_ok ⟨rfl, rfl, rfl⟩)
   ·rintro vs ms os ⟨rfl, rfl, rfl⟩
    refine Go.Ev.Reach.segR (SC_ok r) TOk.nil (tm := .nil) (L := 1) (L' := 1) (d := 1) hF hro h0' [] (fun p hp => nomatch hp) ?_
    rw [hv, ← ngN_eq h1]
    generalize ngN z (suN z n % 2 == 1) n = o
    cases o
    ·exact (rvD r false _ _ _ _).trans (qq_ok ⟨rfl, rfl, rfl⟩)
    ·exact (rvD r true _ _ _ _).trans (qq_ok ⟨rfl, rfl, rfl⟩)
   ·refine (rvB r b off n cap (suN z n / 4294967296) (suN z n % 4294967296) _ _ _).trans ?_
    have e2 : Int.tmod (suN z n % 4294967296) (Int.ofNat 2) = suN z n % 2 := by
     rw [Int.tmod_eq_emod_of_nonneg (by omega)]
     show suN z n % 4294967296 % 2 = _
     omega
    rw [svv_rfl, cond_true, e2]
    show (bif suN z n % 2 == 1 then _ else _) = _
    have h0 : ngN z (suN z n % 2 == 1) 0 = (suN z n % 2 == 1) := rfl
    rw [h0]
    cases suN z n % 2 == 1 <;> exact qq_ok ⟨rfl, rfl, rfl⟩
  ·rw [dF m0]
   refine Go.Ev.Reach.condF (by kernel_rfl) ?_
   refine Go.Ev.Reach.segR (SC_ok r) TOk.nil (tm := .nil) (L := 1) (L' := 1) (d := 1) hF hro h0' [] (fun p hp => nomatch hp) ?_
   exact (rvS r b off n cap (m : Nat) _ _ _ _).trans (qq_ok ⟨h1, hn, m, by omega, hmn, rfl, rfl, rfl, rfl⟩)
 ·rintro vs ms os ⟨h1, hn, m, hm1, hmn, rfl, rfl, rfl, rfl⟩
  have nc : m_nns (ixN (dN z n) n) = true := ix_nn _ _
  have hkk := kk_bd (k := m) (by omega)
  have hbd := bf_64 (z := z) (k := m) h64 (by omega) hmn
  have hv : viR z n (m : Nat) = decide (suN (bfN z n m) (n - m + 1) < suN (dN z n) m) := by
   unfold viR viB
   rw [dT (show 1 ≤ n ∧ n ≤ 16 from ⟨h1, hn⟩), Bool.true_and, if_neg (by omega), if_neg (by omega), Int.toNat_natCast]
  have sub : ∀ j, j ≤ n - m + 1 → -1000000000000 * 4294967296 ≤ suN (bfN z n m) j ∧ suN (bfN z n m) j ≤ 1000000000000 * 4294967296 := fun j hj => su_bd (fun i hi => hbd i (by omega)) (by omega)
  refine Go.Ev.Reach.after3R (SC_ok r) (t := tRv (RS b off n cap) n (ixN (dN z n) n)) ((tPl_ok r).cons (eFa_ok hz h1 (by omega))) (tm := .nil) (L := 1) (L' := 1) (d := 1) hF hro h0' (.step (.step .base))
   (o1 := ⟨lvRV, [], fun vs ms os => vs = vRV n m m ∧ ms = [] ∧ os = [oIn (ixN (dN z n) n) 0, oSi (suN (bfN z n m) 1 / 4294967296) (suN (bfN z n m) 1 % 4294967296) 1]⟩)
   (o2 := ⟨[1, 8, 9], [], fun vs ms os => vs = [some (I (m : Nat)), some (gw 0 n), some (PP 1)] ∧ ms = [] ∧ os = [oIn (ixN (dN z n) n) 0, oSi (suN (bfN z n m) (n - m + 1) / 4294967296) (suN (bfN z n m) (n - m + 1) % 4294967296) 1]⟩) [] (fun p hp => nomatch hp) ?_ ?_ ?_
  ·rintro vs ms os ⟨rfl, rfl, rfl⟩
   refine Go.Ev.Reach.blockC (Go.Ev.Reach.loopC (j := n - m) (lv := lvRV) (fl := []) (I := fun q vs ms os => ∃ j, j ≤ n - m ∧ q = n - m - j ∧ vs = vRV n m (m + j) ∧ ms = [] ∧ os = [oIn (ixN (dN z n) n) 0, oSi (suN (bfN z n m) (j + 1) / 4294967296) (suN (bfN z n m) (j + 1) % 4294967296) 1]) (fun q vs ms os hJ => ?_) ⟨0, by omega, rfl, rfl, rfl, rfl⟩)
   obtain ⟨j, hj, rfl, rfl, rfl, rfl⟩ := hJ
   refine Go.Ev.Reach.segR (SC_ok r) (tPl_ok r) (tm := .nil) (L := 1) (L' := 1) (d := 1) hF hro h0' [(2, ⟨[1, 8, 9], [], fun vs ms os => vs = [some (I (m : Nat)), some (gw 0 n), some (PP 1)] ∧ ms = [] ∧ os = [oIn (ixN (dN z n) n) 0, oSi (suN (bfN z n m) (n - m + 1) / 4294967296) (suN (bfN z n m) (n - m + 1) % 4294967296) 1]⟩)] (fun p hp => by simp only [List.mem_cons, List.not_mem_nil, or_false] at hp; subst hp; rfl) ?_
   have hn' := rvF r n m (m + j) (ixN (dN z n) n) (suN (bfN z n m) (j + 1) / 4294967296) (suN (bfN z n m) (j + 1) % 4294967296)
   simp only [Int.ofNat_eq_natCast, Int.toNat_natCast, Nat.add_eq, Nat.mul_eq, Nat.mul_one, Nat.zero_add] at hn'
   by_cases c : j < n - m
   ·have c1 : ((m + j : Nat) : Int) < (n : Int) := by omega
    have c3 : Nat.blt (m + j) n = true := Nat.ble_eq_true_of_le (by omega)
    have e1 : (ixN (dN z n) n)[m + j]? = some (I (dN z n (m + j))) := ix_get (by omega)
    have e3 := inc1' (k := m + j) (by omega)
    have eqv : ∀ a : Int, m_eqv (I a) (I a) = true := fun a => by simp [m_eqv, veq]
    have eqs : ∀ a b : Int, m_eqv (.agg ⟨[I a, I b]⟩) (.agg ⟨[I a, I b]⟩) = true := fun a b => by simp [m_eqv, veq, veqs]
    have okp := okP_of (sub (j + 1) (by omega)) (hbd (j + 1) (by omega))
    have hbf : bfN z n m (j + 1) = min (dN z n (m + j)) (m : Nat) := rfl
    have nd : ∀ a b : Int, m_nns [I a, I b] = true := fun _ _ => rfl
    simp only [Int.ofNat_eq_natCast] at e3
    simp only [dT c1, c3, cond_true, e1, isI_I, e3, nc] at hn'
    dsimp +instances only [ofI_I] at hn'
    simp only [min_bif, ← hbf] at hn'
    simp only [okp, eqv, eqs, ph_eq, pl_eq, nd, cond_true, Bool.and_self] at hn'
    exact (hn' _ _ _).trans (qq_ok ⟨n - m - (j + 1), by omega, j + 1, by omega, rfl, rfl, rfl, rfl⟩)
   ·obtain rfl : j = n - m := by omega
    have c1 : ¬ ((m + (n - m) : Nat) : Int) < (n : Int) := by omega
    have nd : ∀ a b : Int, m_nns [I a, I b] = true := fun _ _ => rfl
    simp only [dF c1, cond_false, nc, nd, Bool.and_self, cond_true] at hn'
    exact (hn' _ _ _).trans (qq_ok ⟨rfl, rfl, rfl⟩)
  ·rintro vs ms os ⟨rfl, rfl, rfl⟩
   refine Go.Ev.Reach.segR (SC_ok r) (tRz_ok h64 hn hmn (suN (bfN z n m) (n - m + 1))) (tm := .nil) (L := 1) (L' := 1) (d := 1) hF hro h0' [] (fun p hp => nomatch hp) ?_
   have hn' := rvG r n m (ixN (dN z n) n) (suN (bfN z n m) (n - m + 1)) (suN (dN z n) m) (decide (suN (bfN z n m) (n - m + 1) < suN (dN z n) m)) (.slice (some ⟨0, 0, none⟩) m unk) (ixN (dN z n) n)
   have g1 : Nat.ble m n = true := Nat.ble_eq_true_of_le hmn
   have eqs : ∀ a b : Int, m_eqv (.agg ⟨[I a, I b]⟩) (.agg ⟨[I a, I b]⟩) = true := fun a b => by simp [m_eqv, veq, veqs]
   have eql : m_eqv (.slice (some ⟨0, 0, none⟩) m unk) (.slice (some ⟨0, 0, none⟩) m unk) = true := by simp [m_eqv, veq]
   simp only [Int.ofNat_eq_natCast, Int.toNat_natCast, g1, svv_rfl, cond_true, eqs, eql] at hn'
   refine (hn' _ _ _).trans ?_
   rw [hv]
   cases decide (suN (bfN z n m) (n - m + 1) < suN (dN z n) m) <;> exact qq_ok ⟨rfl, rfl, rfl⟩
  ·refine (rvE r b off n cap m (ixN (dN z n) n) _ _ _).trans ?_
   have e0 : IntKind.wrap .i64 (Int.ofNat m - Int.ofNat 1) = (m : Int) - 1 := wrI (by simp; omega)
   have e1 : IntKind.wrap .i64 (Int.ofNat m * ((m : Int) - 1)) = (m : Int) * ((m : Int) - 1) := wrI (by simp; omega)
   have okp : m_okP (Int.ofNat 0) (Int.ofNat 0) ((m : Int) * ((m : Int) - 1)) = true := okP_of (S := 0) (by omega) (by unfold s64; omega)
   have nd : ∀ a b : Int, m_nns [I a, I b] = true := fun _ _ => rfl
   have p1 : m_ph (Int.ofNat 0) (Int.ofNat 0) ((m : Int) * ((m : Int) - 1)) = suN (bfN z n m) 1 / 4294967296 := by
    have := ph_eq 0 ((m : Int) * ((m : Int) - 1))
    refine this.trans ?_
    show _ = (0 + (m : Int) * ((m : Int) - 1)) / _
    rfl
   have p2 : m_pl (Int.ofNat 0) (Int.ofNat 0) ((m : Int) * ((m : Int) - 1)) = suN (bfN z n m) 1 % 4294967296 := by
    have := pl_eq 0 ((m : Int) * ((m : Int) - 1))
    refine this.trans ?_
    show _ = (0 + (m : Int) * ((m : Int) - 1)) % _
    rfl
   rw [svv_rfl, cond_true, e0, e1, okp, cond_true, p1, p2, nc, nd]
   exact qq_ok ⟨rfl, rfl, rfl⟩
 ·have hA := rvA r b off n cap k
  refine (hA _ _ _ _).trans ?_
  by_cases c1 : Int.ofNat n < 1
  ·have hv : viR z n k = false := by unfold viR; rw [dF (by simp at c1; omega)]; rfl
   rw [dT c1, cond_true, hv]
   exact qq_ok ⟨rfl, rfl, rfl⟩
  ·by_cases c2 : Int.ofNat n > 16
   ·have hv : viR z n k = false := by unfold viR; rw [dF (by simp at c2; omega)]; rfl
    rw [dF c1, cond_false, dT c2, cond_true, hv]
    exact qq_ok ⟨rfl, rfl, rfl⟩
   ·have h1 : 1 ≤ n := by simp at c1; omega
    have hn : n ≤ 16 := by simp at c2; omega
    rw [dF c1, cond_false, dF c2, cond_false]
    by_cases c3 : k < 0
    ·have hv : viR z n k = false := by unfold viR viB; rw [if_pos (.inl c3), Bool.and_false]
     rw [dT c3, cond_true, hv]
     exact qq_ok ⟨rfl, rfl, rfl⟩
    ·by_cases c4 : k > Int.ofNat n
     ·have hv : viR z n k = false := by unfold viR viB; rw [if_pos (.inr c4), Bool.and_false]
      rw [dF c3, cond_false, dT c4, cond_true, hv]
      exact qq_ok ⟨rfl, rfl, rfl⟩
     ·obtain ⟨m, rfl⟩ := Int.eq_ofNat_of_zero_le (show 0 ≤ k by omega)
      have c4' : (m : Int) ≤ n := by simpa using c4
      rw [dF c3, cond_false, dF c4, cond_false]
      by_cases c5 : m = 0
      ·subst c5
       rw [eqT (show ((0 : Nat) : Int) = Int.ofNat 0 from rfl), cond_true]
       exact qq_ok ⟨h1, hn, 0, by omega, rfl, rfl, rfl, rfl⟩
      ·rw [eqF (show (m : Int) ≠ Int.ofNat 0 by simpa using c5), cond_false]
       exact qq_ok ⟨h1, hn, m, by omega, rfl, by rw [dF c5]; rfl, rfl, rfl⟩
end

end Go.Proofs

/- The reference's size of a set, run. -/
set_option linter.unusedVariables false
set_option linter.unusedSimpArgs false
namespace Go.Proofs
open Go Go.Ev

noncomputable def cSz : Code := bodyOf S0 23
def TSz (s n i : Int) : Tr Value := (((Tr.nil.put 0 (some (I s))).put 2 (some (I 0))).put 3 (some (I n))).put 4 (some (I i))

theorem szA (r : Mem) (L : Nat) (fs : FnsC) (s : Int) (kn : KS) (kx : Nat → KS) (kr : KS) : run (SC r) 29 18 L (.seq (.seq (lc cSz) (lc (rc cSz))) (lc (lc (rc (rc cSz))))) fs none kn kx kr (sc0 29 [I s]) (tr0 29 [I s]) [] emptyA =
    kn [] (.node (.node (.node .nil (some (I (Int.ofNat 0))) .nil) none .nil) (some (I s)) (.node (.node .nil (some (I (Int.ofNat 0))) .nil) (some (I (Int.ofNat 0))) .nil)) [] (AW.mk 0 .nil .nil) := by kernel_rfl

theorem szB (r : Mem) (L : Nat) (fs : FnsC) (s n i : Int) (sc : List (Nat × Value)) (kn : KS) (kx : Nat → KS) (kr : KS) : run (SC r) 29 18 L (ic (ic (rc (lc (rc (rc cSz)))))) fs none kn kx kr sc (TSz s n i) [] emptyA =
    bif !decide (i < 0) then bif decide (Int.fdiv s (Int.ofNat 2 ^ min (Int.toNat i) 64) > 0) then bif !decide (i < 0) then kn [(10, I (IntKind.wrap .i64 (i + Int.ofNat 1))), (9, I i)] (.node (.node (.node .nil (some (I (IntKind.wrap .i64 (n + Int.tmod (Int.fdiv s (Int.ofNat 2 ^ min (Int.toNat i) 64)) (Int.ofNat 2))))) .nil) none .nil) (some (I s)) (.node (.node .nil (some (I (IntKind.wrap .i64 (i + Int.ofNat 1)))) .nil) (some (I (Int.ofNat 0))) .nil)) [] (AW.mk 0 .nil .nil) else .fail 420 else kx 0 [(8, .bool false), (7, I (Int.fdiv s (Int.ofNat 2 ^ min (Int.toNat i) 64))), (6, I i), (5, I s)] (.node (.node (.node .nil (some (I n)) .nil) none .nil) (some (I s)) (.node (.node .nil (some (I i)) .nil) (some (I (Int.ofNat 0))) .nil)) [] (AW.mk 0 .nil .nil) else .fail 420 := by kernel_rfl

theorem szC (r : Mem) (L : Nat) (fs : FnsC) (s n i : Int) (sc : List (Nat × Value)) (kn : KS) (kx : Nat → KS) (kr : KS) : run (SC r) 29 18 L (rc (rc (rc cSz))) fs none kn kx kr sc (TSz s n i) [] emptyA =
    kr [(17, I n)] (.node (.node (.node .nil (some (I n)) .nil) none .nil) (some (I s)) (.node (.node .nil (some (I i)) .nil) (some (I n)) .nil)) [] (AW.mk 0 .nil .nil) := by kernel_rfl

end Go.Proofs

/- The reference's size of a set: what the call answers. -/
set_option linter.unusedVariables false
set_option linter.unusedSimpArgs false
namespace Go.Num

def popN : Nat → Nat → Nat
 | 0, _ => 0
 | f + 1, m => if m = 0 then 0 else m % 2 + popN f (m / 2)
theorem popN_le : ∀ f m, popN f m ≤ f
 | 0, _ => Nat.le_refl _
 | f + 1, m => by
  rw [popN]
  have := popN_le f (m / 2)
  split <;> omega
theorem popN_zero (f : Nat) : popN f 0 = 0 := by cases f <;> rfl

end Go.Num
namespace Go.Proofs
open Go Go.Ev Go.Num

theorem shr_nat (m i : Nat) (h : i ≤ 64) : Int.fdiv (m : Int) (Int.ofNat 2 ^ min i 64) = ((m / 2 ^ i : Nat) : Int) := by
 rw [Nat.min_eq_left h, Int.fdiv_eq_ediv_of_nonneg _ (by exact Int.pow_nonneg (by decide))]
 have : (Int.ofNat 2 ^ i : Int) = ((2 ^ i : Nat) : Int) := by simp
 rw [this]
 exact (Int.natCast_ediv m (2 ^ i)).symm

abbrev P0 (i : Nat) : Value := .pointer (some ⟨i, 0, none⟩)
def eU1 (g : Int → Bool) (v : Int → Value) : Ent := ent (fun args _ => match args with | [.int .u64 a] => g a | _ => false) (fun args _ => match args with | [.int .u64 a] => v a | _ => undef)
theorem eU1_ok {C : Cfg} {f : Nat} {g : Int → Bool} {v : Int → Value} (h : ∀ a, g a = true → GrT C.P C.ro f [.int .u64 a] (v a)) : EOk C f (eU1 g v) := EOk.ent fun args A hg => by
 split at hg
 ·exact (h _ hg).ro rfl A
 ·cases hg

theorem sz_loop (r : Mem) (L : Nat) (fs : FnsC) (kx : Nat → KS) (kr : KS) (m : Nat) (hm : m < 65536) (R : CR) : ∀ (j i n : Nat) (s : List (Nat × Value)), i ≤ 16 → n ≤ i → 16 - i < j →
  (∀ s i', kx 0 s (TSz m ((n + popN (16 - i) (m / 2 ^ i) : Nat) : Int) i') [] emptyA = R) →
  cLoop (fun kl => run (SC r) 29 18 L (ic (ic (rc (lc (rc (rc cSz)))))) fs none kl kx kr) j s (TSz m n i) [] emptyA = R := by
 intro j
 induction j with
 | zero => intro i n s _ _ h; omega
 | succ j ih =>
  intro i n s hi hn hj hx
  rw [cLoop_succ, szB]
  have c0 : ¬ (i : Int) < 0 := by omega
  have e3 : m / 2 ^ i / 2 = m / 2 ^ (i + 1) := by rw [Nat.div_div_eq_div_mul, Nat.pow_succ]
  have h16 : i = 16 → m / 2 ^ i = 0 := fun e => by subst e; exact Nat.div_eq_of_lt hm
  rw [dF c0, Bool.not_false, cond_true, Int.toNat_natCast, shr_nat m i (by omega)]
  have ih' := ih (i + 1)
  rw [← e3] at ih'
  generalize m / 2 ^ i = q at *
  by_cases c : q = 0
  ·have c1 : ¬ ((q : Nat) : Int) > 0 := by omega
   rw [dF c1, cond_false]
   rw [c, popN_zero, Nat.add_zero] at hx
   exact hx _ _
  ·have c1 : ((q : Nat) : Int) > 0 := by omega
   have hi16 : i ≠ 16 := fun e => c (h16 e)
   rw [dT c1, cond_true, cond_true]
   have e1 : Int.tmod (q : Int) (Int.ofNat 2) = ((q % 2 : Nat) : Int) := (Int.ofNat_tmod _ _).symm
   have e2 : 16 - i = (16 - (i + 1)) + 1 := by omega
   rw [e2, popN, if_neg c] at hx
   have w1 : IntKind.wrap IntKind.i64 ((i : Int) + Int.ofNat 1) = ((i + 1 : Nat) : Int) := by rw [wrI (by simp; omega)]; simp
   have w2 : IntKind.wrap IntKind.i64 ((n : Int) + ((q % 2 : Nat) : Int)) = ((n + q % 2 : Nat) : Int) := by rw [wrI (by omega)]; simp
   rw [e1, w1, w2]
   refine ih' (n + q % 2) _ (by omega) (by omega) (by omega) fun s i' => ?_
   rw [show n + q % 2 + popN (16 - (i + 1)) (q / 2) = n + (q % 2 + popN (16 - (i + 1)) (q / 2)) by omega]
   exact hx s i'

theorem cSz_eq : cSz = .seq (lc cSz) (.seq (lc (rc cSz)) (.seq (.seq (lc (lc (rc (rc cSz)))) (.block 0 (.loop (ic (ic (rc (lc (rc (rc cSz))))))))) (rc (rc (rc cSz))))) := by kernel_rfl
def mskSz : Tr Nat := Tr.nil.put 23 (some 29)

theorem size_ok (r : Mem) (m : Nat) (hm : m < 65536) : GrT Tryz.prog r 23 [I m] (I (popN 16 m)) := by
 refine GrT.of (SC_ok r) TOk.nil mskSz rfl ⟨18, 1, ?_⟩
 rw [enterN (m := 29) (n := 18) (rs := [.tmp 2]) cSz rfl (by kernel_rfl) (by kernel_rfl) (by kernel_rfl) (by kernel_rfl) (by kernel_rfl) rfl]
 generalize hk : finK (SC r) 29 [.tmp 2] fin = kr
 rw [cSz_eq, seqA, run_pre, run_while, szA]
 refine sz_loop r _ _ _ _ m hm _ _ 0 0 _ (by omega) (by omega) (by omega) fun s i' => ?_
 refine (szC r _ _ m _ i' s _ _ _).trans ?_
 rw [Nat.zero_add, Nat.pow_zero, Nat.div_one, ← hk]; rfl

end Go.Proofs

/- Degrees, counted: mathematics. -/
namespace Go.Num
set_option linter.unusedVariables false
set_option linter.unusedSimpArgs false

def m_ce (a b c d : Int) : Int := if m_cmpI a c = 0 then m_cmpI b d else m_cmpI a c
def m_pop (x : Int) : Int := ((popN 16 x.toNat : Nat) : Int)
def dgN (z : Nat → Int) : Nat → Nat → Int
 | 0, _ => 0
 | k + 1, v => dgN z k v + (if ea z k = (v : Int) then 1 else 0) + (if eb z k = (v : Int) then 1 else 0)
def eqN (f g : Nat → Int) : Nat → Bool
 | 0 => true
 | n + 1 => eqN f g n && decide (f n = g n)
theorem eqN_no {f g : Nat → Int} : ∀ {n i : Nat}, i < n → f i ≠ g i → eqN f g n = false
 | 0, i, h, _ => by omega
 | n + 1, i, h, hne => by
  rw [eqN]
  by_cases c : i = n
  ·subst c; rw [decide_eq_false hne, Bool.and_false]
  ·rw [eqN_no (by omega) hne, Bool.false_and]
theorem eqN_ext {f g f' g' : Nat → Int} : ∀ {n : Nat}, (∀ j, j < n → f j = f' j) → (∀ j, j < n → g j = g' j) → eqN f g n = eqN f' g' n
 | 0, _, _ => rfl
 | n + 1, h1, h2 => by rw [eqN, eqN, eqN_ext (fun j hj => h1 j (by omega)) (fun j hj => h2 j (by omega)), h1 n (by omega), h2 n (by omega)]
theorem dg_bd (z : Nat → Int) (v : Nat) : ∀ k : Nat, 0 ≤ dgN z k v ∧ dgN z k v ≤ 2 * (k : Int)
 | 0 => by simp [dgN]
 | k + 1 => by
  have := dg_bd z v k
  rw [dgN]
  split <;> split <;> omega
theorem okFrom_of {n : Int} {z : Nat → Int} : ∀ (j k : Nat), (∀ i, k ≤ i → i < k + j → okAt n z i = true) → okFrom n z j k = true
 | 0, _, _ => rfl
 | j + 1, k, h => by rw [okFrom, h k (by omega) (by omega), okFrom_of j (k + 1) fun i h1 h2 => h i (by omega) (by omega)]; rfl
theorem okAll_of {n : Int} {z : Nat → Int} {m : Nat} (h : ∀ i, i < m → okAt n z i = true) : okAll n z m = true := okFrom_of m 0 fun i _ h2 => h i (by omega)
theorem okAll_get {n : Int} {z : Nat → Int} {m : Nat} (h : okAll n z m = true) {i : Nat} (hi : i < m) : okAt n z i = true := okFrom_at m 0 h i (by omega) (by omega)
theorem okAll_no {n : Int} {z : Nat → Int} {m i : Nat} (hi : i < m) (h : okAt n z i = false) : okAll n z m = false := by
 cases e : okAll n z m with
 | false => rfl
 | true => rw [okAll_get e hi] at h; cases h
theorem okAt_iff {n : Int} {z : Nat → Int} {i : Nat} : okAt n z i = true ↔ 0 ≤ ea z i ∧ ea z i < eb z i ∧ eb z i < n ∧ (i = 0 ∨ ea z (i - 1) < ea z i ∨ (ea z (i - 1) = ea z i ∧ eb z (i - 1) < eb z i)) := by
 simp only [okAt, Bool.and_eq_true, Bool.or_eq_true, decide_eq_true_eq, beq_iff_eq]
 constructor
 ·rintro ⟨⟨⟨h1, h2⟩, h3⟩, (h4 | h4) | h4⟩
  ·exact ⟨h1, h2, h3, .inl h4⟩
  ·exact ⟨h1, h2, h3, .inr (.inl h4)⟩
  ·exact ⟨h1, h2, h3, .inr (.inr h4)⟩
 ·rintro ⟨h1, h2, h3, h4 | h4 | h4⟩
  ·exact ⟨⟨⟨h1, h2⟩, h3⟩, .inl (.inl h4)⟩
  ·exact ⟨⟨⟨h1, h2⟩, h3⟩, .inl (.inr h4)⟩
  ·exact ⟨⟨⟨h1, h2⟩, h3⟩, .inr h4⟩
theorem ce_ge (a b c d : Int) : m_ce a b c d ≥ 0 ↔ ¬ (a < c ∨ (a = c ∧ b < d)) := by
 unfold m_ce m_cmpI
 by_cases h1 : a < c
 ·simp [h1]
 ·by_cases h2 : c < a
  ·simp [h1, h2]; omega
  ·have : a = c := by omega
   subst this
   by_cases h3 : b < d
   ·simp [h3]
   ·by_cases h4 : d < b <;> simp [h3, h4]

theorem pop_step (f m : Nat) : popN (f + 1) m = m % 2 + popN f (m / 2) := by
 rw [popN]
 split
 ·rename_i h; subst h; simp [popN_zero]
 ·rfl
theorem pop_or : ∀ (f w b : Nat), b < f → w.testBit b = false → popN f (w ||| 2 ^ b) = popN f w + 1
 | 0, _, _, h, _ => by omega
 | f + 1, w, 0, h, hb => by
  rw [pop_step, pop_step]
  have h0 : w % 2 = 0 := by
   rw [Nat.testBit_zero] at hb
   have := Nat.mod_two_eq_zero_or_one w
   simp at hb
   omega
  have h1 : (w ||| 2 ^ 0) / 2 = w / 2 := by rw [Nat.or_div_two]; simp
  have h2 : (w ||| 2 ^ 0) % 2 = 1 := by
   have : (w ||| 2 ^ 0).testBit 0 = true := by rw [Nat.testBit_or]; simp
   rw [Nat.testBit_zero] at this
   exact of_decide_eq_true this
  rw [h1, h2, h0]; omega
 | f + 1, w, b + 1, h, hb => by
  rw [pop_step, pop_step]
  have h1 : (w ||| 2 ^ (b + 1)) / 2 = w / 2 ||| 2 ^ b := by rw [Nat.or_div_two, Nat.pow_succ, Nat.mul_div_cancel _ (by decide)]
  have h2 : (w ||| 2 ^ (b + 1)) % 2 = w % 2 := by
   have : (w ||| 2 ^ (b + 1)).testBit 0 = w.testBit 0 := by
    rw [Nat.testBit_or, Nat.testBit_two_pow]; simp
   rw [Nat.testBit_zero, Nat.testBit_zero, decide_eq_decide] at this
   have := Nat.mod_two_eq_zero_or_one w
   have := Nat.mod_two_eq_zero_or_one (w ||| 2 ^ (b + 1))
   omega
  have h3 : (w / 2).testBit b = false := by rw [← Nat.testBit_succ]; exact hb
  rw [h1, h2, pop_or f (w / 2) b (by omega) h3]; omega
theorem orN_at {ws : List Nat} {u v i : Nat} (hu : u < ws.length) : (orN ws u v).getD i 0 = if u = i then ws.getD u 0 ||| 2 ^ v else ws.getD i 0 := by
 unfold orN
 simp only [List.getD_eq_getElem?_getD, List.getElem?_set]
 by_cases c : u = i
 ·subst c; rw [if_pos rfl, if_pos hu, if_pos rfl]; rfl
 ·rw [if_neg c, if_neg c]
theorem jn_at {ws : List Nat} {a b : Nat} (ha : a < ws.length) (hb : b < ws.length) (hab : a ≠ b) (i : Nat) : (jnN ws a b).getD i 0 = if i = a then ws.getD a 0 ||| 2 ^ b else if i = b then ws.getD b 0 ||| 2 ^ a else ws.getD i 0 := by
 unfold jnN
 rw [orN_at (by rw [orN_len]; exact hb), orN_at ha, orN_at ha, if_neg hab]
 by_cases c : i = b
 ·subst c; rw [if_pos rfl, if_neg (fun e => hab e.symm), if_pos rfl]
 ·rw [if_neg (fun e => c e.symm)]
  by_cases d : i = a
  ·subst d; rw [if_pos rfl, if_pos rfl]
  ·rw [if_neg (fun e => d e.symm), if_neg d, if_neg c]
theorem nb_old {m : Nat} {z : Nat → Int} : ∀ (k : Nat), okAll m z k = true → ∀ u v : Nat, ((nbN m z k).getD u 0).testBit v = true → 1 ≤ k ∧ ((u < v ∧ ((u : Int) < ea z (k - 1) ∨ ((u : Int) = ea z (k - 1) ∧ (v : Int) ≤ eb z (k - 1)))) ∨ (v < u ∧ ((v : Int) < ea z (k - 1) ∨ ((v : Int) = ea z (k - 1) ∧ (u : Int) ≤ eb z (k - 1)))))
 | 0, _, u, v, h => by
  rw [nbN, List.getD_eq_getElem?_getD, List.getElem?_replicate] at h
  split at h <;> simp at h
 | k + 1, hok, u, v, h => by
  have hk := okAt_iff.1 (okAll_get hok (i := k) (by omega))
  have ih := nb_old k (okAll_of fun i hi => okAll_get hok (by omega))
  have hl := nbN_len m z k
  obtain ⟨h1, h2, h3, h4⟩ := hk
  rw [nbN, jn_at (by omega) (by omega) (by omega)] at h
  rw [Nat.add_sub_cancel]
  refine ⟨by omega, ?_⟩
  have old : ∀ u v : Nat, ((nbN m z k).getD u 0).testBit v = true → (u < v ∧ ((u : Int) < ea z k ∨ ((u : Int) = ea z k ∧ (v : Int) ≤ eb z k))) ∨ (v < u ∧ ((v : Int) < ea z k ∨ ((v : Int) = ea z k ∧ (u : Int) ≤ eb z k))) := fun u v hb => by
   have := ih u v hb
   omega
  split at h
  ·rename_i e
   rw [Nat.testBit_or, Bool.or_eq_true, Nat.testBit_two_pow, decide_eq_true_eq] at h
   rcases h with h | h
   ·rw [← e] at h; exact old u v h
   ·omega
  ·split at h
   ·rename_i e
    rw [Nat.testBit_or, Bool.or_eq_true, Nat.testBit_two_pow, decide_eq_true_eq] at h
    rcases h with h | h
    ·rw [← e] at h; exact old u v h
    ·omega
   ·exact old u v h
theorem pop_dg {m : Nat} (hm : m ≤ 16) {z : Nat → Int} : ∀ (k : Nat), okAll m z k = true → ∀ v : Nat, v < m → ((popN 16 ((nbN m z k).getD v 0) : Nat) : Int) = dgN z k v
 | 0, _, v, hv => by
  have : (nbN m z 0).getD v 0 = 0 := by
   rw [nbN, List.getD_eq_getElem?_getD, List.getElem?_replicate_of_lt hv]; rfl
  rw [this, popN_zero]; rfl
 | k + 1, hok, v, hv => by
  have hk := okAt_iff.1 (okAll_get hok (i := k) (by omega))
  have hok' : okAll m z k = true := okAll_of fun i hi => okAll_get hok (by omega)
  have ih := pop_dg hm k hok' v hv
  have old := nb_old k hok'
  have hl := nbN_len m z k
  obtain ⟨h1, h2, h3, h4⟩ := hk
  have not : ∀ u w : Nat, ((u : Int) = ea z k ∧ (w : Int) = eb z k ∨ (w : Int) = ea z k ∧ (u : Int) = eb z k) → ((nbN m z k).getD u 0).testBit w = false := fun u w hc => by
   cases e : ((nbN m z k).getD u 0).testBit w with
   | false => rfl
   | true =>
    have := old u w e
    omega
  rw [nbN, jn_at (by omega) (by omega) (by omega), dgN]
  by_cases c : v = (ea z k).toNat
  ·subst c
   rw [if_pos rfl, pop_or _ _ _ (by omega) (not _ _ (by omega)), if_pos (by omega), if_neg (by omega)]
   omega
  ·rw [if_neg c, if_neg (show ¬ ea z k = (v : Int) by omega)]
   by_cases d : v = (eb z k).toNat
   ·subst d
    rw [if_pos rfl, pop_or _ _ _ (by omega) (not _ _ (by omega)), if_pos (by omega)]
    omega
   ·rw [if_neg d, if_neg (show ¬ eb z k = (v : Int) by omega)]
    omega

def irB (z z2 : Nat → Int) (n len : Nat) : Bool := okAll (n : Int) z2 len && eqN (fun v => dgN z2 len v) z n
def irR (z z2 : Nat → Int) (n len : Nat) : Bool := decide (1 ≤ n ∧ n ≤ 16) && irB z z2 n len

end Go.Num

/- Realizations, run. -/
namespace Go.Proofs
open Go Go.Ev Go.Num
set_option linter.unusedVariables false
set_option linter.unusedSimpArgs false
set_option maxRecDepth 100000

noncomputable def cRZ : Code := bodyOf S0 24
noncomputable def RZ_0 : Code := (lc cRZ)
noncomputable def RZ_1 : Code := (lc (rc cRZ))
noncomputable def RZ_2 : Code := (lc (lc (rc (rc cRZ))))
noncomputable def RZ_3 : Code := (ic (ic (rc (lc (rc (rc cRZ))))))
noncomputable def RZ_4 : Code := (rc (rc (rc cRZ)))
theorem RZ_eq : cRZ = (.seq RZ_0 (.seq RZ_1 (.seq (.seq RZ_2 (.block 0 (.loop RZ_3))) RZ_4))) := by kernel_rfl
noncomputable def cEQ : Code := bodyOf S0 43
noncomputable def EQ_0 : Code := (lc cEQ)
noncomputable def EQ_1 : Code := (lc (rc cEQ))
noncomputable def EQ_2 : Code := (lc (lc (rc (rc cEQ))))
noncomputable def EQ_3 : Code := (ic (ic (rc (lc (rc (rc cEQ))))))
noncomputable def EQ_4 : Code := (rc (rc (rc cEQ)))
theorem EQ_eq : cEQ = (.seq EQ_0 (.seq EQ_1 (.seq (.seq EQ_2 (.block 0 (.loop EQ_3))) EQ_4))) := by kernel_rfl
noncomputable def cRR : Code := bodyOf S0 10
noncomputable def RR_0 : Code := (lc cRR)
noncomputable def RR_1 : Code := (lc (rc cRR))
noncomputable def RR_2 : Code := (lc (rc (rc cRR)))
noncomputable def RR_3 : Code := (lc (rc (rc (rc cRR))))
noncomputable def RR_4 : Code := (lc (lc (rc (rc (rc (rc cRR))))))
noncomputable def RR_5 : Code := (ic (ic (rc (lc (rc (rc (rc (rc cRR))))))))
noncomputable def RR_6 : Code := (rc (rc (rc (rc (rc cRR)))))
theorem RR_eq : cRR = (.seq RR_0 (.seq RR_1 (.seq RR_2 (.seq RR_3 (.seq (.seq RR_4 (.block 0 (.loop RR_5))) RR_6))))) := by kernel_rfl
abbrev ow (i n : Nat) : Value := .slice (some ⟨i, 0, none⟩) n n
noncomputable def tCe : Tbl := tcons 30 (eAA (fun _ _ _ _ => true) fun a b c d => I (m_ce a b c d)) fun _ => none
noncomputable def eEq (n : Nat) (c : List Value) (sl : Value) (v : Bool) : Ent := ent (fun args A => match args with | [x, y] => bif gOne (ow 0 n) c [x] A then m_svv [y] [sl] else false | _ => false) fun _ _ => .bool v
noncomputable def tEq (n : Nat) (c : List Value) (sl : Value) (v : Bool) : Tbl := tcons 43 (eEq n c sl v) fun _ => none
noncomputable def eSz : Ent := eI1 (fun x => decide (0 ≤ x) && decide (x < 65536)) fun x => I (m_pop x)
noncomputable def eValG (u : Bool) (a0 : List Value) (v : Value) : Ent := ent (fun args _ => bif u then m_svv args a0 else false) fun _ _ => v
noncomputable def eOw (u : Bool) (a0 : List Value) (n : Nat) (c : List Value) : Ent := ⟨fun args _ => bif u then m_svv args a0 else false, fun _ _ => true, fun _ A => .slice (some ⟨A.next, 0, none⟩) n n, fun _ A => A.new (.cells c 3 A.next 1), fun _ _ => undef, fun _ A => A⟩
noncomputable def tRr (u : Bool) (n : Nat) (sl : Value) (v : Bool) (c : List Value) : Tbl := tcons 21 (eValG u [I (n : Nat), sl] (.bool v)) (tcons 22 (eOw v [I (n : Nat), sl] n c) fun _ => none)
noncomputable def tSz : Tbl := tcons 23 eSz fun _ => none
noncomputable def tIv (u : Bool) (sl : Value) (k : Int) (v : Bool) : Tbl := tcons 15 (eValG u [sl, I k] (.bool v)) fun _ => none
noncomputable def tIr (u : Bool) (sl s2 : Value) (v : Bool) : Tbl := tcons 24 (eValG u [sl, s2] (.bool v)) fun _ => none
abbrev nilV : Value := .slice none 0 0
def vRZ0 (b off n cap : Nat) : OV := [some (ow 0 n), some (RS b off n cap), some nilV, some nilV, some (I 0), some (I 0)]
def lvRZ : List Nat := [5, 0, 1, 13, 14, 15]
def vRZ (b off n cap b2 off2 len cap2 k : Nat) : OV := [some (ow 0 n), some (RS b off n cap), some (RS2 b2 off2 len cap2), some (RS2 b2 off2 len cap2), some (I (len : Nat)), some (I (k : Nat))]
def lvEQ : List Nat := [0, 1, 12, 13]
def vEQ (b off n cap b2 off2 cap2 k : Nat) : OV := [some (RS b off n cap), some (RS b2 off2 n cap2), some (I (n : Nat)), some (I (k : Nat))]
def lvRR : List Nat := [6, 0, 5, 7]
def vRR (b off n cap k : Nat) : OV := [some (ow 0 n), some (RS b off n cap), some (I (n : Nat)), some (I (k : Nat))]

theorem ceA (r : Mem) (a b c d : Int) : (lvlT (SC r) tCm .nil 4 4).call 30 [.agg ⟨[I a, I b]⟩, .agg ⟨[I c, I d]⟩] emptyA fin =
    bif m_cmpI a c != Int.ofNat 0 then .ret (I (m_cmpI a c)) (AW.mk 0 .nil .nil) else bif m_cmpI b d != Int.ofNat 0 then .ret (I (m_cmpI b d)) (AW.mk 0 .nil .nil) else .ret (I (Int.ofNat 0)) (AW.mk 0 .nil .nil) := by kernel_rfl

theorem eqA (r : Mem) (b off n cap b2 off2 n2 cap2 : Nat) (fs : FnsC) (K : OV → List Nat → OO → CR) (kx : Nat → KS) (KR : OV → List Nat → OO → CR) : run (SC r) 12339 26 1 (.seq EQ_0 (.seq EQ_1 EQ_2)) fs none (rbK 0 lvEQ [] K) kx (rbK 0 [4] [] KR) (sc0 12339 [RS b off n cap, RS b2 off2 n2 cap2]) (tr0 12339 [RS b off n cap, RS b2 off2 n2 cap2]) [] emptyA =
    bif Int.ofNat n != Int.ofNat n2 then KR [some (.bool false)] [] [] else K [some (.slice (some ⟨b, off, some 0⟩) n cap), some (.slice (some ⟨b2, off2, some 0⟩) n2 cap2), some (I (Int.ofNat n)), some (I (Int.ofNat 0))] [] [] := by kernel_rfl

theorem eqB (r : Mem) (b off n cap b2 off2 cap2 k : Nat) (fs : FnsC) (K : OV → List Nat → OO → CR) (KX : Nat → OV → List Nat → OO → CR) (KR : OV → List Nat → OO → CR) : run (SC r) 12339 26 1 EQ_3 fs none (rbK 0 lvEQ [] K) (fun j => rbK 0 [] [] (KX j)) (rbK 0 [4] [] KR) [] (bT lvEQ (vEQ b off n cap b2 off2 cap2 k) .nil) [] (mkA []) =
    bif decide (Int.ofNat k < Int.ofNat n) then bif Nat.blt (Int.toNat (Int.ofNat k)) n then Option.casesOn (r b (Nat.add off (Nat.mul (Int.toNat (Int.ofNat k)) 1))) (.fail 423) fun val => bif isI IntKind.i64 val then bif Nat.blt (Int.toNat (Int.ofNat k)) n then Option.casesOn (r b2 (Nat.add off2 (Nat.mul (Int.toNat (Int.ofNat k)) 1))) (.fail 423) fun val_1 => bif isI IntKind.i64 val_1 then bif ofI val != ofI val_1 then KR [some (.bool false)] [] [] else K [some (.slice (some ⟨b, off, some 0⟩) n cap), some (.slice (some ⟨b2, off2, some 0⟩) n cap2), some (I (Int.ofNat n)), some (I (IntKind.wrap .i64 (Int.ofNat k + Int.ofNat 1)))] [] [] else .fail 420 else .fail 420 else .fail 420 else .fail 420 else KX 0 [] [] [] := by kernel_rfl

theorem eqC (r : Mem) (fs : FnsC) (K KR : OV → List Nat → OO → CR) (kx : Nat → KS) : run (SC r) 12339 26 1 EQ_4 fs none (rbK 0 [4] [] K) kx (rbK 0 [4] [] KR) [] (bT [] [] .nil) [] (mkA []) =
    KR [some (.bool true)] [] [] := by kernel_rfl

theorem rzA (r : Mem) (b off n cap b2 off2 len cap2 : Nat) (fs : FnsC) (K : OV → List Nat → OO → CR) (kx : Nat → KS) (kr : KS) : run (SC r) 58355 65 1 (.seq RZ_0 (.seq RZ_1 RZ_2)) fs none (rbK 0 lvRZ [] K) kx kr (sc0 58355 [RS b off n cap, RS2 b2 off2 len cap2]) (tr0 58355 [RS b off n cap, RS2 b2 off2 len cap2]) [] emptyA =
    bif Nat.ble (Int.toNat (Int.ofNat n)) (Int.toNat (Int.ofNat n)) then bif Nat.ble (Int.toNat (Int.ofNat n)) 1000000 then bif m_nns (zerosL (Nat.mul (Int.toNat (Int.ofNat n)) 1) [I (Int.ofNat 0)]) && true then K [some (.slice (some ⟨0, 0, none⟩) (Int.toNat (Int.ofNat n)) (Int.toNat (Int.ofNat n))), some (.slice (some ⟨b, off, some 0⟩) n cap), some (.slice (some ⟨b2, off2, some 0⟩) len cap2), some (.slice (some ⟨b2, off2, some 0⟩) len cap2), some (I (Int.ofNat len)), some (I (Int.ofNat 0))] [] [some (.cells (zerosL (Nat.mul (Int.toNat (Int.ofNat n)) 1) [I (Int.ofNat 0)]) 3 0 1)] else .fail 420 else .fail 420 else .fail 420 := by kernel_rfl

theorem rzA0 (r : Mem) (b off n cap : Nat) (fs : FnsC) (K : OV → List Nat → OO → CR) (kx : Nat → KS) (kr : KS) : run (SC r) 58355 65 1 (.seq RZ_0 (.seq RZ_1 RZ_2)) fs none (rbK 0 lvRZ [] K) kx kr (sc0 58355 [RS b off n cap, nilV]) (tr0 58355 [RS b off n cap, nilV]) [] emptyA =
    bif Nat.ble (Int.toNat (Int.ofNat n)) (Int.toNat (Int.ofNat n)) then bif Nat.ble (Int.toNat (Int.ofNat n)) 1000000 then bif m_nns (zerosL (Nat.mul (Int.toNat (Int.ofNat n)) 1) [I (Int.ofNat 0)]) && true then K [some (.slice (some ⟨0, 0, none⟩) (Int.toNat (Int.ofNat n)) (Int.toNat (Int.ofNat n))), some (.slice (some ⟨b, off, some 0⟩) n cap), some (.slice none 0 0), some (.slice none 0 0), some (I (Int.ofNat 0)), some (I (Int.ofNat 0))] [] [some (.cells (zerosL (Nat.mul (Int.toNat (Int.ofNat n)) 1) [I (Int.ofNat 0)]) 3 0 1)] else .fail 420 else .fail 420 else .fail 420 := by kernel_rfl

theorem rzB0 (r : Mem) (b off n cap : Nat) (c : List Value) (fs : FnsC) (K : OV → List Nat → OO → CR) (KX : Nat → OV → List Nat → OO → CR) (KR : OV → List Nat → OO → CR) : run (SC r) 58355 65 1 RZ_3 fs none (rbK 0 lvRZ [] K) (fun j => rbK 0 [5, 0] [] (KX j)) (rbK 0 [4] [] KR) [] (bT lvRZ (vRZ0 b off n cap) .nil) [] (mkA [oIn c 0]) =
    bif m_nns c && true then KX 0 [some (.slice (some ⟨0, 0, none⟩) n n), some (.slice (some ⟨b, off, some 0⟩) n cap)] [] [some (.cells c 3 0 1)] else .fail 420 := by kernel_rfl

theorem ghN (r : Mem) (n : Int) : (lvlT (SC r) (fun _ => none) .nil 1 2).call 21 [I n, nilV] emptyA fin =
    .ret (.bool true) (AW.mk 0 .nil .nil) := by kernel_rfl

theorem ofN (r : Mem) (n : Nat) (K : Value → AW → CR) : (lvlT (SC r) (fun _ => none) .nil 1 2).call 22 [I (n : Nat), nilV] emptyA K =
    bif Nat.ble (Int.toNat (Int.ofNat n)) (Int.toNat (Int.ofNat n)) then bif Nat.ble (Int.toNat (Int.ofNat n)) 1000000 then K (.slice (some ⟨0, 0, none⟩) (Int.toNat (Int.ofNat n)) (Int.toNat (Int.ofNat n))) (AW.mk 1 (.node .nil (some (.cells (zerosL (Nat.mul (Int.toNat (Int.ofNat n)) 1) [I (Int.ofNat 0)]) 3 0 1)) .nil) .nil) else .fail 420 else .fail 420 := by kernel_rfl

theorem rzB (r : Mem) (b off n cap b2 off2 len cap2 k : Nat) (c : List Value) (K : OV → List Nat → OO → CR) (KX : Nat → OV → List Nat → OO → CR) (KR : OV → List Nat → OO → CR) : run (SC r) 58355 65 1 RZ_3 (lvlT (SC r) tCe .nil 1 1) none (rbK 0 lvRZ [] K) (fun j => rbK 0 [5, 0] [] (KX j)) (rbK 0 [4] [] KR) [] (bT lvRZ (vRZ b off n cap b2 off2 len cap2 k) .nil) [] (mkA [oIn c 0]) =
    bif decide (Int.ofNat k < Int.ofNat len) then bif Nat.blt (Int.toNat (Int.ofNat k)) len then Option.casesOn (r b2 (Nat.add off2 (Nat.mul (Int.toNat (Int.ofNat k)) 2))) (.fail 423) fun val => bif isI IntKind.i64 val then Option.casesOn (r b2 (Nat.succ (Nat.add off2 (Nat.mul (Int.toNat (Int.ofNat k)) 2)))) (.fail 423) fun val_1 => bif isI IntKind.i64 val_1 then bif decide (ofI val < 0) then KR [some (.bool false)] [] [] else bif decide (ofI val ≥ ofI val_1) then KR [some (.bool false)] [] [] else bif decide (ofI val_1 ≥ Int.ofNat n) then KR [some (.bool false)] [] [] else bif decide (Int.ofNat k > 0) then bif decide (0 ≤ IntKind.wrap .i64 (Int.ofNat k - Int.ofNat 1)) then bif Nat.blt (Int.toNat (IntKind.wrap .i64 (Int.ofNat k - Int.ofNat 1))) len then Option.casesOn (r b2 (Nat.add off2 (Nat.mul (Int.toNat (IntKind.wrap .i64 (Int.ofNat k - Int.ofNat 1))) 2))) (.fail 423) fun val_2 => bif isI IntKind.i64 val_2 then Option.casesOn (r b2 (Nat.succ (Nat.add off2 (Nat.mul (Int.toNat (IntKind.wrap .i64 (Int.ofNat k - Int.ofNat 1))) 2)))) (.fail 423) fun val_3 => bif isI IntKind.i64 val_3 then bif decide (m_ce (ofI val_2) (ofI val_3) (ofI val) (ofI val_1) ≥ 0) then bif m_eqv (.agg ⟨[I (ofI val), I (ofI val_1)]⟩) (.agg ⟨[I (ofI val), I (ofI val_1)]⟩) then Option.casesOn (r b2 (Nat.add off2 (Nat.mul (Int.toNat (IntKind.wrap .i64 (Int.ofNat k - Int.ofNat 1))) 2))) (.fail 423) fun val => bif isI IntKind.i64 val then Option.casesOn (r b2 (Nat.succ (Nat.add off2 (Nat.mul (Int.toNat (IntKind.wrap .i64 (Int.ofNat k - Int.ofNat 1))) 2)))) (.fail 423) fun val_4 => bif isI IntKind.i64 val_4 then bif m_eqv (.agg ⟨[I (ofI val), I (ofI val_4)]⟩) (.agg ⟨[I (ofI val_2), I (ofI val_3)]⟩) then KR [some (.bool false)] [] [] else .fail 420 else .fail 420 else .fail 420 else .fail 420 else bif m_eqv (.agg ⟨[I (ofI val), I (ofI val_1)]⟩) (.agg ⟨[I (ofI val), I (ofI val_1)]⟩) then Option.casesOn (r b2 (Nat.add off2 (Nat.mul (Int.toNat (IntKind.wrap .i64 (Int.ofNat k - Int.ofNat 1))) 2))) (.fail 423) fun val_4 => bif isI IntKind.i64 val_4 then Option.casesOn (r b2 (Nat.succ (Nat.add off2 (Nat.mul (Int.toNat (IntKind.wrap .i64 (Int.ofNat k - Int.ofNat 1))) 2)))) (.fail 423) fun val_5 => bif isI IntKind.i64 val_5 then bif m_eqv (.agg ⟨[I (ofI val_4), I (ofI val_5)]⟩) (.agg ⟨[I (ofI val_2), I (ofI val_3)]⟩) then bif decide (0 ≤ ofI val) then bif Nat.blt (Int.toNat (ofI val)) n then Option.casesOn c[Nat.add 0 (Nat.mul (Int.toNat (ofI val)) 1)]? (.fail 423) fun val_6 => bif isI IntKind.i64 val_6 then bif decide (0 ≤ ofI val) then bif Nat.blt (Int.toNat (ofI val)) n then bif Nat.blt (Nat.add 0 (Nat.mul (Int.toNat (ofI val)) 1)) (List.length c) then bif decide (0 ≤ ofI val_1) then bif Nat.blt (Int.toNat (ofI val_1)) n then Option.casesOn (List.set c (Nat.add 0 (Nat.mul (Int.toNat (ofI val)) 1)) (I (IntKind.wrap .i64 (ofI val_6 + Int.ofNat 1))))[Nat.add 0 (Nat.mul (Int.toNat (ofI val_1)) 1)]? (.fail 423) fun val_7 => bif isI IntKind.i64 val_7 then bif decide (0 ≤ ofI val_1) then bif Nat.blt (Int.toNat (ofI val_1)) n then bif Nat.blt (Nat.add 0 (Nat.mul (Int.toNat (ofI val_1)) 1)) (List.length (List.set c (Nat.add 0 (Nat.mul (Int.toNat (ofI val)) 1)) (I (IntKind.wrap .i64 (ofI val_6 + Int.ofNat 1))))) then bif m_nns (List.set (List.set c (Nat.add 0 (Nat.mul (Int.toNat (ofI val)) 1)) (I (IntKind.wrap .i64 (ofI val_6 + Int.ofNat 1)))) (Nat.add 0 (Nat.mul (Int.toNat (ofI val_1)) 1)) (I (IntKind.wrap .i64 (ofI val_7 + Int.ofNat 1)))) && true then K [some (.slice (some ⟨0, 0, none⟩) n n), some (.slice (some ⟨b, off, some 0⟩) n cap), some (.slice (some ⟨b2, off2, some 0⟩) len cap2), some (.slice (some ⟨b2, off2, some 0⟩) len cap2), some (I (Int.ofNat len)), some (I (IntKind.wrap .i64 (Int.ofNat k + Int.ofNat 1)))] [] [some (.cells (List.set (List.set c (Nat.add 0 (Nat.mul (Int.toNat (ofI val)) 1)) (I (IntKind.wrap .i64 (ofI val_6 + Int.ofNat 1)))) (Nat.add 0 (Nat.mul (Int.toNat (ofI val_1)) 1)) (I (IntKind.wrap .i64 (ofI val_7 + Int.ofNat 1)))) 3 0 1)] else .fail 420 else .fail 420 else .fail 420 else .fail 420 else .fail 420 else .fail 420 else .fail 420 else .fail 420 else .fail 420 else .fail 420 else .fail 420 else .fail 420 else .fail 420 else .fail 420 else .fail 420 else .fail 420 else .fail 420 else .fail 420 else .fail 420 else .fail 420 else .fail 420 else bif decide (0 ≤ ofI val) then bif Nat.blt (Int.toNat (ofI val)) n then Option.casesOn c[Nat.add 0 (Nat.mul (Int.toNat (ofI val)) 1)]? (.fail 423) fun val_2 => bif isI IntKind.i64 val_2 then bif decide (0 ≤ ofI val) then bif Nat.blt (Int.toNat (ofI val)) n then bif Nat.blt (Nat.add 0 (Nat.mul (Int.toNat (ofI val)) 1)) (List.length c) then bif decide (0 ≤ ofI val_1) then bif Nat.blt (Int.toNat (ofI val_1)) n then Option.casesOn (List.set c (Nat.add 0 (Nat.mul (Int.toNat (ofI val)) 1)) (I (IntKind.wrap .i64 (ofI val_2 + Int.ofNat 1))))[Nat.add 0 (Nat.mul (Int.toNat (ofI val_1)) 1)]? (.fail 423) fun val_3 => bif isI IntKind.i64 val_3 then bif decide (0 ≤ ofI val_1) then bif Nat.blt (Int.toNat (ofI val_1)) n then bif Nat.blt (Nat.add 0 (Nat.mul (Int.toNat (ofI val_1)) 1)) (List.length (List.set c (Nat.add 0 (Nat.mul (Int.toNat (ofI val)) 1)) (I (IntKind.wrap .i64 (ofI val_2 + Int.ofNat 1))))) then bif m_nns (List.set (List.set c (Nat.add 0 (Nat.mul (Int.toNat (ofI val)) 1)) (I (IntKind.wrap .i64 (ofI val_2 + Int.ofNat 1)))) (Nat.add 0 (Nat.mul (Int.toNat (ofI val_1)) 1)) (I (IntKind.wrap .i64 (ofI val_3 + Int.ofNat 1)))) && true then K [some (.slice (some ⟨0, 0, none⟩) n n), some (.slice (some ⟨b, off, some 0⟩) n cap), some (.slice (some ⟨b2, off2, some 0⟩) len cap2), some (.slice (some ⟨b2, off2, some 0⟩) len cap2), some (I (Int.ofNat len)), some (I (IntKind.wrap .i64 (Int.ofNat k + Int.ofNat 1)))] [] [some (.cells (List.set (List.set c (Nat.add 0 (Nat.mul (Int.toNat (ofI val)) 1)) (I (IntKind.wrap .i64 (ofI val_2 + Int.ofNat 1)))) (Nat.add 0 (Nat.mul (Int.toNat (ofI val_1)) 1)) (I (IntKind.wrap .i64 (ofI val_3 + Int.ofNat 1)))) 3 0 1)] else .fail 420 else .fail 420 else .fail 420 else .fail 420 else .fail 420 else .fail 420 else .fail 420 else .fail 420 else .fail 420 else .fail 420 else .fail 420 else .fail 420 else .fail 420 else .fail 420 else .fail 420 else .fail 420 else bif m_nns c && true then KX 0 [some (.slice (some ⟨0, 0, none⟩) n n), some (.slice (some ⟨b, off, some 0⟩) n cap)] [] [some (.cells c 3 0 1)] else .fail 420 := by kernel_rfl

theorem rzC (r : Mem) (b off n cap : Nat) (c : List Value) (v : Bool) (K KR : OV → List Nat → OO → CR) (kx : Nat → KS) : run (SC r) 58355 65 1 RZ_4 (lvlT (SC r) (tEq n c (RS b off n cap) v) .nil 1 1) none (rbK 0 [4] [] K) kx (rbK 0 [4] [] KR) [] (bT [5, 0] [some (ow 0 n), some (RS b off n cap)] .nil) [] (mkA [oIn c 0]) =
    bif bif m_svv [.slice (some ⟨0, 0, none⟩) n n, .agg ⟨c⟩] [.slice (some ⟨0, 0, none⟩) n n, .agg ⟨c⟩] then m_svv [.slice (some ⟨b, off, some 0⟩) n cap] [.slice (some ⟨b, off, some 0⟩) n cap] else false then bif v then KR [some (.bool true)] [] [] else KR [some (.bool false)] [] [] else .fail 420 := by kernel_rfl

theorem rrA (r : Mem) (b off n cap b2 off2 len cap2 : Nat) (u v : Bool) (c : List Value) (K : OV → List Nat → OO → CR) (kx : Nat → KS) (KR : OV → List Nat → OO → CR) : run (SC r) 243 40 1 (.seq RR_0 (.seq RR_1 (.seq RR_2 (.seq RR_3 RR_4)))) (lvlT (SC r) (tRr u n (RS2 b2 off2 len cap2) v c) .nil 1 1) none (rbK 0 lvRR [] K) kx (rbK 0 [4] [] KR) (sc0 243 [RS b off n cap, RS2 b2 off2 len cap2]) (tr0 243 [RS b off n cap, RS2 b2 off2 len cap2]) [] emptyA =
    bif decide (Int.ofNat n < 1) then KR [some (.bool false)] [] [] else bif decide (Int.ofNat n > 16) then KR [some (.bool false)] [] [] else bif bif u then m_svv [I (Int.ofNat n), .slice (some ⟨b2, off2, some 0⟩) len cap2] [I (Int.ofNat n), .slice (some ⟨b2, off2, some 0⟩) len cap2] else false then bif v then bif bif v then m_svv [I (Int.ofNat n), .slice (some ⟨b2, off2, some 0⟩) len cap2] [I (Int.ofNat n), .slice (some ⟨b2, off2, some 0⟩) len cap2] else false then bif m_nns c && true then K [some (.slice (some ⟨0, 0, none⟩) n n), some (.slice (some ⟨b, off, some 0⟩) n cap), some (I (Int.ofNat n)), some (I (Int.ofNat 0))] [] [some (.cells c 3 0 1)] else .fail 420 else .fail 420 else KR [some (.bool false)] [] [] else .fail 420 := by kernel_rfl

theorem rrA0 (r : Mem) (b off n cap : Nat) (u v : Bool) (c : List Value) (K : OV → List Nat → OO → CR) (kx : Nat → KS) (KR : OV → List Nat → OO → CR) : run (SC r) 243 40 1 (.seq RR_0 (.seq RR_1 (.seq RR_2 (.seq RR_3 RR_4)))) (lvlT (SC r) (tRr u n nilV v c) .nil 1 1) none (rbK 0 lvRR [] K) kx (rbK 0 [4] [] KR) (sc0 243 [RS b off n cap, nilV]) (tr0 243 [RS b off n cap, nilV]) [] emptyA =
    bif decide (Int.ofNat n < 1) then KR [some (.bool false)] [] [] else bif decide (Int.ofNat n > 16) then KR [some (.bool false)] [] [] else bif bif u then m_svv [I (Int.ofNat n), .slice none 0 0] [I (Int.ofNat n), .slice none 0 0] else false then bif v then bif bif v then m_svv [I (Int.ofNat n), .slice none 0 0] [I (Int.ofNat n), .slice none 0 0] else false then bif m_nns c && true then K [some (.slice (some ⟨0, 0, none⟩) n n), some (.slice (some ⟨b, off, some 0⟩) n cap), some (I (Int.ofNat n)), some (I (Int.ofNat 0))] [] [some (.cells c 3 0 1)] else .fail 420 else .fail 420 else KR [some (.bool false)] [] [] else .fail 420 := by kernel_rfl

theorem rrB (r : Mem) (b off n cap k : Nat) (c : List Value) (K : OV → List Nat → OO → CR) (KX : Nat → OV → List Nat → OO → CR) (KR : OV → List Nat → OO → CR) : run (SC r) 243 40 1 RR_5 (lvlT (SC r) tSz .nil 1 1) none (rbK 0 lvRR [] K) (fun j => rbK 0 [] [] (KX j)) (rbK 0 [4] [] KR) [] (bT lvRR (vRR b off n cap k) .nil) [] (mkA [oIn c 0]) =
    bif decide (Int.ofNat k < Int.ofNat n) then bif Nat.blt (Int.toNat (Int.ofNat k)) n then Option.casesOn c[Nat.add 0 (Nat.mul (Int.toNat (Int.ofNat k)) 1)]? (.fail 423) fun val => bif isI IntKind.i64 val then bif decide (0 ≤ ofI val) && decide (ofI val < 65536) then bif Nat.blt (Int.toNat (Int.ofNat k)) n then Option.casesOn (r b (Nat.add off (Nat.mul (Int.toNat (Int.ofNat k)) 1))) (.fail 423) fun val_1 => bif isI IntKind.i64 val_1 then bif m_pop (ofI val) != ofI val_1 then Option.casesOn (r b (Nat.add off (Nat.mul (Int.toNat (Int.ofNat k)) 1))) (.fail 423) fun val_2 => bif isI IntKind.i64 val_2 then bif m_eqv (I (ofI val_2)) (I (ofI val_1)) then Option.casesOn (r b (Nat.add off (Nat.mul (Int.toNat (Int.ofNat k)) 1))) (.fail 423) fun val_3 => bif isI IntKind.i64 val_3 then bif m_eqv (I (ofI val_3)) (I (ofI val_1)) then Option.casesOn c[Nat.add 0 (Nat.mul (Int.toNat (Int.ofNat k)) 1)]? (.fail 423) fun val_4 => bif isI IntKind.i64 val_4 then bif m_eqv (I (ofI val_4)) (I (ofI val)) then KR [some (.bool false)] [] [] else .fail 420 else .fail 420 else .fail 420 else .fail 420 else .fail 420 else .fail 420 else Option.casesOn (r b (Nat.add off (Nat.mul (Int.toNat (Int.ofNat k)) 1))) (.fail 423) fun val_2 => bif isI IntKind.i64 val_2 then bif m_eqv (I (ofI val_2)) (I (ofI val_1)) then Option.casesOn (r b (Nat.add off (Nat.mul (Int.toNat (Int.ofNat k)) 1))) (.fail 423) fun val_3 => bif isI IntKind.i64 val_3 then bif m_eqv (I (ofI val_3)) (I (ofI val_1)) then Option.casesOn c[Nat.add 0 (Nat.mul (Int.toNat (Int.ofNat k)) 1)]? (.fail 423) fun val_4 => bif isI IntKind.i64 val_4 then bif m_eqv (I (ofI val_4)) (I (ofI val)) then bif m_nns c && true then K [some (.slice (some ⟨0, 0, none⟩) n n), some (.slice (some ⟨b, off, some 0⟩) n cap), some (I (Int.ofNat n)), some (I (IntKind.wrap .i64 (Int.ofNat k + Int.ofNat 1)))] [] [some (.cells c 3 0 1)] else .fail 420 else .fail 420 else .fail 420 else .fail 420 else .fail 420 else .fail 420 else .fail 420 else .fail 420 else .fail 420 else .fail 420 else .fail 420 else .fail 420 else KX 0 [] [] [] := by kernel_rfl

theorem rrC (r : Mem) (fs : FnsC) (K KR : OV → List Nat → OO → CR) (kx : Nat → KS) : run (SC r) 243 40 1 RR_6 fs none (rbK 0 [4] [] K) kx (rbK 0 [4] [] KR) [] (bT [] [] .nil) [] (mkA []) =
    KR [some (.bool true)] [] [] := by kernel_rfl

theorem ivA (r : Mem) (b off n cap : Nat) (k : Int) (u v : Bool) : (lvlT (SC r) (tIv u (RS b off n cap) k v) .nil 1 3).call 9 [RS b off n cap, I k] emptyA fin =
    bif decide (Int.ofNat n > 16) then .ret (.bool false) (AW.mk 0 .nil .nil) else bif Int.ofNat n == Int.ofNat 0 then .ret (.bool false) (AW.mk 0 .nil .nil) else bif bif u then m_svv [.slice (some ⟨b, off, some 0⟩) n cap, I k] [.slice (some ⟨b, off, some 0⟩) n cap, I k] else false then bif v then .ret (.bool true) (AW.mk 0 .nil .nil) else .ret (.bool false) (AW.mk 0 .nil .nil) else .fail 420 := by kernel_rfl

theorem irA (r : Mem) (b off n cap b2 off2 len cap2 : Nat) (u v : Bool) : (lvlT (SC r) (tIr u (RS b off n cap) (RS2 b2 off2 len cap2) v) .nil 1 3).call 11 [RS b off n cap, RS2 b2 off2 len cap2] emptyA fin =
    bif decide (Int.ofNat n > 16) then .ret (.bool false) (AW.mk 0 .nil .nil) else bif Int.ofNat n == Int.ofNat 0 then .ret (.bool false) (AW.mk 0 .nil .nil) else bif bif u then m_svv [.slice (some ⟨b, off, some 0⟩) n cap, .slice (some ⟨b2, off2, some 0⟩) len cap2] [.slice (some ⟨b, off, some 0⟩) n cap, .slice (some ⟨b2, off2, some 0⟩) len cap2] else false then bif v then .ret (.bool true) (AW.mk 0 .nil .nil) else .ret (.bool false) (AW.mk 0 .nil .nil) else .fail 420 := by kernel_rfl

theorem irA0 (r : Mem) (b off n cap : Nat) (u v : Bool) : (lvlT (SC r) (tIr u (RS b off n cap) nilV v) .nil 1 3).call 11 [RS b off n cap, nilV] emptyA fin =
    bif decide (Int.ofNat n > 16) then .ret (.bool false) (AW.mk 0 .nil .nil) else bif Int.ofNat n == Int.ofNat 0 then .ret (.bool false) (AW.mk 0 .nil .nil) else bif bif u then m_svv [.slice (some ⟨b, off, some 0⟩) n cap, .slice none 0 0] [.slice (some ⟨b, off, some 0⟩) n cap, .slice none 0 0] else false then bif v then .ret (.bool true) (AW.mk 0 .nil .nil) else .ret (.bool false) (AW.mk 0 .nil .nil) else .fail 420 := by kernel_rfl

end Go.Proofs

/- Rows compared, edges compared: what the calls answer. -/
namespace Go.Proofs
open Go Go.Ev Go.Num
set_option linter.unusedVariables false
set_option linter.unusedSimpArgs false
set_option maxRecDepth 100000

theorem ce_calls (r : Mem) (a b c d : Int) : GrT Tryz.prog r 30 [.agg ⟨[I a, I b]⟩, .agg ⟨[I c, I d]⟩] (I (m_ce a b c d)) :=
 GrT.of (SC_ok r) (tCm_ok r) .nil rfl ⟨4, 4, by
  rw [ceA]
  unfold m_ce
  by_cases h : m_cmpI a c = 0
  ·have h' : (m_cmpI a c != Int.ofNat 0) = false := neF h
   rw [h', if_pos h, cond_false]
   by_cases h2 : m_cmpI b d = 0
   ·have h2' : (m_cmpI b d != Int.ofNat 0) = false := neF h2
    rw [h2', h2]; rfl
   ·have h2' : (m_cmpI b d != Int.ofNat 0) = true := neT h2
    rw [h2']; rfl
  ·have h' : (m_cmpI a c != Int.ofNat 0) = true := neT h
   rw [h', if_neg h]; rfl⟩
theorem tCe_ok (r : Mem) : TOk (SC r) tCe := TOk.nil.cons (eAA_ok fun a b c d _ => ce_calls r a b c d)
section
variable {r : Mem} {b off n cap b2 off2 n2 cap2 : Nat} {z z2 : Nat → Int}
theorem eq_ok (hz : rowAt r b off n z) (hz2 : rowAt r b2 off2 n2 z2) (hn : n ≤ 1000000) : GrT Tryz.prog r 43 [RS b off n cap, RS b2 off2 n2 cap2] (.bool (n == n2 && eqN z z2 n)) := by
 refine GrT.ofS (C := SC r) rfl rfl rfl (callO (SC_ok r) (by kernel_rfl) ((bodySC r _).trans EQ_eq) (nt := 26) (by kernel_rfl) (rs := [.tmp 4]) (by kernel_rfl) 12339 rfl ⟨[4], [], fun vs ms os => vs = [some (.bool (n == n2 && eqN z z2 n))] ∧ ms = [] ∧ os = []⟩ ?_ fun γ W F kk hwr hF hro h0' => ?_)
 ·rintro vs ms os ⟨rfl, rfl, rfl⟩
  exact ⟨_, mkA [], by kernel_rfl, rfl⟩
 have h0' : ∀ i, 0 ≤ i → γ i = none := h0'
 refine Go.Ev.Reach.after3R (SC_ok r) TOk.nil (tm := .nil) (L := 1) (L' := 1) (d := 1) hF hro h0' (.step (.step .base))
  (o1 := ⟨lvEQ, [], fun vs ms os => n = n2 ∧ vs = [some (RS b off n cap), some (RS b2 off2 n2 cap2), some (I (n : Nat)), some (I 0)] ∧ ms = [] ∧ os = []⟩)
  (o2 := ⟨[], [], fun vs ms os => (n = n2 ∧ eqN z z2 n = true) ∧ vs = [] ∧ ms = [] ∧ os = []⟩) [] (fun p hp => nomatch hp) ?_ ?_ ?_
 ·rintro vs ms os ⟨hnn, rfl, rfl, rfl⟩
  subst hnn
  refine Go.Ev.Reach.blockC (Go.Ev.Reach.loopC (j := n) (lv := lvEQ) (fl := []) (I := fun q vs ms os => ∃ i, i ≤ n ∧ q = n - i ∧ eqN z z2 i = true ∧ vs = vEQ b off n cap b2 off2 cap2 i ∧ ms = [] ∧ os = []) (fun q vs ms os hJ => ?_) ⟨0, by omega, rfl, rfl, rfl, rfl, rfl⟩)
  obtain ⟨i, hi, rfl, he, rfl, rfl, rfl⟩ := hJ
  refine Go.Ev.Reach.segR (SC_ok r) TOk.nil (tm := .nil) (L := 1) (L' := 1) (d := 1) hF hro h0' [(0, ⟨[], [], fun vs ms os => (n = n ∧ eqN z z2 n = true) ∧ vs = [] ∧ ms = [] ∧ os = []⟩)] (fun p hp => by cases List.mem_singleton.1 hp; rfl) ?_
  have hn' := eqB r b off n cap b2 off2 cap2 i
  simp only [Int.ofNat_eq_natCast, Int.toNat_natCast] at hn'
  by_cases c : i < n
  ·have c1 : (i : Int) < (n : Int) := by omega
   have c3 : Nat.blt i n = true := Nat.ble_eq_true_of_le (by omega)
   have e3 := inc1' (k := i) (by omega)
   simp only [Int.ofNat_eq_natCast] at e3
   simp only [dT c1, c3, cond_true, row_1 hz c, row_1 hz2 c, isI_I, e3] at hn'
   dsimp +instances only [ofI_I] at hn'
   by_cases d : z i = z2 i
   ·simp only [neF d, cond_false] at hn'
    exact (hn' _ _ _ _).trans (qq_ok ⟨n - (i + 1), by omega, i + 1, c, rfl, by rw [eqN, he, dT d]; rfl, rfl, rfl, rfl⟩)
   ·simp only [neT d, cond_true] at hn'
    exact (hn' _ _ _ _).trans (qq_ok ⟨by rw [eqN_no c d, Bool.and_false], rfl, rfl⟩)
  ·obtain rfl : i = n := by omega
   have c1 : ¬ (i : Int) < (i : Int) := by omega
   simp only [dF c1, cond_false] at hn'
   exact (hn' _ _ _ _).trans (qq_ok ⟨⟨rfl, he⟩, rfl, rfl, rfl⟩)
 ·rintro vs ms os ⟨⟨hnn, he⟩, rfl, rfl, rfl⟩
  refine Go.Ev.Reach.segR (SC_ok r) TOk.nil (tm := .nil) (L := 1) (L' := 1) (d := 1) hF hro h0' [] (fun p hp => nomatch hp) ?_
  have hv : (n == n2 && eqN z z2 n) = true := by subst hnn; rw [he]; simp
  rw [hv]
  exact (eqC r _ _ _ _).trans (qq_ok ⟨rfl, rfl, rfl⟩)
 ·refine (eqA r b off n cap b2 off2 n2 cap2 _ _ _ _).trans ?_
  by_cases c : n = n2
  ·rw [neF (show Int.ofNat n = Int.ofNat n2 by rw [c]), cond_false]
   exact qq_ok ⟨c, rfl, rfl, rfl⟩
  ·have hv : (n == n2 && eqN z z2 n) = false := by rw [beq_eq_false_iff_ne.2 c]; rfl
   rw [neT (show Int.ofNat n ≠ Int.ofNat n2 from fun h => c (Int.ofNat.inj h)), cond_true, hv]
   exact qq_ok ⟨rfl, rfl, rfl⟩
end

end Go.Proofs

