/- Greatest divisors, inverses, first links: what the loops answer. -/
import Derived.Test.YtmcgmligdnpejaaDoorInvA
import Derived.Test.YtmcgmligdnpejaaDoorFracOk
namespace Go.Proofs
open Go Go.Ev Go.Num

theorem gc_loop (r : Mem) (fs : FnsC) (L : Nat) (kx : Nat → KS) (kr : KS) (ms : List Nat) (A : AW) (R : CR) : ∀ (j : Nat) (a b : Int) (s : List (Nat × Value)), b.toNat < j → (∀ s b', kx 0 s (TG (gcdP a b) b') ms A = R) →
    cLoop (fun kl => run (SC r) 19 12 L (ic (ic (lc (rc cGc)))) fs none kl kx kr) j s (TG a b) ms A = R := by
  intro j
  induction j with
  | zero => intro a b s h; omega
  | succ j ih =>
    intro a b s h hx
    rw [cLoop_succ, gcB]
    by_cases hb : b > 0
    · have h0 : b ≠ 0 := by omega
      have h1 := Int.tmod_lt_of_pos a hb
      simp only [hb, h0, decide_true, decide_false, cond_true, Bool.not_false]
      rw [gcdP, dif_pos hb] at hx
      exact ih b (a.tmod b) _ (by omega) hx
    · simp only [hb, decide_false, cond_false]
      rw [gcdP, dif_neg hb] at hx
      exact hx _ _

theorem cGc_eq : cGc = .seq (lc cGc) (.seq (.block 0 (.loop (ic (ic (lc (rc cGc)))))) (rc (rc cGc))) := by kernel_rfl

theorem gcd_ok (r : Mem) (a b : Int) : GrT Tryd.prog r 34 [I a, I b] (I (gcdP a b)) :=
  GrT.of (SC_ok r) TOk.nil masks rfl ⟨b.toNat + 1, 1, by
    rw [enterN (m := 19) (n := 12) (rs := [.tmp 4]) cGc rfl (by kernel_rfl) (by kernel_rfl) (by kernel_rfl) (by kernel_rfl) (by kernel_rfl) rfl]
    generalize hk : finK (SC r) 19 [.tmp 4] fin = kr
    rw [cGc_eq, run_while]
    refine (gcA r _ _ a b _ _ _ _ _).trans ?_
    refine (show _ = _ from gc_loop r _ _ _ _ _ _ _ (b.toNat + 1) a b _ (by omega) fun s b' => ?_)
    refine (gcC r _ _ _ _ _ _ _ _ _ _).trans ?_
    subst hk
    rfl⟩

theorem in_loop (r : Mem) (fs : FnsC) (L : Nat) (kx : Nat → KS) (kr : KS) (ms : List Nat) (A : AW) (a n : Int) (R : CR) : ∀ (j : Nat) (l m f g : Int) (v9 : Tr Value) (s : List (Nat × Value)), m.toNat < j → Inv a n l m f g → l ≤ 1000000 → m ≤ 1000000 → n ≤ 1000000 →
    (∀ s l' g' v9, kx 0 s (TI a n l' 0 (fac l m f g) g' v9) ms A = R) →
    cLoop (fun kl => run (SC r) 1011 32 L (ic (ic (lc (rc (rc (rc cIn)))))) fs none kl kx kr) j s (TI a n l m f g v9) ms A = R := by
  intro j
  induction j with
  | zero => intro l m f g v9 s h; omega
  | succ j ih =>
    intro l m f g v9 s h hi hl hm hn hx
    rw [cLoop_succ, inB]
    have m0 := hi.n0
    have l0 := hi.l0
    by_cases hb : m > 0
    · have h0 : m ≠ 0 := by omega
      have hs := hi.step hb
      have h1 := Int.tmod_lt_of_pos l hb
      have e0 : l - l.tdiv m * m = l.tmod m := by have := Int.tmod_def l m; rw [Int.mul_comm] at this; exact this.symm
      obtain ⟨b1, b2, b3, b4, b5, b6, b7, b8⟩ := hi.bound hb
      have w1 : IntKind.wrap IntKind.i64 (l.tdiv m) = l.tdiv m := wrI (by omega)
      have w2 : IntKind.wrap IntKind.i64 (l.tdiv m * m) = l.tdiv m * m := wrI (by omega)
      have w3 : IntKind.wrap IntKind.i64 (l - l.tdiv m * m) = l - l.tdiv m * m := wrI (by omega)
      have w4 : IntKind.wrap IntKind.i64 (l.tdiv m * g) = l.tdiv m * g := wrI (by omega)
      have w5 : IntKind.wrap IntKind.i64 (f - l.tdiv m * g) = f - l.tdiv m * g := wrI (by omega)
      simp only [neT (show m ≠ Int.ofNat 0 from h0), dF h0, cond_true, Bool.not_false, w1, w2, w3, w4, w5]
      rw [fac, dif_pos hb] at hx
      cases v9 <;> exact ih m (l - l.tdiv m * m) g (f - l.tdiv m * g) _ _ (by omega) hs hm (by omega) hn hx
    · have h0 : m = 0 := by omega
      subst h0
      rw [fac, dif_neg hb] at hx
      exact hx _ _ _ _

theorem tR_ok (r : Mem) : TOk (SC r) tR := TOk.cons TOk.nil (restE_ok r)

theorem cIn_eq : cIn = .seq (lc cIn) (.seq (lc (rc cIn)) (.seq (lc (rc (rc cIn))) (.seq (.block 0 (.loop (ic (ic (lc (rc (rc (rc cIn)))))))) (rc (rc (rc (rc cIn))))))) := by kernel_rfl

theorem inv_ok (r : Mem) (a n : Int) (h0 : 0 ≤ a) (h1 : a < n) (h2 : n ≤ 1000000) : GrT Tryd.prog r 75 [I a, I n] (I (inv a n)) :=
  GrT.of (SC_ok r) (tR_ok r) masks rfl ⟨n.toNat + 1, 1, by
    rw [enterN (m := 1011) (n := 32) (rs := [.tmp 4]) cIn rfl (by kernel_rfl) (by kernel_rfl) (by kernel_rfl) (by kernel_rfl) (by kernel_rfl) rfl]
    generalize hk : finK (SC r) 1011 [.tmp 4] fin = kr
    rw [cIn_eq, seqA, seqA, run_while]
    refine (inA r _ _ a n _ _ _ _ _).trans ?_
    refine (show _ = _ from in_loop r _ _ _ _ _ _ a n _ (n.toNat + 1) a n 1 0 .nil _ (by omega) (Inv.start h0 (by omega)) (by omega) h2 h2 fun s l' g' v9 => ?_)
    refine (inC r _ _ _ _ _ _ _ _ _ _ _ _ _ _ _).trans ?_
    have hg : m_restG (fac a n 1 0) n = true := by simp [m_restG]; omega
    simp only [hg, cond_true]
    subst hk
    rfl⟩

theorem fi_loop (r : Mem) (fs : FnsC) (L : Nat) (kx : Nat → KS) (kr : KS) (ms : List Nat) (A : AW) (p q : Int) (R : CR) (hp : 0 < p) (hp2 : p ≤ 1000000) (hq : q ≤ 1000000) :
    ∀ (j : Nat) (x : Int) (s : List (Nat × Value)), 0 ≤ x → (q - x).toNat < j →
    (∀ s x', fstR p q x = q → kx 0 s (TFi p q x') ms A = R) → (∀ s, kr s (((tr0 115 [I p, I q]).put 4 (some (I p))).put 5 (some (I (fstR p q x))) |>.put 6 (some (I (fstR p q x)))) ms A = R) →
    cLoop (fun kl => run (SC r) 115 24 L (ic (ic (rc (lc (rc cFi))))) fs none kl kx kr) j s (TFi p q x) ms A = R := by
  intro j
  induction j with
  | zero => intro x s h0 h; omega
  | succ j ih =>
    intro x s hx0 h hx hr
    rw [cLoop_succ, fiB]
    by_cases hb : x < q
    · have h0 : p ≠ 0 := by omega
      have hm1 : 0 ≤ x * q := Int.mul_nonneg hx0 (by omega)
      have hm2 : x * q ≤ 1000000 * 1000000 := Int.mul_le_mul (by omega) hq (by omega) (by omega)
      have w1 : IntKind.wrap IntKind.i64 (x * q) = x * q := wrI (by omega)
      have w2 : IntKind.wrap IntKind.i64 (x + Int.ofNat 1) = x + 1 := wrI (by simp; omega)
      simp only [dT hb, dF h0, cond_true, Bool.not_false, w1, w2]
      rw [fstR, dif_pos hb] at hx hr
      by_cases c : (x * q).tmod p = (1:Int).tmod p
      · rw [if_pos c] at hr
        simp only [eqT (show (x * q).tmod p = (Int.ofNat 1).tmod p from c), cond_true]
        exact hr _
      · rw [if_neg c] at hx hr
        simp only [eqF (show (x * q).tmod p ≠ (Int.ofNat 1).tmod p from c), cond_false]
        exact ih (x + 1) _ (by omega) (by omega) hx hr
    · simp only [dF hb, cond_false]
      rw [fstR, dif_neg hb] at hx
      exact hx _ _ rfl

theorem cFi_eq : cFi = .seq (lc cFi) (.seq (.seq (lc (lc (rc cFi))) (.block 0 (.loop (ic (ic (rc (lc (rc cFi)))))))) (rc (rc cFi))) := by kernel_rfl

/-- The first of the same links, as the reference finds it. -/
theorem first_ok (r : Mem) (p q : Int) (h0 : 0 < p) (h1 : p ≤ 1000000) (h2 : q ≤ 1000000) : GrT Tryd.prog r 29 [I p, I q] (.tuple ⟨[I p, I (fstR p q 0)]⟩) :=
  GrT.of (SC_ok r) TOk.nil masks rfl ⟨q.toNat + 1, 1, by
    rw [enterN (m := 115) (n := 24) (rs := [.tmp 4, .tmp 5]) cFi rfl (by kernel_rfl) (by kernel_rfl) (by kernel_rfl) (by kernel_rfl) (by kernel_rfl) rfl]
    generalize hk : finK (SC r) 115 [.tmp 4, .tmp 5] fin = kr
    rw [cFi_eq, run_pre, run_while]
    refine (fiA r _ _ p q _ _ _ _ _).trans ?_
    refine (show _ = _ from fi_loop r _ _ _ _ _ _ p q _ h0 h1 h2 (q.toNat + 1) 0 _ (by omega) (by omega) (fun s x' he => ?_) fun s => ?_)
    · refine (fiC r _ _ _ _ _ _ _ _ _ _ _).trans ?_
      rw [he]
      subst hk
      rfl
    · subst hk
      rfl⟩

theorem be_loop (r : Mem) (fs : FnsC) (L : Nat) (kx : Nat → KS) (kr : KS) (ms : List Nat) (A : AW) (p q v : Int) (R : CR) (hp : -500 ≤ p) (hp2 : p ≤ 500) (hq : 0 < q) (hq2 : q ≤ 500) (hv : v < q) (hd : q ∣ p * v + 1) (ho : ∀ x, 0 ≤ x → x < v → ¬ q ∣ p * x + 1) :
    ∀ (j : Nat) (x : Int) (s : List (Nat × Value)), 0 ≤ x → x ≤ v → (v - x).toNat < j →
    (∀ s, kr s (((tr0 115 [I p, I q]).put 4 (some (I ((p * v + 1).tdiv q)))).put 5 (some (I v)) |>.put 6 (some (I v))) ms A = R) →
    cLoop (fun kl => run (SC r) 115 27 L (ic (ic (rc (rc (rc cBe))))) fs none kl kx kr) j s (TBe p q x) ms A = R := by
  intro j
  induction j with
  | zero => intro x s h0 h; omega
  | succ j ih =>
    intro x s hx0 hxv h hr
    rw [cLoop_succ, beB]
    have h0 : q ≠ 0 := by omega
    have hm1 : p * x ≤ 500 * 500 := by
      by_cases c : 0 ≤ p
      · exact Int.mul_le_mul hp2 (by omega) hx0 (by omega)
      · have : p * x ≤ 0 := Int.mul_nonpos_of_nonpos_of_nonneg (by omega) hx0
        omega
    have hm2 : -(500 * 500) ≤ p * x := by
      by_cases c : 0 ≤ p
      · have : 0 ≤ p * x := Int.mul_nonneg c hx0
        omega
      · have : -p * x ≤ 500 * 500 := Int.mul_le_mul (by omega) (by omega) hx0 (by omega)
        have e : -p * x = -(p * x) := by rw [Int.neg_mul]
        omega
    have w1 : IntKind.wrap IntKind.i64 (p * x) = p * x := wrI (by omega)
    have w2 : IntKind.wrap IntKind.i64 (p * x + Int.ofNat 1) = p * x + 1 := wrI (by simp; omega)
    have w3 : IntKind.wrap IntKind.i64 (x + Int.ofNat 1) = x + 1 := wrI (by simp; omega)
    have hdv : (p * x + 1).tmod q = 0 ↔ q ∣ p * x + 1 := ⟨fun h => Int.dvd_of_tmod_eq_zero h, fun h => Int.tmod_eq_zero_of_dvd h⟩
    have w4 : IntKind.wrap IntKind.i64 ((p * x + 1).tdiv q) = (p * x + 1).tdiv q := wrI (by
      have := Int.natAbs_tdiv_le_natAbs (p * x + 1) q
      omega)
    simp only [dF h0, cond_true, Bool.not_false, w1, w2, w3, w4]
    by_cases c : q ∣ p * x + 1
    · have : x = v := by
        by_cases cx : x < v
        · exact absurd c (ho x hx0 cx)
        · omega
      subst this
      simp only [eqT (show (p * x + 1).tmod q = Int.ofNat 0 from hdv.2 c), cond_true]
      exact hr _
    · simp only [eqF (show (p * x + 1).tmod q ≠ Int.ofNat 0 from fun h => c (hdv.1 h)), cond_false]
      have : x ≠ v := fun e => c (e ▸ hd)
      exact ih (x + 1) _ (by omega) (by omega) (by omega) hr

theorem cBe_eq : cBe = .seq (lc cBe) (.seq (lc (rc cBe)) (.seq (lc (rc (rc cBe))) (.block 0 (.loop (ic (ic (rc (rc (rc cBe))))))))) := by kernel_rfl

/-- The second of the numbers of the neighbour. -/
def bezV (p q : Int) : Int := if q = 0 then -p else inv ((-p) % q) q
def bezU (p q : Int) : Int := if q = 0 then 0 else (p * bezV p q + 1).tdiv q

theorem bezV_spec {p q : Int} (hq : 0 < q) (hg : Int.gcd p q = 1) : q ∣ p * bezV p q + 1 ∧ ∀ x, 0 ≤ x → x < bezV p q → ¬ q ∣ p * x + 1 := by
  have a0 : 0 ≤ (-p) % q := Int.emod_nonneg _ (by omega)
  have e := Int.emod_add_mul_ediv (-p) q
  have hg2 : Int.gcd ((-p) % q) q = 1 := by
    have : (-p) % q = -p + (-((-p) / q)) * q := by grind
    rw [this, Int.gcd_add_mul_right_left, Int.neg_gcd, hg]
  have hb : bezV p q = inv ((-p) % q) q := by unfold bezV; rw [if_neg (by omega)]
  have hd := inv_dvd a0 hq hg2
  rw [hb]
  constructor
  · obtain ⟨k, hk⟩ := hd
    exact ⟨-k - (-p) / q * inv ((-p) % q) q, by grind⟩
  · intro x h0 h1 hx
    have := inv_lt ((-p) % q) hq
    have hx2 : q ∣ ((-p) % q) * x - 1 := by
      obtain ⟨k, hk⟩ := hx
      exact ⟨-k - (-p) / q * x, by grind⟩
    have := inv_only a0 hq hg2 h0 (by omega) hx2
    omega

theorem bez_ok (r : Mem) (p q : Int) (h0 : -500 ≤ p) (h1 : p ≤ 500) (h2 : q ≤ 500) (hf : frac p q = true) : GrT Tryd.prog r 65 [I p, I q] (.tuple ⟨[I (bezU p q), I (bezV p q)]⟩) :=
  GrT.of (SC_ok r) TOk.nil masks rfl ⟨q.toNat + 1, 1, by
    rw [enterN (m := 115) (n := 27) (rs := [.tmp 4, .tmp 5]) cBe rfl (by kernel_rfl) (by kernel_rfl) (by kernel_rfl) (by kernel_rfl) (by kernel_rfl) rfl]
    generalize hk : finK (SC r) 115 [.tmp 4, .tmp 5] fin = kr
    rw [cBe_eq, seqA, seqA, run_while0]
    refine (beA r _ _ p q _ _ _ _ _).trans ?_
    rw [frac_iff] at hf
    by_cases hq : q = 0
    · subst hq
      have w : IntKind.wrap IntKind.i64 (Int.ofNat 0 - p) = -p := by
        rw [wrI (by simp; omega)]; simp
      have hb : bezV p 0 = -p := by unfold bezV; simp
      have hb2 : bezU p 0 = 0 := by unfold bezU; simp
      rw [hb, hb2]
      simp only [w]
      subst hk
      rfl
    · have hq0 : 0 < q := by omega
      have hg : Int.gcd p q = 1 := by omega
      obtain ⟨s1, s2⟩ := bezV_spec hq0 hg
      have hv0 : 0 ≤ bezV p q := by unfold bezV; rw [if_neg hq]; exact inv_nonneg _ hq0
      have hv : bezV p q < q := by unfold bezV; rw [if_neg hq]; exact inv_lt _ hq0
      simp only [eqF (show q ≠ Int.ofNat 0 from hq), cond_false]
      refine (show _ = _ from be_loop r _ _ _ _ _ _ p q (bezV p q) _ h0 h1 hq0 h2 hv s1 s2 (q.toNat + 1) 0 _ (by omega) hv0 (by omega) fun s => ?_)
      have hu : bezU p q = (p * bezV p q + 1).tdiv q := by unfold bezU; rw [if_neg hq]
      rw [hu]
      subst hk
      rfl⟩

end Go.Proofs
