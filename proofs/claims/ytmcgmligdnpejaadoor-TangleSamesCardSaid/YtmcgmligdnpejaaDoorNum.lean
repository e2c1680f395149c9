/- Numbers: greatest divisors, inverses by a modulus, as the loops find them. -/
namespace Go.Num

/-- Euclid, by rests that may be negative. -/
def euc (d l : Int) : Int := if _h : l = 0 then d else euc l (d.tmod l)
termination_by l.natAbs
decreasing_by
  rw [Int.natAbs_tmod]
  exact Nat.mod_lt _ (by omega)

theorem gcd_tmod (d l : Int) : Int.gcd l (d.tmod l) = Int.gcd d l := by
  rw [Int.gcd_eq_natAbs_gcd_natAbs, Int.natAbs_tmod, Int.gcd_comm d l, Int.gcd_eq_natAbs_gcd_natAbs, Nat.gcd_comm, ← Nat.gcd_rec]

theorem euc_gcd (d l : Int) : (euc d l).natAbs = Int.gcd d l := by
  induction d, l using euc.induct with
  | case1 d => rw [euc, dif_pos rfl]; simp
  | case2 d l h ih => rw [euc, dif_neg h, ih, gcd_tmod]

/-- The same, as long as the rest is greater than 0. -/
def gcdP (a b : Int) : Int := if _h : b > 0 then gcdP b (a.tmod b) else a
termination_by b.toNat
decreasing_by
  have h1 := Int.tmod_lt_of_pos a _h
  omega

theorem gcdP_gcd (a b : Int) (ha : 0 ≤ a) (hb : 0 ≤ b) : gcdP a b = Int.gcd a b := by
  induction a, b using gcdP.induct with
  | case1 a b h ih =>
    rw [gcdP, dif_pos h, ih hb (Int.tmod_nonneg _ ha), gcd_tmod]
  | case2 a b h =>
    have : b = 0 := by omega
    subst this
    rw [gcdP, dif_neg h]; simp; omega

/-- A fraction. -/
def frac (p q : Int) : Bool := if q = 0 then decide (p = 1) else decide (q > 0) && (decide (euc p q = 1) || decide (euc p q = -1))

theorem frac_iff (p q : Int) : frac p q = true ↔ (q = 0 ∧ p = 1) ∨ (q > 0 ∧ Int.gcd p q = 1) := by
  unfold frac
  have := euc_gcd p q
  split
  · simp; omega
  · simp; omega

/-- The reference's fraction. -/
def fracR (p q : Int) : Bool := if q < 0 then false else if q = 0 then decide (p = 1) else decide (gcdP q (if p.tmod q < 0 then p.tmod q + q else p.tmod q) = 1)

theorem fracR_eq (p q : Int) : fracR p q = frac p q := by
  rw [Bool.eq_iff_iff, frac_iff]
  unfold fracR
  split
  · simp; omega
  · split
    · simp; omega
    · rename_i h1 h2
      have hq : q > 0 := by omega
      have e1 := Int.tmod_lt_of_pos p hq
      have e2 : -q < p.tmod q := by
        have : (p.tmod q).natAbs < q.natAbs := by rw [Int.natAbs_tmod]; exact Nat.mod_lt _ (by omega)
        omega
      have e3 : Int.gcd q (if p.tmod q < 0 then p.tmod q + q else p.tmod q) = Int.gcd p q := by
        split
        · rw [Int.gcd_add_self_right, gcd_tmod]
        · rw [gcd_tmod]
      rw [gcdP_gcd _ _ (by omega) (by split <;> omega), e3]
      simp; omega

/-- A link. -/
def link (p q : Int) : Bool := decide (q < p) && decide (p ≤ 1000000) && frac p q
def linkR (p q : Int) : Bool := decide (p ≥ 1) && decide (p ≤ 1000000) && decide (q ≥ 0) && decide (q < p) && decide (gcdP p q = 1)

theorem link_iff (p q : Int) : link p q = true ↔ 1 ≤ p ∧ p ≤ 1000000 ∧ 0 ≤ q ∧ q < p ∧ Int.gcd p q = 1 := by
  unfold link
  simp only [Bool.and_eq_true, frac_iff, decide_eq_true_eq]
  constructor
  · rintro ⟨⟨h1, h2⟩, (⟨rfl, rfl⟩ | ⟨h3, h4⟩)⟩
    · decide
    · exact ⟨by omega, h2, by omega, h1, h4⟩
  · rintro ⟨h1, h2, h3, h4, h5⟩
    refine ⟨⟨h4, h2⟩, ?_⟩
    by_cases hq : q = 0
    · subst hq
      simp at h5
      omega
    · exact .inr ⟨by omega, h5⟩

theorem linkR_eq (p q : Int) : linkR p q = link p q := by
  rw [Bool.eq_iff_iff, link_iff]
  unfold linkR
  simp only [Bool.and_eq_true, decide_eq_true_eq]
  constructor
  · rintro ⟨⟨⟨⟨h1, h2⟩, h3⟩, h4⟩, h5⟩
    rw [gcdP_gcd _ _ (by omega) h3] at h5
    exact ⟨h1, h2, h3, h4, by omega⟩
  · rintro ⟨h1, h2, h3, h4, h5⟩
    rw [gcdP_gcd _ _ (by omega) h3, h5]
    exact ⟨⟨⟨⟨h1, h2⟩, h3⟩, h4⟩, rfl⟩

/-- The factor of the first of two numbers. -/
def fac (l n f g : Int) : Int := if _h : n > 0 then fac n (l - l.tdiv n * n) g (f - l.tdiv n * g) else f
termination_by n.toNat
decreasing_by
  have h1 := Int.tmod_lt_of_pos l _h
  have := Int.tmod_def l n
  have h2 : l.tdiv n * n = n * l.tdiv n := Int.mul_comm _ _
  omega

/-- What stays as it is on the way. -/
structure Inv (a m l n f g : Int) : Prop where
  l0 : 0 ≤ l
  n0 : 0 ≤ n
  sum : (0 ≤ f ∧ g ≤ 0 ∧ f * n - g * l = m) ∨ (f ≤ 0 ∧ 0 ≤ g ∧ g * l - f * n = m)
  lm : m ∣ a * f - l
  nm : m ∣ a * g - n
  gcd : Int.gcd l n = Int.gcd a m
  lt : 0 < l ∨ 0 < n

theorem Inv.start {a m : Int} (ha : 0 ≤ a) (hm : 0 < m) : Inv a m a m 1 0 :=
  ⟨ha, by omega, .inl ⟨by omega, by omega, by omega⟩, ⟨0, by omega⟩, ⟨-1, by omega⟩, rfl, .inr hm⟩

theorem Inv.step {a m l n f g : Int} (h : Inv a m l n f g) (hn : n > 0) : Inv a m n (l - l.tdiv n * n) g (f - l.tdiv n * g) := by
  obtain ⟨l0, n0, sum, lm, nm, gcd, lt⟩ := h
  have ht0 : 0 ≤ l.tdiv n := Int.tdiv_nonneg l0 n0
  have e : l - l.tdiv n * n = l.tmod n := by have := Int.tmod_def l n; rw [Int.mul_comm] at this; exact this.symm
  refine ⟨n0, ?_, ?_, nm, ?_, ?_, .inl hn⟩
  · rw [e]; exact Int.tmod_nonneg _ l0
  · generalize l.tdiv n = t at *
    rcases sum with ⟨h1, h2, h3⟩ | ⟨h1, h2, h3⟩
    · refine .inr ⟨h2, ?_, ?_⟩
      · have : t * g ≤ 0 := Int.mul_nonpos_of_nonneg_of_nonpos ht0 h2
        omega
      · grind
    · refine .inl ⟨h2, ?_, ?_⟩
      · have : 0 ≤ t * g := Int.mul_nonneg ht0 h2
        omega
      · grind
  · obtain ⟨u, hu⟩ := lm
    obtain ⟨v, hv⟩ := nm
    generalize l.tdiv n = t at *
    exact ⟨u - t * v, by grind⟩
  · rw [e, gcd_tmod, gcd]

theorem le_mul1 {x y : Int} (hx : 0 ≤ x) (hy : 1 ≤ y) : x ≤ x * y := by
  have := Int.mul_le_mul_of_nonneg_left hy hx
  omega

/-- Bounds on the way. -/
theorem Inv.bound {a m l n f g : Int} (h : Inv a m l n f g) (hn : n > 0) : -m ≤ f ∧ f ≤ m ∧ 0 ≤ l.tdiv n ∧ l.tdiv n ≤ l ∧ 0 ≤ l.tdiv n * n ∧ l.tdiv n * n ≤ l ∧ -m ≤ l.tdiv n * g ∧ l.tdiv n * g ≤ m := by
  obtain ⟨l0, n0, sum, lm, nm, gcd, lt⟩ := h
  have ht0 : 0 ≤ l.tdiv n := Int.tdiv_nonneg l0 n0
  have e : l.tdiv n * n + l.tmod n = l := Int.tdiv_mul_add_tmod l n
  have hr := Int.tmod_nonneg n l0
  have htl : l.tdiv n * n ≤ l := by omega
  have ht := le_mul1 ht0 (show (1:Int) ≤ n by omega)
  generalize l.tdiv n = t at *
  rcases sum with ⟨h1, h2, h3⟩ | ⟨h1, h2, h3⟩
  · have a1 := le_mul1 h1 (show (1:Int) ≤ n by omega)
    have a2 : 0 ≤ t * -g := Int.mul_nonneg ht0 (by omega)
    have a3 := le_mul1 a2 (show (1:Int) ≤ n by omega)
    have a4 : -g * (t * n) ≤ -g * l := Int.mul_le_mul_of_nonneg_left htl (by omega)
    have a5 : t * -g * n = -g * (t * n) := by grind
    have a6 : -g * l = -(g * l) := by grind
    have a7 : t * -g = -(t * g) := by grind
    have a8 : 0 ≤ -g * l := Int.mul_nonneg (by omega) l0
    have a9 : 0 ≤ f * n := Int.mul_nonneg h1 n0
    omega
  · have h1' : 0 ≤ -f := by omega
    have a1 := le_mul1 h1' (show (1:Int) ≤ n by omega)
    have a2 : 0 ≤ t * g := Int.mul_nonneg ht0 h2
    have a3 := le_mul1 a2 (show (1:Int) ≤ n by omega)
    have a4 : g * (t * n) ≤ g * l := Int.mul_le_mul_of_nonneg_left htl h2
    have a5 : t * g * n = g * (t * n) := by grind
    have a6 : -f * n = -(f * n) := by grind
    have a8 : 0 ≤ g * l := Int.mul_nonneg h2 l0
    have a9 : 0 ≤ -f * n := Int.mul_nonneg h1' n0
    omega

/-- The factor leaves the rest that it must. -/
theorem fac_inv {a m : Int} (l n f g : Int) (h : Inv a m l n f g) : ∃ g' l', Inv a m l' 0 (fac l n f g) g' := by
  induction l, n, f, g using fac.induct with
  | case1 l n f g hn ih =>
    rw [fac, dif_pos hn]
    exact ih (h.step hn)
  | case2 l n f g hn =>
    rw [fac, dif_neg hn]
    have : n = 0 := by have := h.n0; omega
    subst this
    exact ⟨g, l, h⟩

/-- The inverse of a by n. -/
def inv (a n : Int) : Int := (fac a n 1 0) % n

theorem inv_nonneg (a : Int) {n : Int} (h : 0 < n) : 0 ≤ inv a n := Int.emod_nonneg _ (by omega)
theorem inv_lt (a : Int) {n : Int} (h : 0 < n) : inv a n < n := Int.emod_lt_of_pos _ h

theorem inv_dvd {a n : Int} (ha : 0 ≤ a) (hn : 0 < n) (hg : Int.gcd a n = 1) : n ∣ a * inv a n - 1 := by
  obtain ⟨g', l', h⟩ := fac_inv a n 1 0 (Inv.start ha hn)
  have h1 := h.gcd
  rw [hg] at h1
  simp at h1
  have h2 : l' = 1 := by have := h.l0; omega
  subst h2
  obtain ⟨u, hu⟩ := h.lm
  have h3 := Int.emod_add_mul_ediv (fac a n 1 0) n
  exact ⟨u - a * ((fac a n 1 0) / n), by unfold inv; grind⟩

/-- There is one alone. -/
theorem inv_only {a n x : Int} (ha : 0 ≤ a) (hn : 0 < n) (hg : Int.gcd a n = 1) (h0 : 0 ≤ x) (h1 : x < n) (hx : n ∣ a * x - 1) : x = inv a n := by
  have hi := inv_dvd ha hn hg
  have hd : n ∣ a * (x - inv a n) := by
    obtain ⟨u, hu⟩ := hi
    obtain ⟨v, hv⟩ := hx
    exact ⟨v - u, by grind⟩
  have hd2 : n ∣ x - inv a n := by
    have : Int.gcd n a = 1 := by rw [Int.gcd_comm]; exact hg
    rw [← Int.gcd_eq_natAbs_left_iff_dvd, Int.gcd_mul_right_right_of_gcd_eq_one this] at hd
    exact Int.gcd_eq_natAbs_left_iff_dvd.1 hd
  have b1 := inv_nonneg a hn
  have b2 := inv_lt a hn
  obtain ⟨k, hk⟩ := hd2
  have hk0 : k = 0 := by
    by_cases c : k = 0
    · exact c
    · exfalso
      by_cases c1 : 0 < k
      · have := Int.mul_le_mul_of_nonneg_left (show (1:Int) ≤ k by omega) (show 0 ≤ n by omega)
        omega
      · have := Int.mul_le_mul_of_nonneg_left (show k ≤ -1 by omega) (show 0 ≤ n by omega)
        omega
  subst hk0
  omega

theorem inv_gcd {a n : Int} (ha : 0 ≤ a) (hn : 0 < n) (hg : Int.gcd a n = 1) : Int.gcd (inv a n) n = 1 := by
  obtain ⟨u, hu⟩ := inv_dvd ha hn hg
  rw [Int.gcd_eq_one_iff]
  intro c hc hn
  have h1 : c ∣ a * inv a n := Int.dvd_mul_of_dvd_right hc
  have h2 : c ∣ n * u := Int.dvd_mul_of_dvd_left hn
  have : (1:Int) = a * inv a n - n * u := by omega
  rw [this]
  exact Int.dvd_sub h1 h2

theorem inv_inv {a n : Int} (ha : 0 ≤ a) (han : a < n) (hg : Int.gcd a n = 1) : inv (inv a n) n = a := by
  have hn : 0 < n := by omega
  refine (inv_only (inv_nonneg a hn) hn (inv_gcd ha hn hg) ha han ?_).symm
  rw [Int.mul_comm]
  exact inv_dvd ha hn hg

/-- The second number of the first link. -/
def fst (p q : Int) : Int := min q (inv q p)

/-- Rests by products. -/
theorem rest_one {p x : Int} (hp : 1 < p) : x % p = 1 ↔ p ∣ x - 1 := by
  constructor
  · intro h
    exact ⟨x / p, by have := Int.emod_add_mul_ediv x p; omega⟩
  · rintro ⟨k, hk⟩
    have : x = 1 + p * k := by omega
    rw [this, Int.add_mul_emod_self_left]
    exact Int.emod_eq_of_lt (by omega) hp

/-- The reference's word on it: least x below q with the product, or q. -/
def fstR (p q : Int) (x : Int) : Int := if _h : x < q then (if (x * q).tmod p = (1:Int).tmod p then x else fstR p q (x + 1)) else q
termination_by (q - x).toNat
decreasing_by omega

theorem prod_iff {p q x : Int} (hp : 1 ≤ p) (hq : 0 ≤ q) (hx : 0 ≤ x) : (x * q).tmod p = (1:Int).tmod p ↔ p ∣ q * x - 1 := by
  have h0 : 0 ≤ x * q := Int.mul_nonneg hx hq
  rw [Int.tmod_eq_emod_of_nonneg h0, Int.tmod_eq_emod_of_nonneg (by omega : (0:Int) ≤ 1)]
  by_cases c : p = 1
  · subst c
    simp [Int.emod_one]
  · have : (1:Int) % p = 1 := Int.emod_eq_of_lt (by omega) (by omega)
    rw [this, rest_one (by omega), Int.mul_comm]

theorem fstR_eq {p q : Int} (hl : 0 ≤ q) (hp : q < p) (hg : Int.gcd q p = 1) : ∀ x, 0 ≤ x → x ≤ q → x ≤ inv q p → fstR p q x = fst p q := by
  have hp0 : 0 < p := by omega
  intro x
  induction x using fstR.induct p q with
  | case1 x h hc =>
    intro h0 h1 h2
    rw [fstR, dif_pos h, if_pos hc]
    rw [prod_iff (by omega) hl h0] at hc
    have := inv_only hl hp0 hg h0 (by omega) hc
    unfold fst
    omega
  | case2 x h hc ih =>
    intro h0 h1 h2
    rw [fstR, dif_pos h, if_neg hc]
    rw [prod_iff (by omega) hl h0] at hc
    refine ih (by omega) (by omega) ?_
    have : x ≠ inv q p := fun e => hc (e ▸ inv_dvd hl hp0 hg)
    omega
  | case3 x h =>
    intro h0 h1 h2
    rw [fstR, dif_neg h]
    unfold fst
    omega

theorem fst_nonneg {p q : Int} (h0 : 0 ≤ q) (h : q < p) : 0 ≤ fst p q := by
  have := inv_nonneg q (show 0 < p by omega)
  unfold fst
  omega

/-- The same links. -/
theorem fst_same {p q s : Int} (h0 : 0 ≤ q) (h1 : q < p) (hq : Int.gcd q p = 1) (h2 : 0 ≤ s) (h3 : s < p) (hs : Int.gcd s p = 1) : fst p q = fst p s ↔ p = 1 ∨ q = s ∨ (q * s).tmod p = 1 := by
  have hp : 0 < p := by omega
  have hqs : 0 ≤ q * s := Int.mul_nonneg h0 h2
  by_cases c : p = 1
  · subst c
    have : q = s := by omega
    subst this
    simp
  · have e : (q * s).tmod p = 1 ↔ s = inv q p := by
      rw [Int.tmod_eq_emod_of_nonneg hqs, rest_one (by omega)]
      constructor
      · intro h
        exact inv_only h0 hp hq h2 h3 h
      · rintro rfl
        exact inv_dvd h0 hp hq
    rw [e]
    have b1 := inv_inv h0 h1 hq
    have b2 := inv_inv h2 h3 hs
    have b3 := inv_nonneg q hp
    have b4 := inv_nonneg s hp
    constructor
    · intro h
      unfold fst at h
      by_cases c1 : q ≤ inv q p
      · by_cases c2 : s ≤ inv s p
        · exact .inr (.inl (by omega))
        · refine .inr (.inr ?_)
          have : q = inv s p := by omega
          rw [this, b2]
      · by_cases c2 : s ≤ inv s p
        · exact .inr (.inr (by omega))
        · refine .inr (.inl ?_)
          have : inv q p = inv s p := by omega
          rw [← b1, ← b2, this]
    · rintro (h | rfl | h)
      · exact absurd h c
      · rfl
      · unfold fst
        rw [h, b1]
        omega

theorem dvd_mul_cop {n a x : Int} (h : Int.gcd n a = 1) (hd : n ∣ a * x) : n ∣ x := by
  rw [← Int.gcd_eq_natAbs_left_iff_dvd, Int.gcd_mul_right_right_of_gcd_eq_one h] at hd
  exact Int.gcd_eq_natAbs_left_iff_dvd.1 hd

/-- What is closed is a link. -/
theorem close_gcd {p q r s u v : Int} (h : s * u - r * v = 1) (hg : Int.gcd p q = 1) : Int.gcd (p * s + q * r) (p * v + q * u) = 1 := by
  rw [Int.gcd_eq_one_iff] at hg ⊢
  intro c h1 h2
  refine hg c ?_ ?_
  · have e : p = u * (p * s + q * r) - r * (p * v + q * u) := by grind
    rw [e]
    exact Int.dvd_sub (Int.dvd_mul_of_dvd_right h1) (Int.dvd_mul_of_dvd_right h2)
  · have e : q = s * (p * v + q * u) - v * (p * s + q * r) := by grind
    rw [e]
    exact Int.dvd_sub (Int.dvd_mul_of_dvd_right h2) (Int.dvd_mul_of_dvd_right h1)

/-- It does not depend on the two numbers. -/
theorem close_any {p q r s u v u' v' : Int} (h : s * u - r * v = 1) (h' : s * u' - r * v' = 1) (hs : s ≠ 0) : (p * s + q * r) ∣ (p * v + q * u) - (p * v' + q * u') := by
  have hg : Int.gcd s r = 1 := by
    rw [Int.gcd_eq_one_iff]
    intro c h1 h2
    rw [← h]
    exact Int.dvd_sub (Int.dvd_mul_of_dvd_left h1) (Int.dvd_mul_of_dvd_left h2)
  have hd : s ∣ r * (v - v') := ⟨u - u', by grind⟩
  obtain ⟨k, hk⟩ := dvd_mul_cop hg hd
  have hu : u - u' = r * k := by
    have : s * (u - u') = s * (r * k) := by grind
    exact Int.eq_of_mul_eq_mul_left hs this
  exact ⟨k, by grind⟩

theorem rest_same {n a b : Int} (h : n ∣ a - b) : a % n = b % n := by
  obtain ⟨k, hk⟩ := h
  have : a = b + n * k := by omega
  rw [this, Int.add_mul_emod_self_left]

end Go.Num
