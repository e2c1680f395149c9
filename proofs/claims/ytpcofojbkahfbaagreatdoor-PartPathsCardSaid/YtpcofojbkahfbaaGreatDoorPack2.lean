/- What the claim is proved with, part 2: the evaluator and the contracts of the calls. -/
import Derived.Test.YtpcofojbkahfbaaGreatDoorPack1
import Derived.Test.YtpcofojbkahfbaaGreatDoorEvRd
/- Words as sets. -/
namespace Go.Num
open Go.Proofs

def anN (a b : Nat) : Nat := (a &&& b) ^^^ a
theorem an_zero {a b : Nat} : anN a b = 0 ↔ a &&& b = a := by
  unfold anN
  constructor
  · intro h
    apply Nat.eq_of_testBit_eq
    intro i
    have := congrArg (fun x => Nat.testBit x i) h
    simp only [Nat.testBit_and, Nat.testBit_xor, Nat.zero_testBit] at this ⊢
    revert this
    cases a.testBit i <;> cases b.testBit i <;> simp
  · intro h; rw [h]; exact Nat.xor_self a
theorem sub_or {a b y : Nat} : (a ||| b) &&& y = a ||| b ↔ a &&& y = a ∧ b &&& y = b := by
  constructor
  · intro h
    constructor <;>
    · apply Nat.eq_of_testBit_eq
      intro i
      have := congrArg (fun x => Nat.testBit x i) h
      simp only [Nat.testBit_and, Nat.testBit_or] at this ⊢
      revert this
      cases a.testBit i <;> cases b.testBit i <;> cases y.testBit i <;> simp
  · rintro ⟨h1, h2⟩
    apply Nat.eq_of_testBit_eq; intro i
    have h3 := congrArg (fun x => Nat.testBit x i) h1
    have h4 := congrArg (fun x => Nat.testBit x i) h2
    simp only [Nat.testBit_and, Nat.testBit_or] at h3 h4 ⊢
    revert h3 h4
    cases a.testBit i <;> cases b.testBit i <;> cases y.testBit i <;> simp
theorem an_or {a b y : Nat} : anN (a ||| b) y = 0 ↔ anN a y = 0 ∧ anN b y = 0 := by rw [an_zero, an_zero, an_zero, sub_or]
theorem an_all {a m : Nat} : anN a (2 ^ m - 1) = 0 ↔ a < 2 ^ m := by
  rw [an_zero, Nat.and_two_pow_sub_one_eq_mod]
  constructor
  · intro h
    have := Nat.mod_lt a (Nat.two_pow_pos m)
    omega
  · exact Nat.mod_eq_of_lt
theorem an_lt {a b k : Nat} (h : a < 2 ^ k) : anN a b < 2 ^ k := Nat.xor_lt_two_pow (Nat.lt_of_le_of_lt Nat.and_le_left h) h
theorem all_lt (m : Nat) : 2 ^ m - 1 < 2 ^ m := by have := Nat.two_pow_pos m; omega
theorem an_in {a x m : Nat} (h : anN a (anN (2 ^ m - 1) x) = 0) : a < 2 ^ m := by
  rw [an_zero] at h
  have h1 : a ≤ anN (2 ^ m - 1) x := by rw [← h]; exact Nat.and_le_right
  have := an_lt (b := x) (all_lt m)
  omega

theorem btN_high {s m k : Nat} (h : s < 2 ^ m) (hk : m ≤ k) : btN s k = false := by
  have : s < 2 ^ k := Nat.lt_of_lt_of_le h (Nat.pow_le_pow_right (by decide) hk)
  unfold btN
  rw [Nat.div_eq_of_lt this]
  rfl
theorem orN_get {ws : List Nat} {u v i : Nat} (hu : u < ws.length) : (orN ws u v).getD i 0 = if u = i then ws.getD u 0 ||| 2 ^ v else ws.getD i 0 := by
  unfold orN
  simp only [List.getD_eq_getElem?_getD, List.getElem?_set]
  by_cases c : u = i
  · subst c; rw [if_pos rfl, if_pos hu, if_pos rfl]; rfl
  · rw [if_neg c, if_neg c]
theorem nb_ext {M m : Nat} (hmM : m ≤ M) (z : Nat → Int) : ∀ k, (∀ i, i < k → 0 ≤ ea z i ∧ ea z i < eb z i ∧ eb z i < m) → ∀ i, i < m → (nbN M z k).getD i 0 = (nbN m z k).getD i 0
  | 0, _, i, hi => by
    rw [nbN, nbN, List.getD_eq_getElem?_getD, List.getD_eq_getElem?_getD, List.getElem?_replicate_of_lt (by omega), List.getElem?_replicate_of_lt hi]
  | k + 1, h, i, hi => by
    have ih := nb_ext hmM z k fun i hi => h i (by omega)
    obtain ⟨h1, h2, h3⟩ := h k (by omega)
    have hx : (ea z k).toNat < m := by omega
    have hy : (eb z k).toNat < m := by omega
    have l1 := nbN_len M z k
    have l2 := nbN_len m z k
    have st : ∀ (ws vs : List Nat) (x y : Nat), x < m → m ≤ ws.length → m ≤ vs.length → (∀ i, i < m → ws.getD i 0 = vs.getD i 0) → ∀ i, i < m → (orN ws x y).getD i 0 = (orN vs x y).getD i 0 := fun ws vs x y hx h1 h2 hh i hi => by
      rw [orN_get (ws := ws) (by omega), orN_get (ws := vs) (by omega), hh x hx, hh i hi]
    rw [nbN, nbN, jnN, jnN]
    exact st _ _ _ _ hy (by rw [orN_len]; omega) (by rw [orN_len]; omega) (st _ _ _ _ hx (by omega) (by omega) ih) i hi
theorem bt_bit (s k : Nat) : btN s k = s.testBit k := by
  unfold btN
  rw [Nat.testBit_eq_decide_div_mod_eq, Bool.eq_iff_iff]
  simp
theorem an_bit (a b i : Nat) : (anN a b).testBit i = (a.testBit i && !b.testBit i) := by
  unfold anN
  rw [Nat.testBit_xor, Nat.testBit_and]
  cases a.testBit i <;> cases b.testBit i <;> rfl
theorem and_ne {a b : Nat} : a &&& b ≠ 0 ↔ ∃ v, a.testBit v = true ∧ b.testBit v = true := by
  constructor
  · intro h
    obtain ⟨v, hv⟩ := Nat.exists_testBit_of_ne_zero h
    rw [Nat.testBit_and, Bool.and_eq_true] at hv
    exact ⟨v, hv⟩
  · rintro ⟨v, h1, h2⟩ h
    have := congrArg (fun x => Nat.testBit x v) h
    simp only [Nat.testBit_and, h1, h2, Nat.zero_testBit] at this
    exact nomatch this
theorem and_zero {a b : Nat} : a &&& b = 0 ↔ ∀ v, a.testBit v = true → b.testBit v = false := by
  constructor
  · intro h v h1
    cases h2 : b.testBit v with
    | false => rfl
    | true => exact absurd h (and_ne.2 ⟨v, h1, h2⟩)
  · intro h
    by_cases c : a &&& b = 0
    · exact c
    · obtain ⟨v, h1, h2⟩ := and_ne.1 c
      rw [h v h1] at h2
      exact nomatch h2
theorem in_bit {a b : Nat} : a &&& b = a ↔ ∀ v, a.testBit v = true → b.testBit v = true := by
  constructor
  · intro h v h1
    rw [← h, Nat.testBit_and, Bool.and_eq_true] at h1
    exact h1.2
  · intro h
    apply Nat.eq_of_testBit_eq
    intro i
    rw [Nat.testBit_and]
    cases ha : a.testBit i with
    | false => rfl
    | true => rw [h i ha]; rfl

/-- The words of a graph of m vertices. -/
structure Nbs (w : Nat → Nat) (m : Nat) : Prop where
  low : ∀ i v, (w i).testBit v = true → i < m ∧ v < m
  sym : ∀ i v, (w i).testBit v = true → (w v).testBit i = true

theorem jn_bit {ws : List Nat} {a b : Nat} (ha : a < ws.length) (hb : b < ws.length) (i v : Nat) : ((jnN ws a b).getD i 0).testBit v = ((ws.getD i 0).testBit v || (decide (i = a ∧ v = b) || decide (i = b ∧ v = a))) := by
  have p2 : ∀ a v : Nat, (2 ^ a).testBit v = decide (v = a) := fun a v => Nat.testBit_two_pow.trans (decide_eq_decide.2 eq_comm)
  have g : ∀ i, (orN ws a b).getD i 0 = if a = i then ws.getD a 0 ||| 2 ^ b else ws.getD i 0 := fun i => orN_get ha
  unfold jnN
  rw [orN_get (by rw [orN_len]; exact hb)]
  simp only [g]
  by_cases c1 : b = i
  · subst c1
    rw [if_pos rfl]
    by_cases c2 : a = b
    · subst c2
      rw [if_pos rfl, Nat.testBit_or, Nat.testBit_or, p2, Bool.eq_iff_iff]
      simp
    · rw [if_neg c2, Nat.testBit_or, p2, Bool.eq_iff_iff]
      have : ¬ b = a := fun e => c2 e.symm
      simp [this]
  · rw [if_neg c1]
    have c1' : ¬ i = b := fun e => c1 e.symm
    by_cases c2 : a = i
    · subst c2
      rw [if_pos rfl, Nat.testBit_or, p2, Bool.eq_iff_iff]
      simp [c1']
    · have c2' : ¬ i = a := fun e => c2 e.symm
      rw [if_neg c2, Bool.eq_iff_iff]
      simp [c1', c2']

theorem nb_nbs {M m : Nat} (hmM : m ≤ M) (z : Nat → Int) : ∀ k, (∀ i, i < k → 0 ≤ ea z i ∧ ea z i < eb z i ∧ eb z i < m) → Nbs (fun i => (nbN M z k).getD i 0) m
  | 0, _ => by
    have h0 : ∀ i, (nbN M z 0).getD i 0 = 0 := fun i => by
      rw [nbN, List.getD_eq_getElem?_getD, List.getElem?_replicate]
      split <;> rfl
    refine ⟨fun i v h => ?_, fun i v h => ?_⟩ <;> rw [h0, Nat.zero_testBit] at h <;> exact nomatch h
  | k + 1, h => by
    obtain ⟨b1, b2, b3⟩ := h k (by omega)
    have ih := nb_nbs hmM z k fun i hi => h i (by omega)
    have hl : (nbN M z k).length = M := nbN_len M z k
    have hb := jn_bit (ws := nbN M z k) (a := (ea z k).toNat) (b := (eb z k).toNat) (by omega) (by omega)
    refine ⟨fun i v hv => ?_, fun i v hv => ?_⟩
    · rw [nbN, hb, Bool.or_eq_true, Bool.or_eq_true, decide_eq_true_eq, decide_eq_true_eq] at hv
      rcases hv with hv | hv | hv
      · exact ih.low i v hv
      · omega
      · omega
    · rw [nbN, hb, Bool.or_eq_true, Bool.or_eq_true, decide_eq_true_eq, decide_eq_true_eq] at hv ⊢
      rcases hv with hv | hv | hv
      · exact .inl (ih.sym i v hv)
      · exact .inr (.inr ⟨hv.2, hv.1⟩)
      · exact .inr (.inl ⟨hv.2, hv.1⟩)

theorem high {x m i : Nat} (h : x < 2 ^ m) (hi : m ≤ i) : x.testBit i = false := Nat.testBit_lt_two_pow (Nat.lt_of_lt_of_le h (Nat.pow_le_pow_right (by decide) hi))

theorem an_an {A x : Nat} (h : x &&& A = x) : anN A (anN A x) = x := by
  apply Nat.eq_of_testBit_eq
  intro i
  rw [an_bit, an_bit]
  have := in_bit.1 h i
  revert this
  cases x.testBit i <;> cases A.testBit i <;> simp
theorem an_sub (A x : Nat) : anN A x &&& A = anN A x := by
  rw [in_bit]
  intro v h
  rw [an_bit, Bool.and_eq_true] at h
  exact h.1
theorem sub_le {a b : Nat} (h : a &&& b = a) : a ≤ b := by rw [← h]; exact Nat.and_le_right
theorem lt_sub {x m : Nat} (h : x < 2 ^ m) : x &&& (2 ^ m - 1) = x := by rw [Nat.and_two_pow_sub_one_eq_mod, Nat.mod_eq_of_lt h]

theorem and_half (a b : Nat) : (a &&& b) / 2 = (a / 2) &&& (b / 2) := Nat.and_div_two
theorem and_odd (a b : Nat) : (a &&& b) % 2 = 1 ↔ a % 2 = 1 ∧ b % 2 = 1 := Nat.and_mod_two_eq_one

theorem in_half {t s : Nat} (h : t &&& s = t) : (t / 2) &&& (s / 2) = t / 2 := by rw [← and_half, h]
theorem in_odd {t s : Nat} (h : t &&& s = t) (ht : t % 2 = 1) : s % 2 = 1 := by
  rw [← h, and_odd] at ht
  exact ht.2


/-- The least bit, and what is left without it. -/
def tzN : Nat → Nat → Nat
  | 0, _ => 0
  | f + 1, s => if s % 2 = 1 then 0 else tzN f (s / 2) + 1

theorem neg_and : ∀ b x, x < 2 ^ b → (2 ^ b - 1 - x) &&& x = 0
  | 0, x, h => by
    obtain rfl : x = 0 := by simpa using h
    exact Nat.and_zero _
  | b + 1, x, h => by
    have hp : 2 ^ (b + 1) = 2 * 2 ^ b := by rw [Nat.pow_succ]; omega
    have ih := neg_and b (x / 2) (by omega)
    generalize hX : 2 ^ (b + 1) - 1 - x = X
    have h1 := and_half X x
    have h2 := and_odd X x
    rw [show X / 2 = 2 ^ b - 1 - x / 2 by omega, ih] at h1
    generalize X &&& x = n at h1 h2
    have : ¬ n % 2 = 1 := fun c => by have := h2.1 c; omega
    omega
theorem low_pow : ∀ b x, x < 2 ^ b → x ≠ 0 → x &&& (2 ^ b - x) = 2 ^ tzN b x
  | 0, x, h, h0 => by exfalso; simp at h; omega
  | b + 1, x, h, h0 => by
    have hp : 2 ^ (b + 1) = 2 * 2 ^ b := by rw [Nat.pow_succ]; omega
    generalize hX : 2 ^ (b + 1) - x = X
    have h1 := and_half x X
    have h2 := and_odd x X
    rw [tzN]
    by_cases c : x % 2 = 1
    · rw [if_pos c]
      have := neg_and b (x / 2) (by omega)
      rw [show X / 2 = 2 ^ b - 1 - x / 2 by omega, Nat.and_comm (x / 2), this] at h1
      have := h2.2 ⟨c, by omega⟩
      omega
    · rw [if_neg c, Nat.pow_succ]
      have := low_pow b (x / 2) (by omega) (by omega)
      rw [show X / 2 = 2 ^ b - x / 2 by omega, this] at h1
      have : ¬ (x &&& X) % 2 = 1 := fun c => by have := h2.1 c; omega
      omega
theorem tz_bit : ∀ b x, x < 2 ^ b → x ≠ 0 → tzN b x < b ∧ x.testBit (tzN b x) = true ∧ ∀ i, i < tzN b x → x.testBit i = false
  | 0, x, h, h0 => by exfalso; simp at h; omega
  | b + 1, x, h, h0 => by
    have hp : 2 ^ (b + 1) = 2 * 2 ^ b := by rw [Nat.pow_succ]; omega
    rw [tzN]
    by_cases c : x % 2 = 1
    · rw [if_pos c]
      exact ⟨by omega, by rw [Nat.testBit_zero]; simpa using c, fun i hi => absurd hi (by omega)⟩
    · rw [if_neg c]
      obtain ⟨h1, h2, h3⟩ := tz_bit b (x / 2) (by omega) (by omega)
      refine ⟨by omega, by rw [Nat.testBit_succ]; exact h2, fun i hi => ?_⟩
      cases i with
      | zero => rw [Nat.testBit_zero]; simpa using c
      | succ i => rw [Nat.testBit_succ]; exact h3 i (by omega)
theorem clr_bit : ∀ b x, x < 2 ^ b → x ≠ 0 → ∀ i, (x &&& (x - 1)).testBit i = (x.testBit i && !decide (i = tzN b x))
  | 0, x, h, h0, i => by exfalso; simp at h; omega
  | b + 1, x, h, h0, i => by
    have hp : 2 ^ (b + 1) = 2 * 2 ^ b := by rw [Nat.pow_succ]; omega
    rw [tzN, Nat.testBit_and]
    by_cases c : x % 2 = 1
    · rw [if_pos c]
      cases i with
      | zero =>
        rw [Nat.testBit_zero (x - 1), show ((x - 1) % 2) = 0 by omega]
        simp
      | succ i =>
        rw [Nat.testBit_succ, Nat.testBit_succ, show (x - 1) / 2 = x / 2 by omega]
        simp
    · rw [if_neg c]
      have ih := clr_bit b (x / 2) (by omega) (by omega)
      cases i with
      | zero =>
        rw [Nat.testBit_zero x, show x % 2 = 0 by omega]
        simp
      | succ i =>
        rw [Nat.testBit_succ, Nat.testBit_succ, show (x - 1) / 2 = x / 2 - 1 by omega]
        have := ih i
        rw [Nat.testBit_and] at this
        rw [this]
        congr 2
        simp

/-- s without what is below v. -/
def hiN (s v : Nat) : Nat := s / 2 ^ v * 2 ^ v
theorem hi_bit (s v i : Nat) : (hiN s v).testBit i = (decide (v ≤ i) && s.testBit i) := by
  unfold hiN
  rw [Nat.mul_comm, Nat.testBit_two_pow_mul]
  by_cases c : v ≤ i
  · rw [decide_eq_true c, Nat.testBit_div_two_pow, Nat.sub_add_cancel c]
  · simp [c]
theorem hi_le (s v : Nat) : hiN s v ≤ s := Nat.div_mul_le_self s (2 ^ v)
theorem hi_zero (s : Nat) : hiN s 0 = s := by unfold hiN; simp
theorem hi_next {b s v : Nat} (h : s < 2 ^ b) (h0 : hiN s v ≠ 0) : v ≤ tzN b (hiN s v) ∧ tzN b (hiN s v) < b ∧ s.testBit (tzN b (hiN s v)) = true ∧ (∀ i, v ≤ i → i < tzN b (hiN s v) → s.testBit i = false) ∧ hiN s v &&& (hiN s v - 1) = hiN s (tzN b (hiN s v) + 1) := by
  have hh : hiN s v < 2 ^ b := Nat.lt_of_le_of_lt (hi_le s v) h
  obtain ⟨h1, h2, h3⟩ := tz_bit b _ hh h0
  have h4 := clr_bit b _ hh h0
  generalize tzN b (hiN s v) = t at h1 h2 h3 h4
  rw [hi_bit, Bool.and_eq_true, decide_eq_true_eq] at h2
  refine ⟨h2.1, h1, h2.2, fun i hv hi => ?_, ?_⟩
  · have := h3 i hi
    rw [hi_bit, decide_eq_true hv] at this
    simpa using this
  · apply Nat.eq_of_testBit_eq
    intro i
    rw [h4, hi_bit, hi_bit]
    by_cases c : t + 1 ≤ i
    · rw [decide_eq_true c, decide_eq_true (show v ≤ i by omega), decide_eq_false (show ¬ i = t by omega)]
      simp
    · rw [decide_eq_false c, Bool.false_and]
      by_cases e : i = t
      · simp [e]
      · have := h3 i (by omega)
        rw [hi_bit] at this
        rw [this]; rfl
theorem hi_none {s v : Nat} (h : hiN s v = 0) {i : Nat} (hi : v ≤ i) : s.testBit i = false := by
  have := hi_bit s v i
  rw [h, Nat.zero_testBit, decide_eq_true hi] at this
  simpa using this.symm

end Go.Num
namespace Go.Proofs
open Go Go.Ev Go.Num
set_option linter.unusedVariables false
set_option linter.unusedSimpArgs false
set_option maxRecDepth 100000

theorem wrapU' {a : Nat} (h : a < 18446744073709551616) : IntKind.wrap .u64 (a : Int) = (a : Int) := by rw [wrU]; omega
theorem bvU (a : Nat) (h : a < 18446744073709551616) : (BitVec.ofInt 64 (a : Int)).toNat = a := by
  rw [BitVec.ofInt_natCast, BitVec.toNat_ofNat]
  exact Nat.mod_eq_of_lt h
theorem ibO {k : IntKind} (hk : k = .u64 ∨ k = .i64) {a b : Nat} (ha : a < 18446744073709551616) (hb : b < 18446744073709551616) : ibits .or k (a : Int) (b : Int) = k.wrap ((a ||| b : Nat) : Int) ∧ ibits .and k (a : Int) (b : Int) = k.wrap ((a &&& b : Nat) : Int) ∧ ibits .andNot k (a : Int) (b : Int) = k.wrap ((anN a b : Nat) : Int) := by
  have hx : ∀ x y : BitVec 64, x &&& ~~~y = (x &&& y) ^^^ x := fun x y => by
    ext i hi
    simp
    cases x[i] <;> cases y[i] <;> rfl
  have e1 : (BitVec.ofInt 64 (a : Int) ||| BitVec.ofInt 64 (b : Int)).toNat = a ||| b := by rw [BitVec.toNat_or, bvU a ha, bvU b hb]
  have e2 : (BitVec.ofInt 64 (a : Int) &&& BitVec.ofInt 64 (b : Int)).toNat = a &&& b := by rw [BitVec.toNat_and, bvU a ha, bvU b hb]
  have e3 : (BitVec.ofInt 64 (a : Int) &&& ~~~(BitVec.ofInt 64 (b : Int))).toNat = anN a b := by rw [hx, BitVec.toNat_xor, BitVec.toNat_and, bvU a ha, bvU b hb]; rfl
  rcases hk with rfl | rfl
  · refine ⟨?_, ?_, ?_⟩
    · show IntKind.wrap .u64 ((BitVec.ofInt 64 (a : Int) ||| BitVec.ofInt 64 (b : Int)).toNat : Int) = _
      rw [e1]
    · show IntKind.wrap .u64 ((BitVec.ofInt 64 (a : Int) &&& BitVec.ofInt 64 (b : Int)).toNat : Int) = _
      rw [e2]
    · show IntKind.wrap .u64 ((BitVec.ofInt 64 (a : Int) &&& ~~~(BitVec.ofInt 64 (b : Int))).toNat : Int) = _
      rw [e3]
  · refine ⟨?_, ?_, ?_⟩
    · show IntKind.wrap .i64 ((BitVec.ofInt 64 (a : Int) ||| BitVec.ofInt 64 (b : Int)).toNat : Int) = _
      rw [e1]
    · show IntKind.wrap .i64 ((BitVec.ofInt 64 (a : Int) &&& BitVec.ofInt 64 (b : Int)).toNat : Int) = _
      rw [e2]
    · show IntKind.wrap .i64 ((BitVec.ofInt 64 (a : Int) &&& ~~~(BitVec.ofInt 64 (b : Int))).toNat : Int) = _
      rw [e3]
theorem uO {a b : Nat} (ha : a < 18446744073709551616) (hb : b < 18446744073709551616) : ibits .or .u64 (a : Int) (b : Int) = ((a ||| b : Nat) : Int) ∧ ibits .and .u64 (a : Int) (b : Int) = ((a &&& b : Nat) : Int) ∧ ibits .andNot .u64 (a : Int) (b : Int) = ((anN a b : Nat) : Int) := by
  have h64 : (18446744073709551616 : Nat) = 2 ^ 64 := by decide
  obtain ⟨h1, h2, h3⟩ := ibO (.inl rfl) ha hb
  refine ⟨h1.trans (wrapU' ?_), h2.trans (wrapU' ?_), h3.trans (wrapU' ?_)⟩
  · rw [h64] at *; exact Nat.or_lt_two_pow ha hb
  · rw [h64] at *; exact Nat.and_lt_two_pow _ hb
  · rw [h64] at *; exact an_lt ha
theorem iO {a b : Nat} (ha : a < 65536) (hb : b < 65536) : ibits .or .i64 (a : Int) (b : Int) = ((a ||| b : Nat) : Int) ∧ ibits .and .i64 (a : Int) (b : Int) = ((a &&& b : Nat) : Int) ∧ ibits .andNot .i64 (a : Int) (b : Int) = ((anN a b : Nat) : Int) := by
  obtain ⟨h1, h2, h3⟩ := ibO (.inr rfl) (show a < 18446744073709551616 by omega) (show b < 18446744073709551616 by omega)
  have g1 : a ||| b < 65536 := or16 ha hb
  have g2 : a &&& b < 65536 := Nat.and_lt_two_pow (n := 16) _ hb
  have g3 : anN a b < 65536 := an_lt (k := 16) ha
  exact ⟨h1.trans (wrI (by omega)), h2.trans (wrI (by omega)), h3.trans (wrI (by omega))⟩

def eU1 (g : Int → Bool) (v : Int → Value) : Ent := ent (fun args _ => match args with | [.int .u64 a] => g a | _ => false) (fun args _ => match args with | [.int .u64 a] => v a | _ => undef)
theorem eU1_ok {C : Cfg} {f : Nat} {g : Int → Bool} {v : Int → Value} (h : ∀ a, g a = true → GrT C.P C.ro f [.int .u64 a] (v a)) : EOk C f (eU1 g v) := EOk.ent fun args A hg => by
  split at hg
  · exact (h _ hg).ro rfl A
  · cases hg

abbrev P0 (i : Nat) : Value := .pointer (some ⟨i, 0, none⟩)
def rgA : Code → Code
  | .rangeFunc _ _ a _ => a
  | c => c
def rgB : Code → Code
  | .rangeFunc _ _ _ b => b
  | c => c
def scB : Code → Code
  | .scope c => c
  | c => c
abbrev fY (l : Nat) : Value := .func (.yield l) ⟨[]⟩ ⟨[]⟩
def m_twG (s : Int) : Bool := decide (1 ≤ s ∧ s < 65536)
def m_tw (s : Int) : Int := (tzN 64 s.toNat : Nat)
def eTz : Ent := eU1 m_twG fun x => I (m_tw x)
def tEs : Tbl := tcons 70 eTz fun _ => none

theorem tzA (r : Mem) (s : Int) : (lvlT (SC r) (fun _ => none) .nil 2 4).call 70 [U s] emptyA fin =
    bif s == Int.ofNat 0 then CR.ret (Value.int IntKind.i64 (Int.ofNat 64)) (AW.mk 0 Tr.nil Tr.nil) else bif decide (0 ≤ Int.fdiv (m_mulU (ibits BinOp.and IntKind.u64 s (IntKind.wrap IntKind.u64 (Int.ofNat 0 - s))) (Int.ofNat 285870213051353865)) (Int.ofNat 288230376151711744)) then bif Nat.blt (Int.toNat (Int.fdiv (m_mulU (ibits BinOp.and IntKind.u64 s (IntKind.wrap IntKind.u64 (Int.ofNat 0 - s))) (Int.ofNat 285870213051353865)) (Int.ofNat 288230376151711744))) 64 then Option.casesOn (r 1 (Nat.add 0 (Nat.mul (Int.toNat (Int.fdiv (m_mulU (ibits BinOp.and IntKind.u64 s (IntKind.wrap IntKind.u64 (Int.ofNat 0 - s))) (Int.ofNat 285870213051353865)) (Int.ofNat 288230376151711744))) 1))) (CR.fail 423) fun val => bif isI IntKind.u8 val then CR.ret (Value.int IntKind.i64 (IntKind.wrap IntKind.i64 (ofI val))) (AW.mk 0 Tr.nil Tr.nil) else CR.fail 420 else CR.fail 420 else CR.fail 420 := by kernel_rfl

end Go.Proofs

/- A walk over all pairs of vertices, whatever is done in its rounds. -/
namespace Go.Proofs
open Go Go.Ev Go.Num
set_option linter.unusedVariables false
set_option linter.unusedSimpArgs false
set_option maxRecDepth 100000

noncomputable def cPr : Code := bodyOf S0 39
noncomputable def Pr_0 : Code := (lc cPr)
noncomputable def Pr_1 : Code := (lc (ic (ic (rc cPr))))
noncomputable def Pr_2 : Code := (lc (rc (ic (ic (rc cPr)))))
noncomputable def Pr_3 : Code := (lc (ic (lc (rc (rc (ic (ic (rc cPr))))))))
noncomputable def Pr_4 : Code := (lc (rc (ic (lc (rc (rc (ic (ic (rc cPr)))))))))
noncomputable def Pr_b : Code := (ic (ic (rc (rc (ic (lc (rc (rc (ic (ic (rc cPr)))))))))))
noncomputable def Pr_5 : Code := (lc Pr_b)
noncomputable def Pr_y : Code := (lc (ic (lc (rc Pr_b))))
noncomputable def Pr_z : Code := (rc (ic (lc (rc Pr_b))))
noncomputable def Pr_7 : Code := (rc (rc Pr_b))
noncomputable def Pr_6 : Code := (rc (rc (rc (ic (ic (rc cPr))))))
theorem Pr_eq : cPr = (.seq Pr_0 (.block 0 (.loop (.seq Pr_1 (.seq Pr_2 (.seq (.block 1 (.seq Pr_3 (.seq Pr_4 (.block 2 (.loop (.seq Pr_5 (.seq (.block 3 (.seq Pr_y Pr_z)) Pr_7))))))) Pr_6)))))) := by kernel_rfl
def lvPo : List Nat := [0, 1, 6, 7]
def lvPi : List Nat := [0, 1, 3, 4, 6, 7]
def tPo (l p : Nat) (n i : Int) : Tr Value := bT lvPo [some (fY l), some (P0 p), some (I n), some (I i)] .nil
def tPm (l p : Nat) (n i : Int) : Tr Value := bT [0, 1, 3, 6, 7] [some (fY l), some (P0 p), some (I i), some (I n), some (I i)] .nil
def tPi (l p : Nat) (i j n : Int) : Tr Value := bT lvPi [some (fY l), some (P0 p), some (I i), some (I j), some (I n), some (I i)] .nil

theorem prA (r : Mem) (l p : Nat) (A : AW) (fs : FnsC) (K : KS) (kx : Nat → KS) (kr : KS) : run (SC r) 219 24 1 Pr_0 fs none K kx kr (sc0 219 [fY l, .pointer (some ⟨p, 0, none⟩)]) (tr0 219 [fY l, .pointer (some ⟨p, 0, none⟩)]) [] A =
    Option.casesOn
      (match Tr.get (AW.heap A) p with
      | some (AObj.cells c elem fam sz) => c[Nat.add 0 (Field.offset (Field.mk "n" 3 0 false "" "forcola/part" 0))]?
      | x => none)
      (CR.fail 423) fun val => bif isI IntKind.i64 val then K [(5, Value.pointer (some (Addr.mk p 0 none)))] (Tr.node (Tr.node (Tr.node (Tr.node Tr.nil (some (Value.int IntKind.i64 (Int.ofNat 0))) Tr.nil) none Tr.nil) (some (Value.pointer (some (Addr.mk p 0 none)))) Tr.nil) (some (Value.func (Fn.yield l) (Array.mk []) (Array.mk []))) (Tr.node Tr.nil none (Tr.node Tr.nil (some (Value.int IntKind.i64 (ofI val))) Tr.nil))) [] A else CR.fail 420 := by kernel_rfl

theorem prB (r : Mem) (l p : Nat) (n i : Int) (A : AW) (fs : FnsC) (K : KS) (kx : Nat → KS) (kr : KS) : run (SC r) 219 24 1 Pr_1 fs none K kx kr [] (tPo l p n i) [] A =
    bif decide (i < n) then K [(8, Value.bool true)] (Tr.node (Tr.node (Tr.node (Tr.node Tr.nil (some (Value.int IntKind.i64 i)) Tr.nil) none Tr.nil) (some (Value.pointer (some (Addr.mk p 0 none)))) Tr.nil) (some (Value.func (Fn.yield l) (Array.mk []) (Array.mk []))) (Tr.node Tr.nil none (Tr.node Tr.nil (some (Value.int IntKind.i64 n)) Tr.nil))) [] A else K [(8, Value.bool false)] (Tr.node (Tr.node (Tr.node (Tr.node Tr.nil (some (Value.int IntKind.i64 i)) Tr.nil) none Tr.nil) (some (Value.pointer (some (Addr.mk p 0 none)))) Tr.nil) (some (Value.func (Fn.yield l) (Array.mk []) (Array.mk []))) (Tr.node Tr.nil none (Tr.node Tr.nil (some (Value.int IntKind.i64 n)) Tr.nil))) [] A := by kernel_rfl

theorem prC (r : Mem) (l p : Nat) (n i : Int) (b : Bool) (A : AW) (fs : FnsC) (K : KS) (kx : Nat → KS) (kr : KS) : run (SC r) 219 24 1 Pr_2 fs none K kx kr [(8, .bool b)] (tPo l p n i) [] A =
    bif b then K [(8, Value.bool b)] (Tr.node (Tr.node (Tr.node (Tr.node Tr.nil (some (Value.int IntKind.i64 i)) Tr.nil) none Tr.nil) (some (Value.pointer (some (Addr.mk p 0 none)))) Tr.nil) (some (Value.func (Fn.yield l) (Array.mk []) (Array.mk []))) (Tr.node Tr.nil none (Tr.node Tr.nil (some (Value.int IntKind.i64 n)) Tr.nil))) [] A else kx 0 [(8, Value.bool b)] (Tr.node (Tr.node (Tr.node (Tr.node Tr.nil (some (Value.int IntKind.i64 i)) Tr.nil) none Tr.nil) (some (Value.pointer (some (Addr.mk p 0 none)))) Tr.nil) (some (Value.func (Fn.yield l) (Array.mk []) (Array.mk []))) (Tr.node Tr.nil none (Tr.node Tr.nil (some (Value.int IntKind.i64 n)) Tr.nil))) [] A := by kernel_rfl

theorem prD (r : Mem) (l p : Nat) (n i : Int) (sx : List (Nat × Value)) (A : AW) (fs : FnsC) (K : KS) (kx : Nat → KS) (kr : KS) : run (SC r) 219 24 1 Pr_3 fs none K kx kr sx (tPo l p n i) [] A =
    K [(9, Value.int IntKind.i64 i)] (Tr.node (Tr.node (Tr.node (Tr.node Tr.nil (some (Value.int IntKind.i64 i)) Tr.nil) (some (Value.int IntKind.i64 i)) Tr.nil) (some (Value.pointer (some (Addr.mk p 0 none)))) Tr.nil) (some (Value.func (Fn.yield l) (Array.mk []) (Array.mk []))) (Tr.node Tr.nil none (Tr.node Tr.nil (some (Value.int IntKind.i64 n)) Tr.nil))) [] A := by kernel_rfl

theorem prD2 (r : Mem) (l p : Nat) (n i : Int) (sx : List (Nat × Value)) (A : AW) (fs : FnsC) (K : KS) (kx : Nat → KS) (kr : KS) : run (SC r) 219 24 1 Pr_4 fs none K kx kr sx (tPm l p n i) [] A =
    K [(11, Value.int IntKind.i64 (IntKind.wrap IntKind.i64 (i + Int.ofNat 1))), (10, Value.int IntKind.i64 i)] (Tr.node (Tr.node (Tr.node (Tr.node Tr.nil (some (Value.int IntKind.i64 i)) Tr.nil) (some (Value.int IntKind.i64 i)) Tr.nil) (some (Value.pointer (some (Addr.mk p 0 none)))) Tr.nil) (some (Value.func (Fn.yield l) (Array.mk []) (Array.mk []))) (Tr.node (Tr.node Tr.nil (some (Value.int IntKind.i64 (IntKind.wrap IntKind.i64 (i + Int.ofNat 1)))) Tr.nil) none (Tr.node Tr.nil (some (Value.int IntKind.i64 n)) Tr.nil))) [] A := by kernel_rfl

theorem prE (r : Mem) (l p : Nat) (i j n : Int) (A : AW) (fs : FnsC) (K : KS) (kx : Nat → KS) (kr : KS) : run (SC r) 219 24 1 Pr_5 fs none K kx kr [] (tPi l p i j n) [] A =
    Option.casesOn
      (match Tr.get (AW.heap A) p with
      | some (AObj.cells c elem fam sz) => c[Nat.add 0 (Field.offset (Field.mk "n" 3 0 false "" "forcola/part" 0))]?
      | x => none)
      (CR.fail 423) fun val => bif isI IntKind.i64 val then bif decide (j < ofI val) then K [(15, Value.bool true), (14, Value.int IntKind.i64 (ofI val)), (13, Value.pointer (some (Addr.mk p 0 none))), (12, Value.int IntKind.i64 j)] (Tr.node (Tr.node (Tr.node (Tr.node Tr.nil (some (Value.int IntKind.i64 i)) Tr.nil) (some (Value.int IntKind.i64 i)) Tr.nil) (some (Value.pointer (some (Addr.mk p 0 none)))) Tr.nil) (some (Value.func (Fn.yield l) (Array.mk []) (Array.mk []))) (Tr.node (Tr.node Tr.nil (some (Value.int IntKind.i64 j)) Tr.nil) none (Tr.node Tr.nil (some (Value.int IntKind.i64 n)) Tr.nil))) [] A else kx 2 [(15, Value.bool false), (14, Value.int IntKind.i64 (ofI val)), (13, Value.pointer (some (Addr.mk p 0 none))), (12, Value.int IntKind.i64 j)] (Tr.node (Tr.node (Tr.node (Tr.node Tr.nil (some (Value.int IntKind.i64 i)) Tr.nil) (some (Value.int IntKind.i64 i)) Tr.nil) (some (Value.pointer (some (Addr.mk p 0 none)))) Tr.nil) (some (Value.func (Fn.yield l) (Array.mk []) (Array.mk []))) (Tr.node (Tr.node Tr.nil (some (Value.int IntKind.i64 j)) Tr.nil) none (Tr.node Tr.nil (some (Value.int IntKind.i64 n)) Tr.nil))) [] A else CR.fail 420 := by kernel_rfl

theorem prF (r : Mem) (l p : Nat) (i j n : Int) (A : AW) (fs : FnsC) (K : KS) : preK (SC r) 219 24 Pr_y 3 fs K [] (tPi l p i j n) [] A =
    K [(20, Value.int IntKind.i64 j), (19, Value.int IntKind.i64 i), (18, Value.func (Fn.yield l) (Array.mk []) (Array.mk []))] (Tr.node (Tr.node (Tr.node (Tr.node Tr.nil (some (Value.int IntKind.i64 i)) Tr.nil) (some (Value.int IntKind.i64 i)) Tr.nil) (some (Value.pointer (some (Addr.mk p 0 none)))) Tr.nil) (some (Value.func (Fn.yield l) (Array.mk []) (Array.mk []))) (Tr.node (Tr.node Tr.nil (some (Value.int IntKind.i64 j)) Tr.nil) none (Tr.node Tr.nil (some (Value.int IntKind.i64 n)) Tr.nil))) [] A := by kernel_rfl

theorem prG (r : Mem) (l p : Nat) (i j n : Int) (v : Bool) (A : AW) (fs : FnsC) (K : KS) (kx : Nat → KS) (kr : KS) : tailK (SC r) 219 24 Pr_y 3 fs (run (SC r) 219 24 1 Pr_z fs none (run (SC r) 219 24 1 Pr_7 fs none K kx kr) (fun x => match Nat.beq x 3 with | true => run (SC r) 219 24 1 Pr_7 fs none K kx kr | false => kx x) kr) (.bool v) [(20, I j), (19, I i), (18, fY l)] (tPi l p i j n) [] A =
    bif v then K [(17, Value.int IntKind.i64 (IntKind.wrap IntKind.i64 (j + Int.ofNat 1))), (16, Value.int IntKind.i64 j)] (Tr.node (Tr.node (Tr.node (Tr.node Tr.nil (some (Value.int IntKind.i64 i)) Tr.nil) (some (Value.int IntKind.i64 i)) Tr.nil) (some (Value.pointer (some (Addr.mk p 0 none)))) Tr.nil) (some (Value.func (Fn.yield l) (Array.mk []) (Array.mk []))) (Tr.node (Tr.node Tr.nil (some (Value.int IntKind.i64 (IntKind.wrap IntKind.i64 (j + Int.ofNat 1)))) Tr.nil) none (Tr.node Tr.nil (some (Value.int IntKind.i64 n)) Tr.nil))) [] A else kr [(22, Value.bool true), (21, Value.bool false), (20, Value.int IntKind.i64 j), (19, Value.int IntKind.i64 i), (18, Value.func (Fn.yield l) (Array.mk []) (Array.mk []))] (Tr.node (Tr.node (Tr.node (Tr.node Tr.nil (some (Value.int IntKind.i64 i)) Tr.nil) (some (Value.int IntKind.i64 i)) Tr.nil) (some (Value.pointer (some (Addr.mk p 0 none)))) Tr.nil) (some (Value.func (Fn.yield l) (Array.mk []) (Array.mk []))) (Tr.node (Tr.node Tr.nil (some (Value.int IntKind.i64 j)) Tr.nil) none (Tr.node Tr.nil (some (Value.int IntKind.i64 n)) Tr.nil))) [] A := by kernel_rfl

theorem prH (r : Mem) (l p : Nat) (i j n : Int) (A : AW) (fs : FnsC) (K : KS) (kx : Nat → KS) (kr : KS) : run (SC r) 219 24 1 Pr_6 fs none K kx kr [] (tPi l p i j n) [] A =
    K [(23, Value.int IntKind.i64 (IntKind.wrap IntKind.i64 (i + Int.ofNat 1)))] (Tr.node (Tr.node (Tr.node (Tr.node Tr.nil (some (Value.int IntKind.i64 (IntKind.wrap IntKind.i64 (i + Int.ofNat 1)))) Tr.nil) (some (Value.int IntKind.i64 i)) Tr.nil) (some (Value.pointer (some (Addr.mk p 0 none)))) Tr.nil) (some (Value.func (Fn.yield l) (Array.mk []) (Array.mk []))) (Tr.node (Tr.node Tr.nil (some (Value.int IntKind.i64 j)) Tr.nil) none (Tr.node Tr.nil (some (Value.int IntKind.i64 n)) Tr.nil))) [] A := by kernel_rfl

end Go.Proofs

/- A walk over all pairs of vertices, whatever is done in its rounds: what the call leaves. -/
namespace Go.Proofs
open Go Go.Ev Go.Num
set_option linter.unusedVariables false
set_option linter.unusedSimpArgs false
set_option maxRecDepth 100000

theorem n_cell (n : Int) (c : List Value) : (I n :: c)[Nat.add 0 (Field.offset (Field.mk "n" 3 0 false "" "forcola/part" 0))]? = some (I n) := rfl

theorem n_cell0 (n : Int) (c : List Value) : (I n :: c)[Nat.add 0 0]? = some (I n) := rfl

theorem pairs_iter (r : Mem) {l p : Nat} {fl : List Fl} {n : Nat} (hn : n ≤ 16) {J : Nat → Nat → OO → Prop} {E : OO → Prop} {os0 : OO}
    (hbox : ∀ i j os, J i j os → ∃ c e f z, (mkA os).heap.get p = some (.cells (I (n : Nat) :: c) e f z))
    (hnext : ∀ i os, i < n → J i n os → J (i + 1) (i + 2) os)
    (hY : ∀ i j os, i < j → j < n → J i j os → YOk (SC r) l [I (i : Nat), I (j : Nat)] (mkA os) fun w A' => ∃ os', Cn (mkA os0).next fl A' os' ∧ ((w = .bool true ∧ J i (j + 1) os') ∨ (w = .bool false ∧ E os')))
    (hE : ∀ os, J n (n + 1) os → E os) (h0 : J 0 1 os0) (hl : oldV (mkA os0) (fY l) = true) (hp : oldV (mkA os0) (P0 p) = true) :
    SOk (SC r) 39 [fY l, P0 p] (mkA os0) fun v A' => ∃ os, A' = mkA os ∧ E os := by
  refine callG (SC_ok r) (by kernel_rfl) ((bodySC r _).trans Pr_eq) (nt := 24) (by kernel_rfl) (rs := []) (by kernel_rfl) 219 rfl fun γ W F k hw hF hro hfr => ?_
  have ht := TOk.nil (C := SC r)
  have oldo : ∀ a b : Int, ∀ v, some v ∈ [some (fY l), some (P0 p), some (I a), some (I b)] → oldV (mkA os0) v = true := fun a b v hv => by
    simp only [List.mem_cons, Option.some.injEq, List.not_mem_nil, or_false] at hv
    rcases hv with rfl | rfl | rfl | rfl
    · exact hl
    · exact hp
    · rfl
    · rfl
  have oldi : ∀ a b c d : Int, ∀ v, some v ∈ [some (fY l), some (P0 p), some (I a), some (I b), some (I c), some (I d)] → oldV (mkA os0) v = true := fun a b c d v hv => by
    simp only [List.mem_cons, Option.some.injEq, List.not_mem_nil, or_false] at hv
    rcases hv with rfl | rfl | rfl | rfl | rfl | rfl
    · exact hl
    · exact hp
    · rfl
    · rfl
    · rfl
    · rfl
  have iI : ∀ x, isI IntKind.i64 (I x) = true := fun _ => rfl
  have oI : ∀ x, ofI (I x) = x := fun _ => rfl
  have e1 : ∀ i : Nat, i < 100 → IntKind.wrap IntKind.i64 ((i : Int) + Int.ofNat 1) = ((i + 1 : Nat) : Int) := fun i h => by rw [wrI (by simp; omega)]; simp
  let Fin : St → Prop := fun st => ∃ os, E os ∧ Ren (SC r) 219 24 γ W st ⟨⟨[], .nil⟩, [], mkA os⟩
  have fin_use : ∀ (ex : Exit) (st : St), (ex = .normal ∨ ex = .ret) → Fin st → (ex = .normal ∨ ex = .ret) ∧ ∃ st1 v A', Ren (SC r) 219 24 γ W st st1 ∧ finish (SC r) 219 [] st1 = .ret v A' ∧ ∃ os, A' = mkA os ∧ E os := fun ex st h ⟨os, hE', hr⟩ => ⟨h, _, .tuple ⟨[]⟩, mkA os, hr, rfl, os, rfl, hE'⟩
  obtain ⟨c0, be, bf, bz, hb0⟩ := hbox 0 1 os0 h0
  refine Go.Ev.Reach.mono (Q := fun ex st => (ex = .normal ∨ ex = .ret) ∧ Fin st) ?_ fun ex st ⟨h, hf⟩ => fin_use ex st h hf
  refine Go.Ev.Reach.seq (Go.Ev.Reach.mono (Go.Ev.Reach.segP (kn := asks fun st => ∃ sx T, st = ⟨⟨sx, T⟩, [], mkA os0⟩ ∧ lvPo.map T.get = [some (fY l), some (P0 p), some (I (n : Nat)), some (I 0)]) (kx := fun _ _ _ _ _ => .fail 0) (kr := fun _ _ _ _ => .fail 0) (SC_ok r) ht (tm := .nil) (L := 1) (L' := 1) (d := 1) hF hro ?_) fun ex st hq => ?_)
  · have hn := prA r l p (mkA os0)
    simp only [hb0, n_cell, n_cell0, iI, oI, cond_true] at hn
    exact (hn _ _ _ _).trans (qq_ok ⟨_, _, rfl, rfl⟩)
  cases ex with
  | exit i => cases hq
  | ret => cases hq
  | normal =>
    obtain ⟨sx0, T0, e, hT⟩ : ∃ sx T, st = ⟨⟨sx, T⟩, [], mkA os0⟩ ∧ lvPo.map T.get = [some (fY l), some (P0 p), some (I (n : Nat)), some (I 0)] := qq_use hq
    subst e
    refine Go.Ev.Reach.block (Go.Ev.Reach.loop (I := fun d st => ∃ i os, d = n - i ∧ i ≤ n ∧ J i (i + 1) os ∧ Ren (SC r) 219 24 γ W st ⟨⟨[], tPo l p n (i : Nat)⟩, [], mkA os⟩) (fun d st ⟨i, os, hd, hi, hJ, hren⟩ => Go.Ev.Reach.pre hren ?_) (j := n) ⟨0, os0, rfl, Nat.zero_le _, h0, Ren.world hw (lv := lvPo) (vs := [some (fY l), some (P0 p), some (I (n : Nat)), some (I 0)]) hT (oldo _ _) (RenA.refl _)⟩)
    refine Go.Ev.Reach.seq (Go.Ev.Reach.mono (Go.Ev.Reach.segP (kn := asks fun st => st = ⟨⟨[(8, .bool (decide ((i : Int) < n)))], tPo l p n (i : Nat)⟩, [], mkA os⟩) (kx := fun _ _ _ _ _ => .fail 0) (kr := fun _ _ _ _ => .fail 0) (SC_ok r) ht (tm := .nil) (L := 1) (L' := 1) (d := 1) hF hro ?_) fun ex st hq => ?_)
    · have hn := prB r l p n i (mkA os)
      cases hc : decide ((i : Int) < n) with
      | true => simp only [hc, cond_true] at hn; exact (hn _ _ _ _).trans (qq_ok rfl)
      | false => simp only [hc, cond_false] at hn; exact (hn _ _ _ _).trans (qq_ok rfl)
    cases ex with
    | exit i => cases hq
    | ret => cases hq
    | normal =>
      have e : st = ⟨⟨[(8, .bool (decide ((i : Int) < n)))], tPo l p n (i : Nat)⟩, [], mkA os⟩ := qq_use hq
      subst e
      refine Go.Ev.Reach.seq (Go.Ev.Reach.mono (Go.Ev.Reach.segP (kn := asks fun st => i < n ∧ ∃ sx, st = ⟨⟨sx, tPo l p n (i : Nat)⟩, [], mkA os⟩) (kx := fun x => match x with | 0 => asks fun st => ¬ i < n ∧ ∃ sx T, st = ⟨⟨sx, T⟩, [], mkA os⟩ | _ => fun _ _ _ _ => .fail 0) (kr := fun _ _ _ _ => .fail 0) (SC_ok r) ht (tm := .nil) (L := 1) (L' := 1) (d := 1) hF hro ?_) fun ex st hq => ?_)
      · have hn := prC r l p n i (decide ((i : Int) < n)) (mkA os)
        by_cases c : i < n
        · have c1 : decide ((i : Int) < n) = true := decide_eq_true (by omega)
          rw [c1] at hn ⊢
          simp only [cond_true] at hn
          exact (hn _ _ _ _).trans (qq_ok ⟨c, _, rfl⟩)
        · have c1 : decide ((i : Int) < n) = false := decide_eq_false (by omega)
          rw [c1] at hn ⊢
          simp only [cond_false] at hn
          exact (hn _ _ _ _).trans (qq_ok ⟨c, _, _, rfl⟩)
      cases ex with
      | ret => cases hq
      | exit x =>
        cases x with
        | succ x => cases hq
        | zero =>
          obtain ⟨c, sx, T, e⟩ : ¬ i < n ∧ ∃ sx T, st = ⟨⟨sx, T⟩, [], mkA os⟩ := qq_use hq
          subst e
          obtain rfl : i = n := by omega
          exact ⟨.inl rfl, os, hE os hJ, Ren.world hw (lv := []) (vs := []) rfl (fun v hv => nomatch hv) (RenA.refl _)⟩
      | normal =>
        obtain ⟨c, sx, e⟩ : i < n ∧ ∃ sx, st = ⟨⟨sx, tPo l p n (i : Nat)⟩, [], mkA os⟩ := qq_use hq
        subst e
        refine Go.Ev.Reach.seq (Go.Ev.Reach.mono (Q := fun ex st => match ex with | .normal => ∃ os', J i n os' ∧ Ren (SC r) 219 24 γ W st ⟨⟨[], tPi l p i n n⟩, [], mkA os'⟩ | .ret => Fin st | _ => False) (Go.Ev.Reach.block ?_) fun ex st hq => ?_)
        · refine Go.Ev.Reach.seq (Go.Ev.Reach.mono (Go.Ev.Reach.segP (kn := asks fun st => ∃ sx, st = ⟨⟨sx, tPm l p n (i : Nat)⟩, [], mkA os⟩) (kx := fun _ _ _ _ _ => .fail 0) (kr := fun _ _ _ _ => .fail 0) (SC_ok r) ht (tm := .nil) (L := 1) (L' := 1) (d := 1) hF hro ((prD r l p n i sx (mkA os) _ _ _ _).trans (qq_ok ⟨_, rfl⟩))) fun ex st hq => ?_)
          cases ex with
          | exit i => cases hq
          | ret => cases hq
          | normal =>
            obtain ⟨sx, e⟩ : ∃ sx, st = ⟨⟨sx, tPm l p n (i : Nat)⟩, [], mkA os⟩ := qq_use hq
            subst e
            refine Go.Ev.Reach.seq (Go.Ev.Reach.mono (Go.Ev.Reach.segP (kn := asks fun st => ∃ sx, st = ⟨⟨sx, tPi l p (i : Nat) (i + 1 : Nat) n⟩, [], mkA os⟩) (kx := fun _ _ _ _ _ => .fail 0) (kr := fun _ _ _ _ => .fail 0) (SC_ok r) ht (tm := .nil) (L := 1) (L' := 1) (d := 1) hF hro ?_) fun ex st hq => ?_)
            · have hn := prD2 r l p n i sx (mkA os)
              simp only [e1 i (by omega)] at hn
              exact (hn _ _ _ _).trans (qq_ok ⟨_, rfl⟩)
            cases ex with
            | exit i => cases hq
            | ret => cases hq
            | normal =>
              obtain ⟨sx, e⟩ : ∃ sx, st = ⟨⟨sx, tPi l p (i : Nat) (i + 1 : Nat) n⟩, [], mkA os⟩ := qq_use hq
              subst e
              refine Go.Ev.Reach.block (Go.Ev.Reach.loop (I := fun d st => ∃ j os, d = n - j ∧ i < j ∧ j ≤ n ∧ J i j os ∧ Ren (SC r) 219 24 γ W st ⟨⟨[], tPi l p (i : Nat) (j : Nat) n⟩, [], mkA os⟩) (fun d st ⟨j, os, hd, hij, hj, hJ, hren⟩ => Go.Ev.Reach.pre hren ?_) (j := n - (i + 1)) ⟨i + 1, os, rfl, by omega, by omega, hJ, Ren.world hw (lv := lvPi) (vs := [some (fY l), some (P0 p), some (I (i : Nat)), some (I (i + 1 : Nat)), some (I n), some (I (i : Nat))]) rfl (oldi _ _ _ _) (RenA.refl _)⟩)
              obtain ⟨c1, be, bf, bz, hb1⟩ := hbox i j os hJ
              refine Go.Ev.Reach.seq (Go.Ev.Reach.mono (Go.Ev.Reach.segP (kn := asks fun st => j < n ∧ ∃ sx, st = ⟨⟨sx, tPi l p (i : Nat) (j : Nat) n⟩, [], mkA os⟩) (kx := fun x => match x with | 2 => asks fun st => ¬ j < n ∧ ∃ sx, st = ⟨⟨sx, tPi l p (i : Nat) (j : Nat) n⟩, [], mkA os⟩ | _ => fun _ _ _ _ => .fail 0) (kr := fun _ _ _ _ => .fail 0) (SC_ok r) ht (tm := .nil) (L := 1) (L' := 1) (d := 1) hF hro ?_) fun ex st hq => ?_)
              · have hn := prE r l p i j n (mkA os)
                simp only [hb1, n_cell, n_cell0, iI, oI, cond_true] at hn
                by_cases c : j < n
                · have c1 : decide ((j : Int) < n) = true := decide_eq_true (by omega)
                  simp only [c1, cond_true] at hn
                  exact (hn _ _ _ _).trans (qq_ok ⟨c, _, rfl⟩)
                · have c1 : decide ((j : Int) < n) = false := decide_eq_false (by omega)
                  simp only [c1, cond_false] at hn
                  exact (hn _ _ _ _).trans (qq_ok ⟨c, _, rfl⟩)
              cases ex with
              | ret => cases hq
              | exit x =>
                match x, hq with
                | 2, hq =>
                  obtain ⟨c, sx, e⟩ : ¬ j < n ∧ ∃ sx, st = ⟨⟨sx, tPi l p (i : Nat) (j : Nat) n⟩, [], mkA os⟩ := qq_use hq
                  subst e
                  obtain rfl : j = n := by omega
                  exact ⟨os, hJ, Ren.world hw (lv := lvPi) (vs := [some (fY l), some (P0 p), some (I (i : Nat)), some (I (j : Nat)), some (I (j : Nat)), some (I (i : Nat))]) rfl (oldi _ _ _ _) (RenA.refl _)⟩
                | 0, hq => cases hq
                | 1, hq => cases hq
                | x + 3, hq => cases hq
              | normal =>
                obtain ⟨c, sx, e⟩ : j < n ∧ ∃ sx, st = ⟨⟨sx, tPi l p (i : Nat) (j : Nat) n⟩, [], mkA os⟩ := qq_use hq
                subst e
                let Pn : St → Prop := fun st => ∃ sx A', st = ⟨⟨sx, tPi l p (i : Nat) (j + 1 : Nat) n⟩, [], A'⟩ ∧ ∃ os', Cn (mkA os0).next fl A' os' ∧ J i (j + 1) os'
                let Pq : St → Prop := fun st => ∃ sx T A', st = ⟨⟨sx, T⟩, [], A'⟩ ∧ ∃ os', Cn (mkA os0).next fl A' os' ∧ E os'
                refine Go.Ev.Reach.mono (Go.Ev.Reach.first (kn := asks Pn) (kx := fun _ _ _ _ _ => .fail 0) (kr := asks Pq) (SC_ok r) ht (tm := .nil) (L := 1) (L' := 1) (d := 1) hF hro (.seq (.block (.seq .here))) (Go.Ev.Reach.yieldK (SC_ok r) hF ht (tm := .nil) (L := 1) (d := 1) 3 (s1 := [(20, I (j : Nat)), (19, I (i : Nat)), (18, fY l)]) (b1 := tPi l p (i : Nat) (j : Nat) n) (ms1 := []) (A1 := mkA os) (A2 := mkA os) (i := l) (args := [I (i : Nat), I (j : Nat)]) ((prF r l p i j n (mkA os) _ _).trans (qn_ok rfl)) (by kernel_rfl) (hY i j os hij c hJ) fun w A' hS => ?_)) fun ex st' hq => ?_
                · obtain ⟨os', hcn, hv⟩ := hS
                  rcases hv with ⟨rfl, hJ'⟩ | ⟨rfl, hE'⟩
                  · have hn := prG r l p i j n true A'
                    simp only [cond_true, e1 j (by omega)] at hn
                    exact (hn _ _ _ _).trans (qq_ok ⟨_, _, rfl, os', hcn, hJ'⟩)
                  · have hn := prG r l p i j n false A'
                    simp only [cond_false] at hn
                    exact (hn _ _ _ _).trans (qq_ok ⟨_, _, _, rfl, os', hcn, hE'⟩)
                · cases ex with
                  | normal =>
                    obtain ⟨sx, A', e, os', hcn, hJ'⟩ : Pn st' := qq_use hq
                    subst e
                    exact ⟨n - (j + 1), by omega, j + 1, os', rfl, by omega, by omega, hJ', Ren.world hw (lv := lvPi) (vs := [some (fY l), some (P0 p), some (I (i : Nat)), some (I (j + 1 : Nat)), some (I n), some (I (i : Nat))]) rfl (oldi _ _ _ _) (hcn.ren hfr)⟩
                  | ret =>
                    obtain ⟨sx, T, A', e, os', hcn, hE'⟩ : Pq st' := qq_use hq
                    subst e
                    exact ⟨os', hE', Ren.world hw (lv := []) (vs := []) rfl (fun v hv => nomatch hv) (hcn.ren hfr)⟩
                  | exit i => cases hq
                  | _ => exact hq.elim
              | _ => exact hq.elim
            | _ => exact hq.elim
          | _ => exact hq.elim
        · cases ex with
          | ret => exact ⟨.inr rfl, hq⟩
          | normal =>
            obtain ⟨os', hJ', hren'⟩ := hq
            refine Go.Ev.Reach.pre hren' (Go.Ev.Reach.mono (Go.Ev.Reach.segP (kn := asks fun st => ∃ sx T, st = ⟨⟨sx, T⟩, [], mkA os'⟩ ∧ lvPo.map T.get = [some (fY l), some (P0 p), some (I (n : Nat)), some (I (i + 1 : Nat))]) (kx := fun _ _ _ _ _ => .fail 0) (kr := fun _ _ _ _ => .fail 0) (SC_ok r) ht (tm := .nil) (L := 1) (L' := 1) (d := 1) hF hro ?_) fun ex st hq => ?_)
            · have hn := prH r l p i n n (mkA os')
              simp only [e1 i (by omega)] at hn
              exact (hn _ _ _ _).trans (qq_ok ⟨_, _, rfl, rfl⟩)
            · cases ex with
              | exit i => cases hq
              | ret => cases hq
              | normal =>
                obtain ⟨sx, T, e, hT⟩ : ∃ sx T, st = ⟨⟨sx, T⟩, [], mkA os'⟩ ∧ lvPo.map T.get = [some (fY l), some (P0 p), some (I (n : Nat)), some (I (i + 1 : Nat))] := qq_use hq
                subst e
                exact ⟨n - (i + 1), by omega, i + 1, os', rfl, by omega, hnext i os' c hJ', Ren.world hw (lv := lvPo) (vs := [some (fY l), some (P0 p), some (I (n : Nat)), some (I (i + 1 : Nat))]) hT (oldo _ _) (RenA.refl _)⟩
              | _ => exact hq.elim
          | _ => exact hq.elim
      | _ => exact hq.elim
    | _ => exact hq.elim
  | _ => exact hq.elim

end Go.Proofs

/- The graph's edges, run. -/
namespace Go.Proofs
open Go Go.Ev Go.Num
set_option linter.unusedVariables false
set_option linter.unusedSimpArgs false
set_option maxRecDepth 100000

noncomputable def cEg : Code := bodyOf S0 25
noncomputable def Eg_0 : Code := (lc cEg)
noncomputable def Eg_1 : Code := (lc (rc cEg))
noncomputable def Eg_2 : Code := (lc (lc (rc (rc cEg))))
noncomputable def Eg_3 : Code := (ic (rc (lc (rc (rc cEg)))))
noncomputable def Eg_4 : Code := (rc (rc (rc cEg)))
noncomputable def k_e1 : Code := rgA Eg_3
noncomputable def k_e2 : Code := rgB Eg_3
theorem Eg_eq : cEg = (.seq Eg_0 (.seq Eg_1 (.seq (.seq Eg_2 (.block 0 (.rangeFunc (.tmp 7) #[8, 9] k_e1 k_e2))) Eg_4))) := by kernel_rfl
noncomputable def Eg_b : Code := ic k_e2
theorem Eb_eq : k_e2 = .block 1 Eg_b := by kernel_rfl
def gC (n : Int) (w : Nat → Int) : List Value := [I n, U (w 0), U (w 1), U (w 2), U (w 3), U (w 4), U (w 5), U (w 6), U (w 7), U (w 8), U (w 9), U (w 10), U (w 11), U (w 12), U (w 13), U (w 14), U (w 15)]
def oPg (c : List Value) (i : Nat) : Option AObj := some (.cells c 55 i 0)
def oLb (v : Value) (i : Nat) : Option AObj := some (.cells [v] 22 i 0)
def oRw (c : List Value) (i : Nat) : Option AObj := some (.cells c 51 i 2)
abbrev rowV (i k : Nat) : Value := .slice (some ⟨i, 0, none⟩) k unk
abbrev nilV : Value := .slice none 0 0
def lvE : List Nat := [1, 3, 7]
def flE : List Fl := [.g, .t, .g]
def vE : OV := [some (P0 0), some (P0 1), some (.func (.func 39) ⟨[]⟩ ⟨[P0 2]⟩)]
noncomputable def rE (st : LoopState) (pend : Option Code) : AObj := .loop st pend 959 ⟨[], bT lvE vE .nil⟩ 23 #[8, 9] k_e1 k_e2 3
noncomputable def oE5 (c : List Value) (v : Value) (st : LoopState) (pend : Option Code) : OO := [oPg c 0, oLb v 1, oPg c 2, some .defd, some (rE st pend)]
def fl5 : List Fl := [.g, .t, .g, .g, .l lvE]
def lvR : List Nat := [1, 3, 4, 5]
def vR (i j : Int) : OV := [some (P0 0), some (P0 1), some (I i), some (I j)]

theorem egA (r : Mem) (n : Int) (w : Nat → Int) (K : OV → List Nat → OO → CR) (kx : Nat → KS) (kr : KS) : run (SC r) 959 23 1 (.seq Eg_0 (.seq Eg_1 Eg_2)) (lvlT (SC r) (fun _ => none) .nil 1 2) none (rbK 0 lvE flE K) kx kr (sc0 959 [.agg ⟨gC n w⟩]) (tr0 959 [.agg ⟨gC n w⟩]) [] emptyA =
    K [some (P0 0), some (P0 1), some (Value.func (Fn.func 39) (Array.mk []) (Array.mk [P0 2]))] [] [some (AObj.cells (gC n w) 55 0 0), some (AObj.cells [Value.slice none 0 0] 22 1 0), some (AObj.cells (gC n w) 55 2 0)] := by kernel_rfl

theorem egB1 (r : Mem) (c : List Value) (i j : Int) (fs : FnsC) (K : OV → List Nat → OO → CR) (kx : Nat → KS) (kr : KS) : run (SC r) 959 23 1 k_e1 fs (some 4) (begK 4 (rbK 5 lvR fl5 K)) kx kr [] (bT (lvE ++ [8, 9]) (vE ++ [some (I i), some (I j)]) .nil) [] (mkA (oE5 c nilV .ready none)) =
    bif m_nns c && (true && (m_nns c && true)) then K [some (P0 0), some (P0 1), some (I i), some (I j)] [] [some (AObj.cells c 55 0 0), some (AObj.cells [Value.slice none 0 0] 22 1 0), some (AObj.cells c 55 2 0), some AObj.defd, some (rE LoopState.busy none)] else CR.fail 420 := by kernel_rfl

theorem egB2 (r : Mem) (c d : List Value) (k : Nat) (i j : Int) (fs : FnsC) (K : OV → List Nat → OO → CR) (kx : Nat → KS) (kr : KS) : run (SC r) 959 23 1 k_e1 fs (some 4) (begK 4 (rbK 6 lvR (fl5 ++ [.g]) K)) kx kr [] (bT (lvE ++ [8, 9]) (vE ++ [some (I i), some (I j)]) .nil) [] (mkA (oE5 c (rowV 5 k) .ready none ++ [oRw d 5])) =
    bif m_nns c && (true && (m_nns c && (true && (true && (m_nns d && true))))) then K [some (P0 0), some (P0 1), some (I i), some (I j)] [] [some (AObj.cells c 55 0 0), some (AObj.cells [Value.slice (some (Addr.mk 5 0 none)) k 9223372036854775808] 22 1 0), some (AObj.cells c 55 2 0), some AObj.defd, some (rE LoopState.busy none), some (AObj.cells d 51 5 2)] else CR.fail 420 := by kernel_rfl

theorem egC1 (r : Mem) (c : List Value) (i j : Int) (K : OV → List Nat → OO → CR) (kx : Nat → KS) (kr : KS) : run (SC r) 959 23 1 Eg_b (lvlT (SC r) (fun _ => none) .nil 1 2) (some 4) (rbK 5 [] fl5 K) kx kr [] (bT lvR (vR i j) .nil) [] (mkA (oE5 c nilV .busy none)) =
    bif decide (0 ≤ i) then bif Nat.blt (Int.toNat i) 16 then Option.casesOn c[Nat.add 1 (Nat.mul (Int.toNat i) 1)]? (CR.fail 423) fun val => bif isI IntKind.u64 val then bif !decide (j < 0) then bif ibits BinOp.and IntKind.u64 (Int.fdiv (ofI val) (Int.ofNat 2 ^ min (Int.toNat j) 64)) (Int.ofNat 1) == Int.ofNat 1 then bif m_nns c && (true && (m_nns c && (true && (true && (m_nns [I i, I j] && true))))) then K [] [] [some (AObj.cells c 55 0 0), some (AObj.cells [Value.slice (some (Addr.mk 5 0 none)) 1 9223372036854775808] 22 1 0), some (AObj.cells c 55 2 0), some AObj.defd, some (rE LoopState.busy none), some (AObj.cells [I i, I j] 51 5 2)] else CR.fail 420 else bif m_nns c && (true && (m_nns c && true)) then K [] [] [some (AObj.cells c 55 0 0), some (AObj.cells [Value.slice none 0 0] 22 1 0), some (AObj.cells c 55 2 0), some AObj.defd, some (rE LoopState.busy none)] else CR.fail 420 else CR.fail 420 else CR.fail 420 else CR.fail 420 else CR.fail 420 := by kernel_rfl

theorem egC2 (r : Mem) (c d : List Value) (k : Nat) (i j : Int) (K : OV → List Nat → OO → CR) (kx : Nat → KS) (kr : KS) : run (SC r) 959 23 1 Eg_b (lvlT (SC r) (fun _ => none) .nil 1 2) (some 4) (rbK 6 [] (fl5 ++ [.g]) K) kx kr [] (bT lvR (vR i j) .nil) [] (mkA (oE5 c (rowV 5 k) .busy none ++ [oRw d 5])) =
    bif decide (0 ≤ i) then bif Nat.blt (Int.toNat i) 16 then Option.casesOn c[Nat.add 1 (Nat.mul (Int.toNat i) 1)]? (CR.fail 423) fun val => bif isI IntKind.u64 val then bif !decide (j < 0) then bif ibits BinOp.and IntKind.u64 (Int.fdiv (ofI val) (Int.ofNat 2 ^ min (Int.toNat j) 64)) (Int.ofNat 1) == Int.ofNat 1 then bif Nat.ble (Nat.add k 1) 1000000 then Option.casesOn (takeAt d 0 (Nat.mul k 2)) (CR.fail 439) fun val => bif m_nns c && (true && (m_nns c && (true && (true && (m_nns (val ++ [I i, I j]) && true))))) then K [] [] [some (AObj.cells c 55 0 0), some (AObj.cells [Value.slice (some (Addr.mk 6 0 none)) (Nat.add k 1) 9223372036854775808] 22 1 0), some (AObj.cells c 55 2 0), some AObj.defd, some (rE LoopState.busy none), none, some (AObj.cells (val ++ [I i, I j]) 51 6 2)] else CR.fail 420 else CR.fail 420 else bif m_nns c && (true && (m_nns c && (true && (true && (m_nns d && true))))) then K [] [] [some (AObj.cells c 55 0 0), some (AObj.cells [Value.slice (some (Addr.mk 5 0 none)) k 9223372036854775808] 22 1 0), some (AObj.cells c 55 2 0), some AObj.defd, some (rE LoopState.busy none), some (AObj.cells d 51 5 2)] else CR.fail 420 else CR.fail 420 else CR.fail 420 else CR.fail 420 else CR.fail 420 := by kernel_rfl

theorem egT1 (r : Mem) (c : List Value) (K : OV → List Nat → OO → CR) (kx : Nat → KS) (kr : KS) : tailRK 4 ⟨[], bT lvE vE .nil⟩ [3] (rbK 0 [3] [.t] K) kx kr (mkA (oE5 c nilV .ready none)) =
    K [some (P0 0)] [] [some (AObj.cells [Value.slice none 0 0] 22 0 0)] := by kernel_rfl

theorem egT2 (r : Mem) (c d : List Value) (k : Nat) (K : OV → List Nat → OO → CR) (kx : Nat → KS) (kr : KS) : tailRK 4 ⟨[], bT lvE vE .nil⟩ [3] (rbK 0 [3] [.t] K) kx kr (mkA (oE5 c (rowV 5 k) .ready none ++ [oRw d 5])) =
    bif true && (m_nns d && true) then K [some (P0 0)] [] [some (AObj.cells [Value.slice (some (Addr.mk 1 0 none)) k 9223372036854775808] 22 0 0), some (AObj.cells d 51 1 2)] else CR.fail 420 := by kernel_rfl

theorem egZ1 (r : Mem) (fs : FnsC) (K KR : OV → List Nat → OO → CR) (kx : Nat → KS) : run (SC r) 959 23 1 Eg_4 fs none (rbK 0 [2] [] K) kx (rbK 0 [2] [] KR) [] (bT [3] [some (P0 0)] .nil) [] (mkA [oLb nilV 0]) =
    KR [some (Value.slice none 0 0)] [] [] := by kernel_rfl

theorem egZ2 (r : Mem) (d : List Value) (k : Nat) (fs : FnsC) (K KR : OV → List Nat → OO → CR) (kx : Nat → KS) : run (SC r) 959 23 1 Eg_4 fs none (rbK 0 [2] [] K) kx (rbK 0 [2] [] KR) [] (bT [3] [some (P0 0)] .nil) [] (mkA [oLb (rowV 1 k) 0, oRw d 1]) =
    bif m_nns d && true then KR [some (Value.slice (some (Addr.mk 0 0 none)) k 9223372036854775808)] [] [some (AObj.cells d 51 0 2)] else CR.fail 420 := by kernel_rfl

end Go.Proofs

/- The graph's edges: what the call answers. -/
namespace Go.Proofs
open Go Go.Ev Go.Num
set_option linter.unusedVariables false
set_option linter.unusedSimpArgs false
set_option maxRecDepth 100000

theorem gC_get (n : Int) (w : Nat → Int) : ∀ i, i < 16 → (gC n w)[Nat.add 1 (Nat.mul i 1)]? = some (U (w i))
  | 0, _ => rfl | 1, _ => rfl | 2, _ => rfl | 3, _ => rfl | 4, _ => rfl | 5, _ => rfl | 6, _ => rfl | 7, _ => rfl
  | 8, _ => rfl | 9, _ => rfl | 10, _ => rfl | 11, _ => rfl | 12, _ => rfl | 13, _ => rfl | 14, _ => rfl | 15, _ => rfl
  | i + 16, h => absurd h (by omega)
theorem bitU {x k : Nat} (hx : x < 65536) (hk : k ≤ 16) : (ibits BinOp.and IntKind.u64 (Int.fdiv ((x : Nat) : Int) (Int.ofNat 2 ^ min k 64)) (Int.ofNat 1) == Int.ofNat 1) = btN x k := by
  rw [shr_nat x k (by omega)]
  have hle : x / 2 ^ k ≤ x := Nat.div_le_self _ _
  rw [show (Int.ofNat 1 : Int) = ((1 : Nat) : Int) from rfl, (uO (by omega) (by decide)).2.1, Nat.and_one_is_mod]
  unfold btN
  rcases Nat.mod_two_eq_zero_or_one (x / 2 ^ k) with h | h <;> rw [h] <;> rfl

noncomputable def oEd (n : Int) (w : Nat → Int) (st : LoopState) : List (Nat × Nat) → OO
  | [] => oE5 (gC n w) nilV st none
  | p :: l => oE5 (gC n w) (rowV 5 (l.length + 1)) st none ++ [oRw (pcE (p :: l)) 5]
theorem oEd_next (n : Int) (w : Nat → Int) : (mkA (oEd n w .ready [])).next = 5 := by kernel_rfl
theorem oEd_cn (n : Int) (w : Nat → Int) (l : List (Nat × Nat)) : Cn 5 fl5 (mkA (oEd n w .ready l)) (oEd n w .ready l) := by
  cases l with
  | nil => exact ⟨by kernel_rfl, by kernel_rfl⟩
  | cons p l => exact ⟨by kernel_rfl, by
      have h : m_nns (pcE (p :: l)) = true := pcE_nn _
      show (true && (true && (true && (true && (true && (m_nns (pcE (p :: l)) && true)))))) = true
      rw [h]
      rfl⟩
theorem oEd_end (n : Int) (w : Nat → Int) (l : List (Nat × Nat)) : endR 4 none (St.of [] [] [] (oEd n w .busy l)) = .ret (.bool true) (mkA (oEd n w .ready l)) := by
  cases l with
  | nil => kernel_rfl
  | cons p l => kernel_rfl

/-- The row, grown. -/
noncomputable def oEg (n : Int) (w : Nat → Int) (st : LoopState) (p : Nat × Nat) (l : List (Nat × Nat)) : OO := oE5 (gC n w) (rowV 6 (l.length + 1)) st none ++ [none, oRw (pcE (p :: l)) 6]
theorem oEg_cn (n : Int) (w : Nat → Int) (p : Nat × Nat) (l : List (Nat × Nat)) : Cn 5 fl5 (mkA (oEg n w .ready p l)) (oEd n w .ready (p :: l)) := ⟨by kernel_rfl, (oEd_cn n w (p :: l)).2⟩
theorem oEg_end (n : Int) (w : Nat → Int) (p : Nat × Nat) (l : List (Nat × Nat)) : endR 4 none (St.of [] [] [] (oEg n w .busy p l)) = .ret (.bool true) (mkA (oEg n w .ready p l)) := by kernel_rfl

/-- A round: one pair. -/
theorem yE {r : Mem} {n : Nat} (hn : n ≤ 16) {w : Nat → Nat} (hw : ∀ i, w i < 65536) {i j : Nat} (hij : i < j) (hj : j < n) (l : List (Nat × Nat)) (hlen : l.length ≤ 300) {P E : OO → Prop} (hP : P (oEd (n : Nat) (fun i => (w i : Nat)) .ready (l ++ if btN (w i) j = true then [(i, j)] else []))) :
    YOk (SC r) 4 [I (i : Nat), I (j : Nat)] (mkA (oEd (n : Nat) (fun i => (w i : Nat)) .ready l)) fun v A' => ∃ os', Cn 5 fl5 A' os' ∧ ((v = .bool true ∧ P os') ∨ (v = .bool false ∧ E os')) := by
  have p0 : ∀ k : Nat, decide (0 ≤ (k : Int)) = true := fun k => decide_eq_true (by omega)
  have n0 : ∀ k : Nat, decide ((k : Int) < 0) = false := fun k => decide_eq_false (by omega)
  have bl : Nat.blt i 16 = true := Nat.ble_eq_true_of_le (by omega)
  have ii : ∀ x, isI IntKind.u64 (U x) = true := fun _ => rfl
  have oo : ∀ x, ofI (U x) = x := fun _ => rfl
  have hc : m_nns (gC (n : Nat) fun i => (w i : Nat)) = true := rfl
  have gg := gC_get (n : Nat) (fun i => (w i : Nat)) i (by omega)
  have h2 : ∀ a b : Int, m_nns [I a, I b] = true := fun _ _ => rfl
  cases l with
  | nil =>
    have hnx : (mkA (oEd (n : Nat) (fun i => (w i : Nat)) .ready [])).next = 5 := by kernel_rfl
    refine YOk.of (SC_ok r) (i := 4) (st := .ready) (pend := none) (m := 959) (n := 23) (en := ⟨[], bT lvE vE .nil⟩) (params := #[8, 9]) (assign := k_e1) (body := k_e2) (d := 3) (by kernel_rfl) (s0 := []) (b0 := bT (lvE ++ [8, 9]) (vE ++ [some (I (i : Nat)), some (I (j : Nat))]) .nil) (by kernel_rfl) TOk.nil (tm := .nil) (L := 1) (L' := 1) (d' := 2)
      ⟨lvR, fl5, fun vs ms os => vs = vR (i : Nat) (j : Nat) ∧ ms = [] ∧ os = oEd (n : Nat) (fun i => (w i : Nat)) .busy ([])⟩
      ⟨[], fl5, fun vs ms os => vs = [] ∧ ms = [] ∧ os = oEd (n : Nat) (fun i => (w i : Nat)) .busy (([]) ++ if btN (w i) j = true then [(i, j)] else [])⟩
      (fun _ => Outs.no) Outs.no ?_ ?_ ?_ ?_ ?_
    · rw [hnx]
      have hn := egB1 r (gC (n : Nat) fun i => (w i : Nat)) i j
      simp only [hc, Bool.and_self, cond_true] at hn
      exact (hn _ _ _ _).trans (qq_ok ⟨rfl, rfl, rfl⟩)
    · rintro F k γ W hF hro h0 vs ms os ⟨rfl, rfl, rfl⟩
      rw [hnx] at h0
      rw [Eb_eq]
      refine Go.Ev.Reach.blockC (Go.Ev.Reach.segR (SC_ok r) TOk.nil (tm := .nil) (L := 1) (L' := 1) (d := 2) hF hro h0 [] (fun p hp => nomatch hp) ?_)
      have hn := egC1 r (gC (n : Nat) fun i => (w i : Nat)) i j
      simp only [p0, n0, bl, Int.toNat_natCast, gg, ii, oo, Bool.not_false, cond_true, bitU (hw i) (show j ≤ 16 by omega), hc, h2, Bool.and_self] at hn
      cases hb : btN (w i) j with
      | true =>
        simp only [hb, cond_true] at hn
        exact (hn _ _ _).trans (qq_ok ⟨rfl, rfl, rfl⟩)
      | false =>
        simp only [hb, cond_false] at hn
        exact (hn _ _ _).trans (qq_ok ⟨rfl, rfl, rfl⟩)
    · rintro vs ms os ⟨rfl, rfl, rfl⟩
      exact ⟨_, _, oEd_end _ _ _, _, oEd_cn _ _ _, .inl ⟨rfl, hP⟩⟩
    · rintro id vs ms os hf
      exact hf.elim
    · rintro vs ms os hf
      exact hf.elim
  | cons p l =>
    have hnx : (mkA (oEd (n : Nat) (fun i => (w i : Nat)) .ready (p :: l))).next = 6 := by kernel_rfl
    have hlen' : l.length + 1 ≤ 300 := hlen
    refine YOk.of (SC_ok r) (i := 4) (st := .ready) (pend := none) (m := 959) (n := 23) (en := ⟨[], bT lvE vE .nil⟩) (params := #[8, 9]) (assign := k_e1) (body := k_e2) (d := 3) (by kernel_rfl) (s0 := []) (b0 := bT (lvE ++ [8, 9]) (vE ++ [some (I (i : Nat)), some (I (j : Nat))]) .nil) (by kernel_rfl) TOk.nil (tm := .nil) (L := 1) (L' := 1) (d' := 2)
      ⟨lvR, fl5 ++ [.g], fun vs ms os => vs = vR (i : Nat) (j : Nat) ∧ ms = [] ∧ os = oEd (n : Nat) (fun i => (w i : Nat)) .busy (p :: l)⟩
      ⟨[], fl5 ++ [.g], fun vs ms os => vs = [] ∧ ms = [] ∧ ((btN (w i) j = true ∧ os = oEg (n : Nat) (fun i => (w i : Nat)) .busy p (l ++ [(i, j)])) ∨ (btN (w i) j = false ∧ os = oEd (n : Nat) (fun i => (w i : Nat)) .busy (p :: l)))⟩
      (fun _ => Outs.no) Outs.no ?_ ?_ ?_ ?_ ?_
    · rw [hnx]
      have hn := egB2 r (gC (n : Nat) fun i => (w i : Nat)) (pcE (p :: l)) (l.length + 1) i j
      simp only [hc, pcE_nn, Bool.and_self, cond_true] at hn
      exact (hn _ _ _ _).trans (qq_ok ⟨rfl, rfl, rfl⟩)
    · rintro F k γ W hF hro h0 vs ms os ⟨rfl, rfl, rfl⟩
      rw [hnx] at h0
      rw [Eb_eq]
      refine Go.Ev.Reach.blockC (Go.Ev.Reach.segR (SC_ok r) TOk.nil (tm := .nil) (L := 1) (L' := 1) (d := 2) hF hro h0 [] (fun p hp => nomatch hp) ?_)
      have hn := egC2 r (gC (n : Nat) fun i => (w i : Nat)) (pcE (p :: l)) (l.length + 1) i j
      have m1 : Nat.ble (Nat.add (l.length + 1) 1) 1000000 = true := Nat.ble_eq_true_of_le (by simp only [Nat.add_eq]; omega)
      have tk : takeAt (pcE (p :: l)) 0 (Nat.mul (l.length + 1) 2) = some (pcE (p :: l)) := takeL_all _ _ (by rw [pcE_len]; simp [Nat.mul_comm])
      have ap : pcE (p :: l) ++ [I (i : Nat), I (j : Nat)] = pcE (p :: (l ++ [(i, j)])) := by rw [show p :: (l ++ [(i, j)]) = (p :: l) ++ [(i, j)] from rfl, pcE_app]; rfl
      have al : Nat.add (l.length + 1) 1 = (l ++ [(i, j)]).length + 1 := by simp
      simp only [p0, n0, bl, Int.toNat_natCast, gg, ii, oo, Bool.not_false, cond_true, bitU (hw i) (show j ≤ 16 by omega), hc, m1, tk, ap, al, pcE_nn, Bool.and_self] at hn
      cases hb : btN (w i) j with
      | true =>
        simp only [hb, cond_true] at hn
        rw [al] at m1
        simp only [m1, cond_true] at hn
        exact (hn _ _ _).trans (qq_ok ⟨rfl, rfl, .inl ⟨rfl, rfl⟩⟩)
      | false =>
        simp only [hb, cond_false] at hn
        exact (hn _ _ _).trans (qq_ok ⟨rfl, rfl, .inr ⟨rfl, rfl⟩⟩)
    · rintro vs ms os ⟨rfl, rfl, ⟨hb, rfl⟩ | ⟨hb, rfl⟩⟩
      · exact ⟨_, _, oEg_end _ _ _ _, _, oEg_cn _ _ _ _, .inl ⟨rfl, by rw [if_pos hb] at hP; exact hP⟩⟩
      · exact ⟨_, _, oEd_end _ _ _, _, oEd_cn _ _ _, .inl ⟨rfl, by rw [if_neg (by rw [hb]; decide), List.append_nil] at hP; exact hP⟩⟩
    · rintro id vs ms os hf
      exact hf.elim
    · rintro vs ms os hf
      exact hf.elim

theorem edges_ok' (r : Mem) {n : Nat} (hn : n ≤ 16) {w : Nat → Nat} (hw : ∀ i, w i < 65536) :
    SOk (SC r) 25 [.agg ⟨gC (n : Nat) fun i => (w i : Nat)⟩] emptyA fun v A => v = vL (alE w n n) ∧ A = mkA (oL (alE w n n)) := by
  refine callO (SC_ok r) (by kernel_rfl) ((bodySC r _).trans Eg_eq) (nt := 23) (by kernel_rfl) (rs := [.tmp 2]) (by kernel_rfl) 959 rfl
    ⟨[2], [], fun vs ms os => vs = [some (vL (alE w n n))] ∧ ms = [] ∧ os = oL (alE w n n)⟩ ?_ fun γ W F k hwr hF hro h0 => ?_
  · rintro vs ms os ⟨rfl, rfl, rfl⟩
    generalize alE w n n = l
    cases l with
    | nil => exact ⟨_, mkA [], by kernel_rfl, rfl, rfl⟩
    | cons p l => exact ⟨_, mkA [some (.cells (pcE (p :: l)) 51 0 2)], by kernel_rfl, rfl, rfl⟩
  have h0 : ∀ i, 0 ≤ i → γ i = none := h0
  have lens : ∀ i j, i ≤ n → j ≤ n + 1 → (alE w n i ++ rwE w i j).length ≤ 300 := fun i j hi hj => by
    have h1 := alE_len w n i
    have h2 := rwE_len w i j
    have h3 : i * n ≤ 16 * 16 := Nat.mul_le_mul (by omega) (by omega)
    rw [List.length_append]
    omega
  refine Go.Ev.Reach.after3R (SC_ok r) TOk.nil (tm := .nil) (L := 1) (L' := 1) (d := 2) hF hro h0 (.step (.step .base))
    (o1 := ⟨lvE, flE, fun vs ms os => vs = vE ∧ ms = [] ∧ os = [oPg (gC (n : Nat) fun i => (w i : Nat)) 0, oLb nilV 1, oPg (gC (n : Nat) fun i => (w i : Nat)) 2]⟩)
    (o2 := ⟨[3], [.t], fun vs ms os => vs = [some (P0 0)] ∧ ms = [] ∧ os = match alE w n n with | [] => [oLb nilV 0] | p :: l => [oLb (rowV 1 (l.length + 1)) 0, oRw (pcE (p :: l)) 1]⟩) [] (fun p hp => nomatch hp) ?_ ?_ ?_
  · rintro vs ms os ⟨rfl, rfl, rfl⟩
    have hl : ((mkA [oPg (gC (n : Nat) fun i => (w i : Nat)) 0, oLb nilV 1, oPg (gC (n : Nat) fun i => (w i : Nat)) 2]).new .defd).next = 4 := by kernel_rfl
    refine Go.Ev.Reach.blockC (Go.Ev.Reach.rangeC (SC_ok r) hF hro h0 (d := 3) (marks := [3]) (A1 := (mkA [oPg (gC (n : Nat) fun i => (w i : Nat)) 0, oLb nilV 1, oPg (gC (n : Nat) fun i => (w i : Nat)) 2]).new .defd) (g := 39) (first := []) (captured := [P0 2]) (S := fun v A' => ∃ os, A' = mkA os ∧ os = oEd (n : Nat) (fun i => (w i : Nat)) .ready (alE w n n)) [] (fun p hp => nomatch hp) (by kernel_rfl) (by kernel_rfl) (by kernel_rfl) ?_ ?_)
    · have hE : ((mkA [oPg (gC (n : Nat) fun i => (w i : Nat)) 0, oLb nilV 1, oPg (gC (n : Nat) fun i => (w i : Nat)) 2]).new .defd).new (.loop .ready none 959 ⟨[], bT lvE vE .nil⟩ 23 #[8, 9] k_e1 k_e2 3) = mkA (oEd (n : Nat) (fun i => (w i : Nat)) .ready []) := by kernel_rfl
      show SOk _ _ _ (((mkA [oPg (gC (n : Nat) fun i => (w i : Nat)) 0, oLb nilV 1, oPg (gC (n : Nat) fun i => (w i : Nat)) 2]).new .defd).new (.loop .ready none 959 ⟨[], bT lvE vE .nil⟩ 23 #[8, 9] k_e1 k_e2 3)) _
      rw [hE, hl]
      refine pairs_iter r (l := 4) (p := 2) (fl := fl5) hn (J := fun i j os => i ≤ n ∧ j ≤ n + 1 ∧ os = oEd (n : Nat) (fun i => (w i : Nat)) .ready (alE w n i ++ rwE w i j)) (E := fun os => os = oEd (n : Nat) (fun i => (w i : Nat)) .ready (alE w n n)) (os0 := oEd (n : Nat) (fun i => (w i : Nat)) .ready [])
        ?_ ?_ ?_ ?_ ⟨Nat.zero_le _, by omega, ?_⟩ (by kernel_rfl) (by kernel_rfl)
      · rintro i j os ⟨_, _, rfl⟩
        generalize alE w n i ++ rwE w i j = l
        cases l with
        | nil => exact ⟨(gC (n : Nat) fun i => (w i : Nat)).tail, 55, 2, 0, by kernel_rfl⟩
        | cons p l => exact ⟨(gC (n : Nat) fun i => (w i : Nat)).tail, 55, 2, 0, by kernel_rfl⟩
      · rintro i os hi ⟨_, _, rfl⟩
        exact ⟨hi, by omega, by rw [rwE_nil w (i + 1) (i + 2) (Nat.le_refl _), List.append_nil]; rfl⟩
      · rintro i j os hij hj ⟨hi, hj', rfl⟩
        rw [oEd_next]
        refine yE (r := r) hn hw hij hj _ (lens i j hi hj') ⟨hi, by omega, ?_⟩
        rw [List.append_assoc, rwE]
        congr 2
        by_cases c : btN (w i) j = true
        · rw [if_pos c, if_pos ⟨hij, c⟩]
        · rw [if_neg c, if_neg fun h => c h.2]
      · rintro os ⟨_, _, rfl⟩
        rw [rwE_nil w n (n + 1) (Nat.le_refl _), List.append_nil]
      · rw [rwE_nil w 0 1 (Nat.le_refl _)]
        rfl
    · rintro v A' ⟨os, rfl, rfl⟩
      rw [hl]
      generalize alE w n n = l
      cases l with
      | nil => exact (egT1 r (gC (n : Nat) fun i => (w i : Nat)) _ _ _).trans (qq_ok ⟨rfl, rfl, rfl⟩)
      | cons p l =>
        have hn := egT2 r (gC (n : Nat) fun i => (w i : Nat)) (pcE (p :: l)) (l.length + 1)
        simp only [pcE_nn, Bool.and_self, cond_true] at hn
        exact (hn _ _ _).trans (qq_ok ⟨rfl, rfl, rfl⟩)
  · rintro vs ms os ⟨rfl, rfl, rfl⟩
    generalize alE w n n = l
    cases l with
    | nil => exact Go.Ev.Reach.segR (SC_ok r) TOk.nil (tm := .nil) (L := 1) (L' := 1) (d := 1) hF hro h0 [] (fun p hp => nomatch hp) ((egZ1 r _ _ _ _).trans (qq_ok ⟨rfl, rfl, rfl⟩))
    | cons p l =>
      have hn := egZ2 r (pcE (p :: l)) (l.length + 1)
      simp only [pcE_nn, Bool.and_self, cond_true] at hn
      exact Go.Ev.Reach.segR (SC_ok r) TOk.nil (tm := .nil) (L := 1) (L' := 1) (d := 1) hF hro h0 [] (fun p hp => nomatch hp) ((hn _ _ _ _).trans (qq_ok ⟨rfl, rfl, rfl⟩))
  · exact (egA r (n : Nat) (fun i => (w i : Nat)) _ _ _).trans (qq_ok ⟨rfl, rfl, rfl⟩)

end Go.Proofs

/- The least bit of a word: what the call answers. -/
namespace Go.Num
open Go Go.Proofs Go.Ev

def tzI (t : Nat) : Int := Int.fdiv (m_mulU ((2 ^ t : Nat) : Int) (Int.ofNat 285870213051353865)) (Int.ofNat 288230376151711744)
def tzC (t : Nat) : Bool := decide (0 ≤ tzI t) && (Nat.blt (tzI t).toNat 64 && match tabM 1 (Nat.add 0 (Nat.mul (tzI t).toNat 1)) with
  | some (.int .u8 z) => decide (z = (t : Int))
  | _ => false)
theorem tzC_all : ∀ t : Fin 16, tzC t.val = true := by decide +kernel
theorem tz16 {s : Nat} (h : s < 65536) (h0 : s ≠ 0) : tzN 64 s < 16 := by
  obtain ⟨_, h2, _⟩ := tz_bit 64 s (by omega) h0
  rcases Nat.lt_or_ge (tzN 64 s) 16 with c | c
  · exact c
  · rw [high (m := 16) (by omega) c] at h2
    exact nomatch h2

end Go.Num
namespace Go.Proofs
open Go Go.Ev Go.Num
set_option linter.unusedVariables false
set_option linter.unusedSimpArgs false
set_option maxRecDepth 100000

theorem tz_ok (r : Mem) (hm : ∀ b j u, tabM b j = some u → r b j = some u) (s : Nat) (h0 : s ≠ 0) (h : s < 65536) : GrT Tryz.prog r 70 [U (s : Nat)] (I (tzN 64 s : Nat)) :=
  GrT.of (SC_ok r) TOk.nil .nil rfl ⟨2, 4, by
    rw [tzA]
    have c1 : ((s : Int) == Int.ofNat 0) = false := by simp; omega
    have e1 : IntKind.wrap IntKind.u64 (Int.ofNat 0 - (s : Int)) = ((2 ^ 64 - s : Nat) : Int) := by rw [wrU]; simp; omega
    have e2 : ibits BinOp.and IntKind.u64 (s : Int) ((2 ^ 64 - s : Nat) : Int) = ((s &&& (2 ^ 64 - s) : Nat) : Int) := (uO (by omega) (by omega)).2.1
    have ht := tz16 h h0
    have hc := tzC_all ⟨tzN 64 s, ht⟩
    rw [c1, cond_false, e1, e2, low_pow 64 s (by omega) h0]
    generalize tzN 64 s = t at ht hc
    unfold tzC at hc
    rw [Bool.and_eq_true, Bool.and_eq_true] at hc
    obtain ⟨d1, d2, d3⟩ := hc
    change decide (0 ≤ tzI t) = true at d1
    change (bif decide (0 ≤ tzI t) then bif Nat.blt (Int.toNat (tzI t)) 64 then Option.casesOn (r 1 (Nat.add 0 (Nat.mul (Int.toNat (tzI t)) 1))) (CR.fail 423) fun val => bif isI IntKind.u8 val then CR.ret (Value.int IntKind.i64 (IntKind.wrap IntKind.i64 (ofI val))) (AW.mk 0 Tr.nil Tr.nil) else CR.fail 420 else CR.fail 420 else CR.fail 420) = _
    rw [d1, cond_true, d2, cond_true]
    split at d3
    · rename_i z hz
      rw [hm _ _ _ hz]
      have hz' : z = (t : Int) := of_decide_eq_true d3
      subst hz'
      show CR.ret (Value.int IntKind.i64 (IntKind.wrap IntKind.i64 (t : Int))) _ = _
      rw [wrI (by omega)]
      rfl
    · exact nomatch d3⟩
theorem tEs_ok (r : Mem) (hm : ∀ b j u, tabM b j = some u → r b j = some u) : TOk (SC r) tEs := TOk.cons TOk.nil (eU1_ok fun a ha => by
  have h := of_decide_eq_true ha
  have := tz_ok r hm a.toNat (by omega) (by omega)
  rw [show ((a.toNat : Nat) : Int) = a by omega] at this
  exact this)

end Go.Proofs

/- A walk over the bits of a word, whatever is done in its rounds. -/
namespace Go.Proofs
open Go Go.Ev Go.Num
set_option linter.unusedVariables false
set_option linter.unusedSimpArgs false
set_option maxRecDepth 100000

noncomputable def cEs : Code := bodyOf S0 53
noncomputable def Es_0 : Code := (lc cEs)
noncomputable def Es_1 : Code := (lc (ic (ic (rc cEs))))
noncomputable def Es_2 : Code := (lc (ic (lc (rc (ic (ic (rc cEs)))))))
noncomputable def Es_3 : Code := (rc (ic (lc (rc (ic (ic (rc cEs)))))))
noncomputable def Es_4 : Code := (rc (rc (ic (ic (rc cEs)))))
theorem Es_eq : cEs = (.seq Es_0 (.block 0 (.loop (.seq Es_1 (.seq (.block 1 (.seq Es_2 Es_3)) Es_4))))) := by kernel_rfl
def lvEs : List Nat := [0, 3]
def tEb (l : Nat) (t : Int) : Tr Value := bT lvEs [some (fY l), some (U t)] .nil

theorem ebA (r : Mem) (l p : Nat) (A : AW) (fs : FnsC) (K : KS) (kx : Nat → KS) (kr : KS) : run (SC r) 11 16 1 Es_0 fs none K kx kr (sc0 11 [fY l, .pointer (some ⟨p, 0, none⟩)]) (tr0 11 [fY l, .pointer (some ⟨p, 0, none⟩)]) [] A =
    Option.casesOn
      (match Tr.get (AW.heap A) p with
      | some (AObj.cells c elem fam sz) => c[0]?
      | x => none)
      (CR.fail 423) fun val => bif isI IntKind.u64 val then K [(4, Value.int IntKind.u64 (ofI val))] (Tr.node (Tr.node (Tr.node Tr.nil (some (Value.int IntKind.u64 (ofI val))) Tr.nil) (some (Value.pointer (some (Addr.mk p 0 none)))) Tr.nil) (some (Value.func (Fn.yield l) (Array.mk []) (Array.mk []))) Tr.nil) [] A else CR.fail 420 := by kernel_rfl

theorem ebB (r : Mem) (l : Nat) (t : Int) (A : AW) (fs : FnsC) (K : KS) (kx : Nat → KS) (kr : KS) : run (SC r) 11 16 1 Es_1 fs none K kx kr [] (tEb l t) [] A =
    bif t != Int.ofNat 0 then K [(6, Value.bool true), (5, Value.int IntKind.u64 t)] (Tr.node (Tr.node (Tr.node Tr.nil (some (Value.int IntKind.u64 t)) Tr.nil) none Tr.nil) (some (Value.func (Fn.yield l) (Array.mk []) (Array.mk []))) Tr.nil) [] A else kx 0 [(6, Value.bool false), (5, Value.int IntKind.u64 t)] (Tr.node (Tr.node (Tr.node Tr.nil (some (Value.int IntKind.u64 t)) Tr.nil) none Tr.nil) (some (Value.func (Fn.yield l) (Array.mk []) (Array.mk []))) Tr.nil) [] A := by kernel_rfl

theorem ebC (r : Mem) (l : Nat) (t : Int) (A : AW) (K : KS) : preK (SC r) 11 16 Es_2 3 (lvlT (SC r) tEs .nil 1 2) K [] (tEb l t) [] A =
    bif m_twG t then K [(13, Value.int IntKind.i64 (m_tw t)), (12, Value.int IntKind.u64 t), (11, Value.func (Fn.yield l) (Array.mk []) (Array.mk []))] (Tr.node (Tr.node (Tr.node Tr.nil (some (Value.int IntKind.u64 t)) Tr.nil) none Tr.nil) (some (Value.func (Fn.yield l) (Array.mk []) (Array.mk []))) Tr.nil) [] A else CR.fail 420 := by kernel_rfl

theorem ebD (r : Mem) (l : Nat) (t u : Int) (v : Bool) (A : AW) (fs : FnsC) (K : KS) (kx : Nat → KS) (kr : KS) : tailK (SC r) 11 16 Es_2 3 fs (run (SC r) 11 16 1 Es_3 fs none (run (SC r) 11 16 1 Es_4 fs none K kx kr) (fun j => match Nat.beq j 1 with | true => run (SC r) 11 16 1 Es_4 fs none K kx kr | false => kx j) kr) (.bool v) [(13, I u), (12, U t), (11, fY l)] (tEb l t) [] A =
    bif v then K [(10, Value.int IntKind.u64 (ibits BinOp.and IntKind.u64 t (IntKind.wrap IntKind.u64 (t - Int.ofNat 1)))), (9, Value.int IntKind.u64 (IntKind.wrap IntKind.u64 (t - Int.ofNat 1))), (8, Value.int IntKind.u64 t), (7, Value.int IntKind.u64 t)] (Tr.node (Tr.node (Tr.node Tr.nil (some (Value.int IntKind.u64 (ibits BinOp.and IntKind.u64 t (IntKind.wrap IntKind.u64 (t - Int.ofNat 1))))) Tr.nil) none Tr.nil) (some (Value.func (Fn.yield l) (Array.mk []) (Array.mk []))) Tr.nil) [] A else kr [(15, Value.bool true), (14, Value.bool false), (13, Value.int IntKind.i64 u), (12, Value.int IntKind.u64 t), (11, Value.func (Fn.yield l) (Array.mk []) (Array.mk []))] (Tr.node (Tr.node (Tr.node Tr.nil (some (Value.int IntKind.u64 t)) Tr.nil) none Tr.nil) (some (Value.func (Fn.yield l) (Array.mk []) (Array.mk []))) Tr.nil) [] A := by kernel_rfl

end Go.Proofs

/- A walk over the bits of a word, whatever is done in its rounds: what the call leaves. -/
namespace Go.Proofs
open Go Go.Ev Go.Num
set_option linter.unusedVariables false
set_option linter.unusedSimpArgs false
set_option maxRecDepth 100000

theorem skipTo {J : Nat → OO → Prop} {s : Nat} (hskip : ∀ v os, v < 16 → s.testBit v = false → J v os → J (v + 1) os) {os : OO} : ∀ d v, J v os → (∀ i, v ≤ i → i < v + d → s.testBit i = false) → v + d ≤ 16 → J (v + d) os
  | 0, v, h, _, _ => h
  | d + 1, v, h, hb, hd => by
    rw [show v + (d + 1) = v + 1 + d by omega]
    exact skipTo hskip d (v + 1) (hskip v os (by omega) (hb v (Nat.le_refl _) (by omega)) h) (fun i h1 h2 => hb i (by omega) (by omega)) (by omega)

theorem each_iter (r : Mem) (hm : ∀ b j u, tabM b j = some u → r b j = some u) {l p : Nat} {fl : List Fl} {s : Nat} (hs : s < 65536) {J : Nat → OO → Prop} {E : OO → Prop} {os0 : OO}
    (hbox : ∃ e f z, (mkA os0).heap.get p = some (.cells [U (s : Nat)] e f z))
    (hskip : ∀ v os, v < 16 → s.testBit v = false → J v os → J (v + 1) os)
    (hY : ∀ v os, v < 16 → s.testBit v = true → J v os → YOk (SC r) l [I (v : Nat)] (mkA os) fun w A' => ∃ os', Cn (mkA os0).next fl A' os' ∧ ((w = .bool true ∧ J (v + 1) os') ∨ (w = .bool false ∧ E os')))
    (hE : ∀ os, J 16 os → E os) (h0 : J 0 os0) (hl : oldV (mkA os0) (fY l) = true) :
    SOk (SC r) 53 [fY l, P0 p] (mkA os0) fun v A' => ∃ os, A' = mkA os ∧ E os := by
  obtain ⟨be, bf, bz, hbox⟩ := hbox
  refine callG (SC_ok r) (by kernel_rfl) ((bodySC r _).trans Es_eq) (nt := 16) (by kernel_rfl) (rs := []) (by kernel_rfl) 11 rfl fun γ W F k hw hF hro hfr => ?_
  have ht := TOk.nil (C := SC r)
  have hte := tEs_ok r hm
  have old : ∀ t : Nat, ∀ v, some v ∈ [some (fY l), some (U (t : Nat))] → oldV (mkA os0) v = true := fun t v hv => by
    simp only [List.mem_cons, Option.some.injEq, List.not_mem_nil, or_false] at hv
    rcases hv with rfl | rfl
    · exact hl
    · rfl
  refine Go.Ev.Reach.seq (Go.Ev.Reach.mono (Go.Ev.Reach.segP (kn := asks fun st => ∃ sx T, st = ⟨⟨sx, T⟩, [], mkA os0⟩ ∧ lvEs.map T.get = [some (fY l), some (U (s : Nat))]) (kx := fun _ _ _ _ _ => .fail 0) (kr := fun _ _ _ _ => .fail 0) (SC_ok r) ht (tm := .nil) (L := 1) (L' := 1) (d := 1) hF hro ?_) fun ex st hq => ?_)
  · have hn := ebA r l p (mkA os0)
    simp only [hbox, List.getElem?_cons_zero, show isI IntKind.u64 (U (s : Nat)) = true from rfl, show ofI (U (s : Nat)) = ((s : Nat) : Int) from rfl, cond_true] at hn
    exact (hn _ _ _ _).trans (qq_ok ⟨_, _, rfl, rfl⟩)
  · cases ex with
    | normal =>
      obtain ⟨sx0, T0, e, hT⟩ : ∃ sx T, st = ⟨⟨sx, T⟩, [], mkA os0⟩ ∧ lvEs.map T.get = [some (fY l), some (U (s : Nat))] := qq_use hq
      subst e
      refine Go.Ev.Reach.block (Go.Ev.Reach.loop (I := fun j st => ∃ v os, j = 16 - v ∧ v ≤ 16 ∧ J v os ∧ Ren (SC r) 11 16 γ W st ⟨⟨[], tEb l (hiN s v : Nat)⟩, [], mkA os⟩) (fun j st ⟨v, os, hj, hv, hJ, hren⟩ => Go.Ev.Reach.pre hren ?_) (j := 16) ⟨0, os0, rfl, by decide, h0, by
        rw [hi_zero]
        exact Ren.world hw (lv := lvEs) (vs := [some (fY l), some (U (s : Nat))]) hT (old _) (RenA.refl _)⟩)
      have hhi : hiN s v < 65536 := Nat.lt_of_le_of_lt (hi_le s v) hs
      refine Go.Ev.Reach.seq (Go.Ev.Reach.mono (Go.Ev.Reach.segP (kn := asks fun st => hiN s v ≠ 0 ∧ ∃ sx, st = ⟨⟨sx, tEb l (hiN s v : Nat)⟩, [], mkA os⟩) (kx := fun i => match i with | 0 => asks fun st => hiN s v = 0 ∧ ∃ sx T, st = ⟨⟨sx, T⟩, [], mkA os⟩ | _ => fun _ _ _ _ => .fail 0) (kr := fun _ _ _ _ => .fail 0) (SC_ok r) ht (tm := .nil) (L := 1) (L' := 1) (d := 1) hF hro ?_) fun ex st hq => ?_)
      · have hn := ebB r l (hiN s v : Nat) (mkA os)
        by_cases c : hiN s v = 0
        · have ne : (((hiN s v : Nat) : Int) != Int.ofNat 0) = false := by simp [c]
          simp only [ne, cond_false] at hn
          exact (hn _ _ _ _).trans (qq_ok ⟨c, _, _, rfl⟩)
        · have ne : (((hiN s v : Nat) : Int) != Int.ofNat 0) = true := by simp [c]
          simp only [ne, cond_true] at hn
          exact (hn _ _ _ _).trans (qq_ok ⟨c, _, rfl⟩)
      · cases ex with
        | exit i =>
          cases i with
          | zero =>
            obtain ⟨c, sx, T, e⟩ : hiN s v = 0 ∧ ∃ sx T, st = ⟨⟨sx, T⟩, [], mkA os⟩ := qq_use hq
            subst e
            have hE' : E os := hE os (by
              have := skipTo hskip (16 - v) v hJ (fun i h1 _ => hi_none c h1) (by omega)
              rwa [show v + (16 - v) = 16 by omega] at this)
            exact ⟨.inl rfl, _, .tuple ⟨[]⟩, mkA os, Ren.world hw (lv := []) (vs := []) rfl (fun v hv => nomatch hv) (RenA.refl _), rfl, os, rfl, hE'⟩
          | succ i => cases hq
        | normal =>
          obtain ⟨c, sx, e⟩ : hiN s v ≠ 0 ∧ ∃ sx, st = ⟨⟨sx, tEb l (hiN s v : Nat)⟩, [], mkA os⟩ := qq_use hq
          subst e
          obtain ⟨n1, n2, n3, n4, n5⟩ := hi_next (b := 64) (s := s) (v := v) (by omega) c
          have ht16 := tz16 hhi c
          have e6 : m_tw ((hiN s v : Nat) : Int) = ((tzN 64 (hiN s v) : Nat) : Int) := by unfold m_tw; rw [Int.toNat_natCast]
          have hJt : J (tzN 64 (hiN s v)) os := by
            have := skipTo hskip (tzN 64 (hiN s v) - v) v hJ (fun i h1 h2 => n4 i h1 (by omega)) (by omega)
            rwa [show v + (tzN 64 (hiN s v) - v) = tzN 64 (hiN s v) by omega] at this
          have e7 : ibits .and .u64 ((hiN s v : Nat) : Int) (IntKind.wrap .u64 (((hiN s v : Nat) : Int) - Int.ofNat 1)) = ((hiN s (tzN 64 (hiN s v) + 1) : Nat) : Int) := by
            have : IntKind.wrap .u64 (((hiN s v : Nat) : Int) - Int.ofNat 1) = ((hiN s v - 1 : Nat) : Int) := by rw [wrU]; simp; omega
            rw [this, (uO (by omega) (by omega)).2.1, n5]
          generalize htz : tzN 64 (hiN s v) = t at *
          let Pn : St → Prop := fun st => ∃ sx A', st = ⟨⟨sx, tEb l (hiN s (t + 1) : Nat)⟩, [], A'⟩ ∧ ∃ os', Cn (mkA os0).next fl A' os' ∧ J (t + 1) os'
          let Pr : St → Prop := fun st => ∃ sx T A', st = ⟨⟨sx, T⟩, [], A'⟩ ∧ ∃ os', Cn (mkA os0).next fl A' os' ∧ E os'
          refine Go.Ev.Reach.mono (Go.Ev.Reach.first (kn := asks Pn) (kx := fun _ _ _ _ _ => .fail 0) (kr := asks Pr) (SC_ok r) hte (tm := .nil) (L := 1) (L' := 1) (d := 2) hF hro (.seq (.block (.seq .here))) (Go.Ev.Reach.yieldK (SC_ok r) hF hte (tm := .nil) (L := 1) (d := 2) 3 (s1 := [(13, I (t : Nat)), (12, U (hiN s v : Nat)), (11, fY l)]) (b1 := tEb l (hiN s v : Nat)) (ms1 := []) (A1 := mkA os) (A2 := mkA os) (i := l) (args := [I (t : Nat)]) ?_ (by kernel_rfl) (hY t os ht16 n3 hJt) fun w A' hS => ?_)) fun ex st' hq => ?_
          · have hn := ebC r l (hiN s v : Nat) (mkA os)
            have c2 : m_twG ((hiN s v : Nat) : Int) = true := decide_eq_true ⟨by omega, by omega⟩
            simp only [c2, cond_true, e6] at hn
            exact (hn _).trans (qn_ok rfl)
          · obtain ⟨os', hcn, hv⟩ := hS
            rcases hv with ⟨rfl, hJ'⟩ | ⟨rfl, hE'⟩
            · have hn := ebD r l (hiN s v : Nat) (t : Nat) true A'
              simp only [cond_true, e7] at hn
              exact (hn _ _ _ _).trans (qq_ok ⟨_, _, rfl, os', hcn, hJ'⟩)
            · have hn := ebD r l (hiN s v : Nat) (t : Nat) false A'
              simp only [cond_false] at hn
              exact (hn _ _ _ _).trans (qq_ok ⟨_, _, _, rfl, os', hcn, hE'⟩)
          · cases ex with
            | normal =>
              obtain ⟨sx, A', e, os', hcn, hJ'⟩ : Pn st' := qq_use hq
              subst e
              exact ⟨16 - (t + 1), by omega, t + 1, os', rfl, by omega, hJ', Ren.world hw (lv := lvEs) (vs := [some (fY l), some (U (hiN s (t + 1) : Nat))]) rfl (old _) (hcn.ren hfr)⟩
            | ret =>
              obtain ⟨sx, T, A', e, os', hcn, hE'⟩ : Pr st' := qq_use hq
              subst e
              exact ⟨.inr rfl, _, .tuple ⟨[]⟩, mkA os', Ren.world hw (lv := []) (vs := []) rfl (fun v hv => nomatch hv) (hcn.ren hfr), rfl, os', rfl, hE'⟩
            | exit i => cases hq
            | _ => exact hq.elim
        | ret => cases hq
        | _ => exact hq.elim
    | exit i => cases hq
    | ret => cases hq
    | _ => exact hq.elim

end Go.Proofs

/- The program's words of neighbours are the reference's. -/
set_option linter.unusedVariables false
set_option linter.unusedSimpArgs false
namespace Go.Proofs
open Go Go.Ev Go.Num

theorem addB_nat (ws : List Nat) (i b : Nat) (hw : ∀ w ∈ ws, w < 65536) (hb : b < 16) : addB (ws.map fun (w : Nat) => (w : Int)) i (bit b) = (orN ws i b).map fun (w : Nat) => (w : Int) := by
  have e : (ws.map fun (w : Nat) => (w : Int)).getD i 0 = ((ws.getD i 0 : Nat) : Int) := by
    rw [List.getD_eq_getElem?_getD, List.getD_eq_getElem?_getD, List.getElem?_map]
    cases ws[i]? <;> rfl
  have e2 : bit b = ((2 ^ b : Nat) : Int) := by unfold bit; simp
  unfold addB orN orB
  rw [e, e2, or_nat (.inl rfl) (getD_lt hw i) (bit16 hb), List.map_set]

theorem nbz_nat (z : Nat → Int) {n : Int} (hn : n ≤ 16) : ∀ k, (∀ i, i < k → 0 ≤ ea z i ∧ ea z i < eb z i ∧ eb z i < n) → nbz z k = (nbN 16 z k).map fun (w : Nat) => (w : Int)
  | 0, _ => by simp [nbz, nbN]
  | k + 1, h => by
    obtain ⟨b1, b2, b3⟩ := h k (by omega)
    have hw := nbN_lt 16 z hn k fun i hi => h i (by omega)
    rw [nbz, nbN, nbz_nat z hn k fun i hi => h i (by omega), jnZ, jnN, addB_nat _ _ _ hw (by omega), addB_nat _ _ _ (orN_lt hw _ (by omega)) (by omega)]

/-- Fewer vertices: the same words. -/
theorem orN_take (ws : List Nat) (m i b : Nat) (hi : i < m) : (orN ws i b).take m = orN (ws.take m) i b := by
  unfold orN
  rw [List.take_set]
  congr 2
  rw [List.getD_eq_getElem?_getD, List.getD_eq_getElem?_getD, List.getElem?_take_of_lt hi]
theorem nbN_take (z : Nat → Int) {m : Nat} (hm : m ≤ 16) : ∀ k, (∀ i, i < k → 0 ≤ ea z i ∧ ea z i < eb z i ∧ eb z i < m) → (nbN 16 z k).take m = nbN m z k
  | 0, _ => by simp only [nbN, List.take_replicate]; congr 1; omega
  | k + 1, h => by
    obtain ⟨b1, b2, b3⟩ := h k (by omega)
    rw [nbN, nbN, jnN, jnN, orN_take _ _ _ _ (by omega), orN_take _ _ _ _ (by omega), nbN_take z hm k fun i hi => h i (by omega)]

end Go.Proofs

