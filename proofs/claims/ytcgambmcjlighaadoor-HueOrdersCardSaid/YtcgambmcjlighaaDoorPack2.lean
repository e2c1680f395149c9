/- What the claim is proved with, part 2: the evaluator and the contracts of the calls. -/
import Derived.Test.YtcgambmcjlighaaDoorPack1
import Derived.Test.YtcgambmcjlighaaDoorEvRd
import Derived.Test.YtcgambmcjlighaaDoorEvCanR
import Derived.Test.YtcgambmcjlighaaDoorEvCanP
import Derived.Test.YtcgambmcjlighaaDoorEvOwn
/- Words as sets. -/
namespace Go.Num
open Go.Proofs

def anN (a b : Nat) : Nat := (a &&& b) ^^^ a
theorem an_zero {a b : Nat} : anN a b = 0 ↔ a &&& b = a := by
 unfold anN
 constructor
 ·intro h
  apply Nat.eq_of_testBit_eq
  intro i
  have := congrArg (fun x => Nat.testBit x i) h
  simp only [Nat.testBit_and, Nat.testBit_xor, Nat.zero_testBit] at this ⊢
  revert this
  cases a.testBit i <;> cases b.testBit i <;> simp
 ·intro h; rw [h]; exact Nat.xor_self a
theorem sub_or {a b y : Nat} : (a ||| b) &&& y = a ||| b ↔ a &&& y = a ∧ b &&& y = b := by
 constructor
 ·intro h
  constructor <;>
  ·apply Nat.eq_of_testBit_eq
   intro i
   have := congrArg (fun x => Nat.testBit x i) h
   simp only [Nat.testBit_and, Nat.testBit_or] at this ⊢
   revert this
   cases a.testBit i <;> cases b.testBit i <;> cases y.testBit i <;> simp
 ·rintro ⟨h1, h2⟩
  apply Nat.eq_of_testBit_eq; intro i
  have h3 := congrArg (fun x => Nat.testBit x i) h1
  have h4 := congrArg (fun x => Nat.testBit x i) h2
  simp only [Nat.testBit_and, Nat.testBit_or] at h3 h4 ⊢
  revert h3 h4
  cases a.testBit i <;> cases b.testBit i <;> cases y.testBit i <;> simp
theorem an_or {a b y : Nat} : anN (a ||| b) y = 0 ↔ anN a y = 0 ∧ anN b y = 0 := by rw [an_zero, an_zero, an_zero, sub_or]
theorem an_all {a m : Nat} : anN a (2 ^ m - 1) = 0 ↔ a < 2 ^ m := by
 rw [an_zero, Nat.and_two_pow_sub_one_eq_mod]
 constructor
 ·intro h
  have := Nat.mod_lt a (Nat.two_pow_pos m)
  omega
 ·exact Nat.mod_eq_of_lt
theorem an_lt {a b k : Nat} (h : a < 2 ^ k) : anN a b < 2 ^ k := Nat.xor_lt_two_pow (Nat.lt_of_le_of_lt Nat.and_le_left h) h
theorem all_lt (m : Nat) : 2 ^ m - 1 < 2 ^ m := by have := Nat.two_pow_pos m; omega
theorem an_in {a x m : Nat} (h : anN a (anN (2 ^ m - 1) x) = 0) : a < 2 ^ m := by
 rw [an_zero] at h
 have h1 : a ≤ anN (2 ^ m - 1) x := by rw [← h]; exact Nat.and_le_right
 have := an_lt (b := x) (all_lt m)
 omega

theorem btN_high {s m k : Nat} (h : s < 2 ^ m) (hk : m ≤ k) : btN s k = false := by
 have : s < 2 ^ k := Nat.lt_of_lt_of_le h (Nat.pow_le_pow_right (by decide) hk)
 unfold btN
 rw [Nat.div_eq_of_lt this]
 rfl
theorem orN_get {ws : List Nat} {u v i : Nat} (hu : u < ws.length) : (orN ws u v).getD i 0 = if u = i then ws.getD u 0 ||| 2 ^ v else ws.getD i 0 := by
 unfold orN
 simp only [List.getD_eq_getElem?_getD, List.getElem?_set]
 by_cases c : u = i
 ·subst c; rw [if_pos rfl, if_pos hu, if_pos rfl]; rfl
 ·rw [if_neg c, if_neg c]
theorem nb_ext {M m : Nat} (hmM : m ≤ M) (z : Nat → Int) : ∀ k, (∀ i, i < k → 0 ≤ ea z i ∧ ea z i < eb z i ∧ eb z i < m) → ∀ i, i < m → (nbN M z k).getD i 0 = (nbN m z k).getD i 0
 | 0, _, i, hi => by
  rw [nbN, nbN, List.getD_eq_getElem?_getD, List.getD_eq_getElem?_getD, List.getElem?_replicate_of_lt (by omega), List.getElem?_replicate_of_lt hi]
 | k + 1, h, i, hi => by
  have ih := nb_ext hmM z k fun i hi => h i (by omega)
  obtain ⟨h1, h2, h3⟩ := h k (by omega)
  have hx : (ea z k).toNat < m := by omega
  have hy : (eb z k).toNat < m := by omega
  have l1 := nbN_len M z k
  have l2 := nbN_len m z k
  have st : ∀ (ws vs : List Nat) (x y : Nat), x < m → m ≤ ws.length → m ≤ vs.length → (∀ i, i < m → ws.getD i 0 = vs.getD i 0) → ∀ i, i < m → (orN ws x y).getD i 0 = (orN vs x y).getD i 0 := fun ws vs x y hx h1 h2 hh i hi => by
   rw [orN_get (ws := ws) (by omega), orN_get (ws := vs) (by omega), hh x hx, hh i hi]
  rw [nbN, nbN, jnN, jnN]
  exact st _ _ _ _ hy (by rw [orN_len]; omega) (by rw [orN_len]; omega) (st _ _ _ _ hx (by omega) (by omega) ih) i hi
theorem bt_bit (s k : Nat) : btN s k = s.testBit k := by
 unfold btN
 rw [Nat.testBit_eq_decide_div_mod_eq, Bool.eq_iff_iff]
 simp
theorem an_bit (a b i : Nat) : (anN a b).testBit i = (a.testBit i && !b.testBit i) := by
 unfold anN
 rw [Nat.testBit_xor, Nat.testBit_and]
 cases a.testBit i <;> cases b.testBit i <;> rfl
theorem and_ne {a b : Nat} : a &&& b ≠ 0 ↔ ∃ v, a.testBit v = true ∧ b.testBit v = true := by
 constructor
 ·intro h
  obtain ⟨v, hv⟩ := Nat.exists_testBit_of_ne_zero h
  rw [Nat.testBit_and, Bool.and_eq_true] at hv
  exact ⟨v, hv⟩
 ·rintro ⟨v, h1, h2⟩ h
  have := congrArg (fun x => Nat.testBit x v) h
  simp only [Nat.testBit_and, h1, h2, Nat.zero_testBit] at this
  exact nomatch this
theorem and_zero {a b : Nat} : a &&& b = 0 ↔ ∀ v, a.testBit v = true → b.testBit v = false := by
 constructor
 ·intro h v h1
  cases h2 : b.testBit v with
  | false => rfl
  | true => exact absurd h (and_ne.2 ⟨v, h1, h2⟩)
 ·intro h
  by_cases c : a &&& b = 0
  ·exact c
  ·obtain ⟨v, h1, h2⟩ := and_ne.1 c
   rw [h v h1] at h2
   exact nomatch h2
theorem in_bit {a b : Nat} : a &&& b = a ↔ ∀ v, a.testBit v = true → b.testBit v = true := by
 constructor
 ·intro h v h1
  rw [← h, Nat.testBit_and, Bool.and_eq_true] at h1
  exact h1.2
 ·intro h
  apply Nat.eq_of_testBit_eq
  intro i
  rw [Nat.testBit_and]
  cases ha : a.testBit i with
  | false => rfl
  | true => rw [h i ha]; rfl

structure Nbs (w : Nat → Nat) (m : Nat) : Prop where
 low : ∀ i v, (w i).testBit v = true → i < m ∧ v < m
 sym : ∀ i v, (w i).testBit v = true → (w v).testBit i = true

theorem jn_bit {ws : List Nat} {a b : Nat} (ha : a < ws.length) (hb : b < ws.length) (i v : Nat) : ((jnN ws a b).getD i 0).testBit v = ((ws.getD i 0).testBit v || (decide (i = a ∧ v = b) || decide (i = b ∧ v = a))) := by
 have p2 : ∀ a v : Nat, (2 ^ a).testBit v = decide (v = a) := fun a v => Nat.testBit_two_pow.trans (decide_eq_decide.2 eq_comm)
 have g : ∀ i, (orN ws a b).getD i 0 = if a = i then ws.getD a 0 ||| 2 ^ b else ws.getD i 0 := fun i => orN_get ha
 unfold jnN
 rw [orN_get (by rw [orN_len]; exact hb)]
 simp only [g]
 by_cases c1 : b = i
 ·subst c1
  rw [if_pos rfl]
  by_cases c2 : a = b
  ·subst c2
   rw [if_pos rfl, Nat.testBit_or, Nat.testBit_or, p2, Bool.eq_iff_iff]
   simp
  ·rw [if_neg c2, Nat.testBit_or, p2, Bool.eq_iff_iff]
   have : ¬ b = a := fun e => c2 e.symm
   simp [this]
 ·rw [if_neg c1]
  have c1' : ¬ i = b := fun e => c1 e.symm
  by_cases c2 : a = i
  ·subst c2
   rw [if_pos rfl, Nat.testBit_or, p2, Bool.eq_iff_iff]
   simp [c1']
  ·have c2' : ¬ i = a := fun e => c2 e.symm
   rw [if_neg c2, Bool.eq_iff_iff]
   simp [c1', c2']

theorem nb_nbs {M m : Nat} (hmM : m ≤ M) (z : Nat → Int) : ∀ k, (∀ i, i < k → 0 ≤ ea z i ∧ ea z i < eb z i ∧ eb z i < m) → Nbs (fun i => (nbN M z k).getD i 0) m
 | 0, _ => by
  have h0 : ∀ i, (nbN M z 0).getD i 0 = 0 := fun i => by
   rw [nbN, List.getD_eq_getElem?_getD, List.getElem?_replicate]
   split <;> rfl
  refine ⟨fun i v h => ?_, fun i v h => ?_⟩ <;> rw [h0, Nat.zero_testBit] at h <;> exact nomatch h
 | k + 1, h => by
  obtain ⟨b1, b2, b3⟩ := h k (by omega)
  have ih := nb_nbs hmM z k fun i hi => h i (by omega)
  have hl : (nbN M z k).length = M := nbN_len M z k
  have hb := jn_bit (ws := nbN M z k) (a := (ea z k).toNat) (b := (eb z k).toNat) (by omega) (by omega)
  refine ⟨fun i v hv => ?_, fun i v hv => ?_⟩
  ·rw [nbN, hb, Bool.or_eq_true, Bool.or_eq_true, decide_eq_true_eq, decide_eq_true_eq] at hv
   rcases hv with hv | hv | hv
   ·exact ih.low i v hv
   ·omega
   ·omega
  ·rw [nbN, hb, Bool.or_eq_true, Bool.or_eq_true, decide_eq_true_eq, decide_eq_true_eq] at hv ⊢
   rcases hv with hv | hv | hv
   ·exact .inl (ih.sym i v hv)
   ·exact .inr (.inr ⟨hv.2, hv.1⟩)
   ·exact .inr (.inl ⟨hv.2, hv.1⟩)

theorem high {x m i : Nat} (h : x < 2 ^ m) (hi : m ≤ i) : x.testBit i = false := Nat.testBit_lt_two_pow (Nat.lt_of_lt_of_le h (Nat.pow_le_pow_right (by decide) hi))

theorem an_an {A x : Nat} (h : x &&& A = x) : anN A (anN A x) = x := by
 apply Nat.eq_of_testBit_eq
 intro i
 rw [an_bit, an_bit]
 have := in_bit.1 h i
 revert this
 cases x.testBit i <;> cases A.testBit i <;> simp
theorem an_sub (A x : Nat) : anN A x &&& A = anN A x := by
 rw [in_bit]
 intro v h
 rw [an_bit, Bool.and_eq_true] at h
 exact h.1
theorem sub_le {a b : Nat} (h : a &&& b = a) : a ≤ b := by rw [← h]; exact Nat.and_le_right
theorem lt_sub {x m : Nat} (h : x < 2 ^ m) : x &&& (2 ^ m - 1) = x := by rw [Nat.and_two_pow_sub_one_eq_mod, Nat.mod_eq_of_lt h]

theorem and_half (a b : Nat) : (a &&& b) / 2 = (a / 2) &&& (b / 2) := Nat.and_div_two
theorem and_odd (a b : Nat) : (a &&& b) % 2 = 1 ↔ a % 2 = 1 ∧ b % 2 = 1 := Nat.and_mod_two_eq_one

theorem in_half {t s : Nat} (h : t &&& s = t) : (t / 2) &&& (s / 2) = t / 2 := by rw [← and_half, h]
theorem in_odd {t s : Nat} (h : t &&& s = t) (ht : t % 2 = 1) : s % 2 = 1 := by
 rw [← h, and_odd] at ht
 exact ht.2


def tzN : Nat → Nat → Nat
 | 0, _ => 0
 | f + 1, s => if s % 2 = 1 then 0 else tzN f (s / 2) + 1

theorem neg_and : ∀ b x, x < 2 ^ b → (2 ^ b - 1 - x) &&& x = 0
 | 0, x, h => by
  obtain rfl : x = 0 := by simpa using h
  exact Nat.and_zero _
 | b + 1, x, h => by
  have hp : 2 ^ (b + 1) = 2 * 2 ^ b := by rw [Nat.pow_succ]; omega
  have ih := neg_and b (x / 2) (by omega)
  generalize hX : 2 ^ (b + 1) - 1 - x = X
  have h1 := and_half X x
  have h2 := and_odd X x
  rw [show X / 2 = 2 ^ b - 1 - x / 2 by omega, ih] at h1
  generalize X &&& x = n at h1 h2
  have : ¬ n % 2 = 1 := fun c => by have := h2.1 c; omega
  omega
theorem low_pow : ∀ b x, x < 2 ^ b → x ≠ 0 → x &&& (2 ^ b - x) = 2 ^ tzN b x
 | 0, x, h, h0 => by exfalso; simp at h; omega
 | b + 1, x, h, h0 => by
  have hp : 2 ^ (b + 1) = 2 * 2 ^ b := by rw [Nat.pow_succ]; omega
  generalize hX : 2 ^ (b + 1) - x = X
  have h1 := and_half x X
  have h2 := and_odd x X
  rw [tzN]
  by_cases c : x % 2 = 1
  ·rw [if_pos c]
   have := neg_and b (x / 2) (by omega)
   rw [show X / 2 = 2 ^ b - 1 - x / 2 by omega, Nat.and_comm (x / 2), this] at h1
   have := h2.2 ⟨c, by omega⟩
   omega
  ·rw [if_neg c, Nat.pow_succ]
   have := low_pow b (x / 2) (by omega) (by omega)
   rw [show X / 2 = 2 ^ b - x / 2 by omega, this] at h1
   have : ¬ (x &&& X) % 2 = 1 := fun c => by have := h2.1 c; omega
   omega
theorem tz_bit : ∀ b x, x < 2 ^ b → x ≠ 0 → tzN b x < b ∧ x.testBit (tzN b x) = true ∧ ∀ i, i < tzN b x → x.testBit i = false
 | 0, x, h, h0 => by exfalso; simp at h; omega
 | b + 1, x, h, h0 => by
  have hp : 2 ^ (b + 1) = 2 * 2 ^ b := by rw [Nat.pow_succ]; omega
  rw [tzN]
  by_cases c : x % 2 = 1
  ·rw [if_pos c]
   exact ⟨by omega, by rw [Nat.testBit_zero]; simpa using c, fun i hi => absurd hi (by omega)⟩
  ·rw [if_neg c]
   obtain ⟨h1, h2, h3⟩ := tz_bit b (x / 2) (by omega) (by omega)
   refine ⟨by omega, by rw [Nat.testBit_succ]; exact h2, fun i hi => ?_⟩
   cases i with
   | zero => rw [Nat.testBit_zero]; simpa using c
   | succ i => rw [Nat.testBit_succ]; exact h3 i (by omega)
theorem clr_bit : ∀ b x, x < 2 ^ b → x ≠ 0 → ∀ i, (x &&& (x - 1)).testBit i = (x.testBit i && !decide (i = tzN b x))
 | 0, x, h, h0, i => by exfalso; simp at h; omega
 | b + 1, x, h, h0, i => by
  have hp : 2 ^ (b + 1) = 2 * 2 ^ b := by rw [Nat.pow_succ]; omega
  rw [tzN, Nat.testBit_and]
  by_cases c : x % 2 = 1
  ·rw [if_pos c]
   cases i with
   | zero =>
    rw [Nat.testBit_zero (x - 1), show ((x - 1) % 2) = 0 by omega]
    simp
   | succ i =>
    rw [Nat.testBit_succ, Nat.testBit_succ, show (x - 1) / 2 = x / 2 by omega]
    simp
  ·rw [if_neg c]
   have ih := clr_bit b (x / 2) (by omega) (by omega)
   cases i with
   | zero =>
    rw [Nat.testBit_zero x, show x % 2 = 0 by omega]
    simp
   | succ i =>
    rw [Nat.testBit_succ, Nat.testBit_succ, show (x - 1) / 2 = x / 2 - 1 by omega]
    have := ih i
    rw [Nat.testBit_and] at this
    rw [this]
    congr 2
    simp

def hiN (s v : Nat) : Nat := s / 2 ^ v * 2 ^ v
theorem hi_bit (s v i : Nat) : (hiN s v).testBit i = (decide (v ≤ i) && s.testBit i) := by
 unfold hiN
 rw [Nat.mul_comm, Nat.testBit_two_pow_mul]
 by_cases c : v ≤ i
 ·rw [decide_eq_true c, Nat.testBit_div_two_pow, Nat.sub_add_cancel c]
 ·simp [c]
theorem hi_le (s v : Nat) : hiN s v ≤ s := Nat.div_mul_le_self s (2 ^ v)
theorem hi_zero (s : Nat) : hiN s 0 = s := by unfold hiN; simp
theorem hi_next {b s v : Nat} (h : s < 2 ^ b) (h0 : hiN s v ≠ 0) : v ≤ tzN b (hiN s v) ∧ tzN b (hiN s v) < b ∧ s.testBit (tzN b (hiN s v)) = true ∧ (∀ i, v ≤ i → i < tzN b (hiN s v) → s.testBit i = false) ∧ hiN s v &&& (hiN s v - 1) = hiN s (tzN b (hiN s v) + 1) := by
 have hh : hiN s v < 2 ^ b := Nat.lt_of_le_of_lt (hi_le s v) h
 obtain ⟨h1, h2, h3⟩ := tz_bit b _ hh h0
 have h4 := clr_bit b _ hh h0
 generalize tzN b (hiN s v) = t at h1 h2 h3 h4
 rw [hi_bit, Bool.and_eq_true, decide_eq_true_eq] at h2
 refine ⟨h2.1, h1, h2.2, fun i hv hi => ?_, ?_⟩
 ·have := h3 i hi
  rw [hi_bit, decide_eq_true hv] at this
  simpa using this
 ·apply Nat.eq_of_testBit_eq
  intro i
  rw [h4, hi_bit, hi_bit]
  by_cases c : t + 1 ≤ i
  ·rw [decide_eq_true c, decide_eq_true (show v ≤ i by omega), decide_eq_false (show ¬ i = t by omega)]
   simp
  ·rw [decide_eq_false c, Bool.false_and]
   by_cases e : i = t
   ·simp [e]
   ·have := h3 i (by omega)
    rw [hi_bit] at this
    rw [this]; rfl
theorem hi_none {s v : Nat} (h : hiN s v = 0) {i : Nat} (hi : v ≤ i) : s.testBit i = false := by
 have := hi_bit s v i
 rw [h, Nat.zero_testBit, decide_eq_true hi] at this
 simpa using this.symm

end Go.Num
namespace Go.Proofs
open Go Go.Ev Go.Num
set_option linter.unusedVariables false
set_option linter.unusedSimpArgs false
set_option maxRecDepth 100000

theorem wrapU' {a : Nat} (h : a < 18446744073709551616) : IntKind.wrap .u64 (a : Int) = (a : Int) := by rw [wrU]; omega
theorem bvU (a : Nat) (h : a < 18446744073709551616) : (BitVec.ofInt 64 (a : Int)).toNat = a := by
 rw [BitVec.ofInt_natCast, BitVec.toNat_ofNat]
 exact Nat.mod_eq_of_lt h
theorem ibO {k : IntKind} (hk : k = .u64 ∨ k = .i64) {a b : Nat} (ha : a < 18446744073709551616) (hb : b < 18446744073709551616) : ibits .or k (a : Int) (b : Int) = k.wrap ((a ||| b : Nat) : Int) ∧ ibits .and k (a : Int) (b : Int) = k.wrap ((a &&& b : Nat) : Int) ∧ ibits .andNot k (a : Int) (b : Int) = k.wrap ((anN a b : Nat) : Int) := by
 have hx : ∀ x y : BitVec 64, x &&& ~~~y = (x &&& y) ^^^ x := fun x y => by
  ext i hi
  simp
  cases x[i] <;> cases y[i] <;> rfl
 have e1 : (BitVec.ofInt 64 (a : Int) ||| BitVec.ofInt 64 (b : Int)).toNat = a ||| b := by rw [BitVec.toNat_or, bvU a ha, bvU b hb]
 have e2 : (BitVec.ofInt 64 (a : Int) &&& BitVec.ofInt 64 (b : Int)).toNat = a &&& b := by rw [BitVec.toNat_and, bvU a ha, bvU b hb]
 have e3 : (BitVec.ofInt 64 (a : Int) &&& ~~~(BitVec.ofInt 64 (b : Int))).toNat = anN a b := by rw [hx, BitVec.toNat_xor, BitVec.toNat_and, bvU a ha, bvU b hb]; rfl
 rcases hk with rfl | rfl
 ·refine ⟨?_, ?_, ?_⟩
  ·show IntKind.wrap .u64 ((BitVec.ofInt 64 (a : Int) ||| BitVec.ofInt 64 (b : Int)).toNat : Int) = _
   rw [e1]
  ·show IntKind.wrap .u64 ((BitVec.ofInt 64 (a : Int) &&& BitVec.ofInt 64 (b : Int)).toNat : Int) = _
   rw [e2]
  ·show IntKind.wrap .u64 ((BitVec.ofInt 64 (a : Int) &&& ~~~(BitVec.ofInt 64 (b : Int))).toNat : Int) = _
   rw [e3]
 ·refine ⟨?_, ?_, ?_⟩
  ·show IntKind.wrap .i64 ((BitVec.ofInt 64 (a : Int) ||| BitVec.ofInt 64 (b : Int)).toNat : Int) = _
   rw [e1]
  ·show IntKind.wrap .i64 ((BitVec.ofInt 64 (a : Int) &&& BitVec.ofInt 64 (b : Int)).toNat : Int) = _
   rw [e2]
  ·show IntKind.wrap .i64 ((BitVec.ofInt 64 (a : Int) &&& ~~~(BitVec.ofInt 64 (b : Int))).toNat : Int) = _
   rw [e3]
theorem uO {a b : Nat} (ha : a < 18446744073709551616) (hb : b < 18446744073709551616) : ibits .or .u64 (a : Int) (b : Int) = ((a ||| b : Nat) : Int) ∧ ibits .and .u64 (a : Int) (b : Int) = ((a &&& b : Nat) : Int) ∧ ibits .andNot .u64 (a : Int) (b : Int) = ((anN a b : Nat) : Int) := by
 have h64 : (18446744073709551616 : Nat) = 2 ^ 64 := by decide
 obtain ⟨h1, h2, h3⟩ := ibO (.inl rfl) ha hb
 refine ⟨h1.trans (wrapU' ?_), h2.trans (wrapU' ?_), h3.trans (wrapU' ?_)⟩
 ·rw [h64] at *; exact Nat.or_lt_two_pow ha hb
 ·rw [h64] at *; exact Nat.and_lt_two_pow _ hb
 ·rw [h64] at *; exact an_lt ha
theorem iO {a b : Nat} (ha : a < 65536) (hb : b < 65536) : ibits .or .i64 (a : Int) (b : Int) = ((a ||| b : Nat) : Int) ∧ ibits .and .i64 (a : Int) (b : Int) = ((a &&& b : Nat) : Int) ∧ ibits .andNot .i64 (a : Int) (b : Int) = ((anN a b : Nat) : Int) := by
 obtain ⟨h1, h2, h3⟩ := ibO (.inr rfl) (show a < 18446744073709551616 by omega) (show b < 18446744073709551616 by omega)
 have g1 : a ||| b < 65536 := or16 ha hb
 have g2 : a &&& b < 65536 := Nat.and_lt_two_pow (n := 16) _ hb
 have g3 : anN a b < 65536 := an_lt (k := 16) ha
 exact ⟨h1.trans (wrI (by omega)), h2.trans (wrI (by omega)), h3.trans (wrI (by omega))⟩

def rgA : Code → Code
 | .rangeFunc _ _ a _ => a
 | c => c
def rgB : Code → Code
 | .rangeFunc _ _ _ b => b
 | c => c
def scB : Code → Code
 | .scope c => c
 | c => c
abbrev fY (l : Nat) : Value := .func (.yield l) ⟨[]⟩ ⟨[]⟩
def m_twG (s : Int) : Bool := decide (1 ≤ s ∧ s < 65536)
def m_tw (s : Int) : Int := (tzN 64 s.toNat : Nat)
def eTz : Ent := eU1 m_twG fun x => I (m_tw x)
def tEs : Tbl := tcons 101 eTz fun _ => none

theorem tzA (r : Mem) (s : Int) : (lvlT (SC r) (fun _ => none) .nil 2 4).call 101 [U s] emptyA fin =
    bif s == Int.ofNat 0 then .ret (I (Int.ofNat 64)) (AW.mk 0 .nil .nil) else bif decide (0 ≤ Int.fdiv (m_mulU (ibits BinOp.and IntKind.u64 s (IntKind.wrap .u64 (Int.ofNat 0 - s))) (Int.ofNat 285870213051353865)) (Int.ofNat 288230376151711744)) then bif Nat.blt (Int.toNat (Int.fdiv (m_mulU (ibits BinOp.and IntKind.u64 s (IntKind.wrap .u64 (Int.ofNat 0 - s))) (Int.ofNat 285870213051353865)) (Int.ofNat 288230376151711744))) 64 then Option.casesOn (r 0 (Nat.add 0 (Nat.mul (Int.toNat (Int.fdiv (m_mulU (ibits BinOp.and IntKind.u64 s (IntKind.wrap .u64 (Int.ofNat 0 - s))) (Int.ofNat 285870213051353865)) (Int.ofNat 288230376151711744))) 1))) (.fail 423) fun val => bif isI IntKind.u8 val then .ret (I (IntKind.wrap .i64 (ofI val))) (AW.mk 0 .nil .nil) else .fail 420 else .fail 420 else .fail 420 := by kernel_rfl

end Go.Proofs

/- Orders and cores, as numbers. -/
set_option linter.unusedVariables false
set_option linter.unusedSimpArgs false
namespace Go.Num
open Go.Proofs

theorem tz_16 {s : Nat} (h : s < 65536) (h0 : s ≠ 0) : tzN 64 s < 16 := by
 obtain ⟨_, h2, _⟩ := tz_bit 64 s (by omega) h0
 rcases Nat.lt_or_ge (tzN 64 s) 16 with c | c
 ·exact c
 ·rw [high (m := 16) (by omega) c] at h2
  exact nomatch h2

def eN (w : Nat → Nat) (s v : Nat) : Nat := popN 16 (w v &&& s)
def bsN (w : Nat → Nat) (s : Nat) : Nat → Nat
 | 0 => tzN 64 s
 | v + 1 => if s.testBit v = true ∧ eN w s v ≤ eN w s (bsN w s v) then v else bsN w s v
def loN (w : Nat → Nat) (s : Nat) : Nat := bsN w s 16
def leN (w : Nat → Nat) (m : Nat) : Nat → Nat
 | 0 => 2 ^ m - 1
 | k + 1 => anN (leN w m k) (2 ^ loN w (leN w m k))
def orL (w : Nat → Nat) (m : Nat) : Nat → List Nat
 | 0 => []
 | k + 1 => loN w (leN w m k) :: orL w m k
def lsN (w : Nat → Nat) (m : Nat) : Nat → Nat
 | 0 => 0
 | k + 1 => max (lsN w m k) (eN w (leN w m k) (loN w (leN w m k)))

theorem orL_len (w : Nat → Nat) (m : Nat) : ∀ k, (orL w m k).length = k
 | 0 => rfl
 | k + 1 => by rw [orL, List.length_cons, orL_len w m k]
theorem eN_le (w : Nat → Nat) (s v : Nat) : eN w s v ≤ 16 := popN_le 16 _
theorem bs_in {w : Nat → Nat} {s : Nat} (hs : s < 65536) (h0 : s ≠ 0) : ∀ v, v ≤ 16 → bsN w s v < 16 ∧ s.testBit (bsN w s v) = true
 | 0, _ => ⟨tz_16 hs h0, (tz_bit 64 s (by omega) h0).2.1⟩
 | v + 1, h => by
  rw [bsN]
  split
  ·rename_i c; exact ⟨by omega, c.1⟩
  ·exact bs_in hs h0 v (by omega)
theorem lo_in {w : Nat → Nat} {s : Nat} (hs : s < 65536) (h0 : s ≠ 0) : loN w s < 16 ∧ s.testBit (loN w s) = true := bs_in hs h0 16 (Nat.le_refl _)
theorem bs_tz {w : Nat → Nat} {s : Nat} (hs : s < 65536) (h0 : s ≠ 0) : ∀ v, v ≤ tzN 64 s → bsN w s v = tzN 64 s
 | 0, _ => rfl
 | v + 1, h => by
  rw [bsN, if_neg, bs_tz hs h0 v (by omega)]
  rintro ⟨c, _⟩
  rw [(tz_bit 64 s (by omega) h0).2.2 v (by omega)] at c
  exact nomatch c
theorem bs_tz1 {w : Nat → Nat} {s : Nat} (hs : s < 65536) (h0 : s ≠ 0) : bsN w s (tzN 64 s + 1) = tzN 64 s := by
 rw [bsN, bs_tz hs h0 _ (Nat.le_refl _)]
 split <;> rfl
theorem bs_end {w : Nat → Nat} {s m : Nat} (hs : s < 2 ^ m) : ∀ d, bsN w s (m + d) = bsN w s m
 | 0 => rfl
 | d + 1 => by
  rw [show m + (d + 1) = m + d + 1 by omega, bsN, if_neg, bs_end hs d]
  rintro ⟨c, _⟩
  rw [high hs (by omega)] at c
  exact nomatch c

def cbN (s : Nat) : Nat → Nat
 | 0 => 0
 | k + 1 => cbN s k + if s.testBit k = true then 1 else 0
theorem cb_zero {s : Nat} : ∀ m, cbN s m = 0 → ∀ i, i < m → s.testBit i = false
 | 0, _, i, hi => absurd hi (by omega)
 | m + 1, h, i, hi => by
  rw [cbN] at h
  by_cases c : i = m
  ·subst c
   cases hb : s.testBit i with
   | false => rfl
   | true => rw [hb] at h; simp at h
  ·exact cb_zero m (by omega) i (by omega)
theorem cb_out {s v : Nat} : ∀ m, m ≤ v → cbN (anN s (2 ^ v)) m = cbN s m
 | 0, _ => rfl
 | m + 1, h => by
  rw [cbN, cbN, cb_out m (by omega), an_bit, Nat.testBit_two_pow, decide_eq_false (show ¬ v = m by omega)]
  simp
theorem cb_an {s v : Nat} (hb : s.testBit v = true) : ∀ m, v < m → cbN (anN s (2 ^ v)) m + 1 = cbN s m
 | 0, h => absurd h (by omega)
 | m + 1, h => by
  rw [cbN, cbN, an_bit, Nat.testBit_two_pow]
  by_cases c : v = m
  ·subst c
   rw [cb_out v (Nat.le_refl _), hb]
   simp
  ·rw [decide_eq_false c]
   have := cb_an hb m (by omega)
   simp only [Bool.not_false, Bool.and_true]
   omega
theorem cb_all (m : Nat) : ∀ k, k ≤ m → cbN (2 ^ m - 1) k = k
 | 0, _ => rfl
 | k + 1, h => by
  rw [cbN, cb_all m k (by omega), Nat.testBit_two_pow_sub_one, decide_eq_true (show k < m by omega)]
  simp

theorem le_cnt {w : Nat → Nat} {m : Nat} (hm : m ≤ 16) : ∀ k, k ≤ m → leN w m k < 2 ^ m ∧ cbN (leN w m k) m + k = m
 | 0, _ => ⟨all_lt m, by rw [leN, cb_all m m (Nat.le_refl _)]; rfl⟩
 | k + 1, h => by
  obtain ⟨h1, h2⟩ := le_cnt (w := w) hm k (by omega)
  have hA : 2 ^ m ≤ 65536 := Nat.pow_le_pow_right (n := 2) (by decide) hm
  have h0 : leN w m k ≠ 0 := fun e => by
   rw [e] at h2
   have : ∀ m, cbN 0 m = 0 := fun m => by
    induction m with
    | zero => rfl
    | succ m ih => rw [cbN, ih, Nat.zero_testBit]; rfl
   rw [this] at h2
   omega
  obtain ⟨b1, b2⟩ := lo_in (w := w) (s := leN w m k) (by omega) h0
  have b3 : loN w (leN w m k) < m := by
   rcases Nat.lt_or_ge (loN w (leN w m k)) m with c | c
   ·exact c
   ·rw [high h1 c] at b2
    exact nomatch b2
  refine ⟨an_lt h1, ?_⟩
  have := cb_an b2 m b3
  rw [leN]
  omega
theorem le_ne {w : Nat → Nat} {m : Nat} (hm : m ≤ 16) {k : Nat} (h : k < m) : leN w m k ≠ 0 := fun e => by
 have h2 := (le_cnt (w := w) hm k (by omega)).2
 rw [e] at h2
 have : ∀ m, cbN 0 m = 0 := fun m => by
  induction m with
  | zero => rfl
  | succ m ih => rw [cbN, ih, Nat.zero_testBit]; rfl
 rw [this] at h2
 omega
theorem le_end {w : Nat → Nat} {m : Nat} (hm : m ≤ 16) : leN w m m = 0 := by
 obtain ⟨h1, h2⟩ := le_cnt (w := w) hm m (Nat.le_refl _)
 have h3 := cb_zero m (show cbN (leN w m m) m = 0 by omega)
 apply Nat.eq_of_testBit_eq
 intro i
 rw [Nat.zero_testBit]
 rcases Nat.lt_or_ge i m with c | c
 ·exact h3 i c
 ·exact high h1 c
theorem le_lt {w : Nat → Nat} {m : Nat} (hm : m ≤ 16) : ∀ k, leN w m k < 2 ^ m
 | 0 => all_lt m
 | k + 1 => an_lt (le_lt hm k)
theorem lo_m {w : Nat → Nat} {m : Nat} (hm : m ≤ 16) {k : Nat} (h : k < m) : loN w (leN w m k) < m := by
 have hA : 2 ^ m ≤ 65536 := Nat.pow_le_pow_right (n := 2) (by decide) hm
 have h1 := le_lt (w := w) hm k
 obtain ⟨b1, b2⟩ := lo_in (w := w) (s := leN w m k) (by omega) (le_ne hm h)
 rcases Nat.lt_or_ge (loN w (leN w m k)) m with c | c
 ·exact c
 ·rw [high h1 c] at b2
  exact nomatch b2
theorem orL_lt {w : Nat → Nat} {m : Nat} (hm : m ≤ 16) : ∀ k, k ≤ m → ∀ x ∈ orL w m k, x < 16
 | 0, _, x, h => nomatch h
 | k + 1, hk, x, h => by
  rw [orL, List.mem_cons] at h
  rcases h with rfl | h
  ·have := lo_m (w := w) hm (k := k) (by omega)
   omega
  ·exact orL_lt hm k (by omega) x h
theorem ls_le (w : Nat → Nat) (m : Nat) : ∀ k, lsN w m k ≤ 16
 | 0 => Nat.zero_le _
 | k + 1 => by
  rw [lsN]
  have := ls_le w m k
  have := eN_le w (leN w m k) (loN w (leN w m k))
  omega

def psN (w : Nat → Nat) (k : Int) (s : Nat) : Nat → Nat
 | 0 => s
 | v + 1 => if (psN w k s v).testBit v = true ∧ ((eN w (psN w k s v) v : Nat) : Int) < k then anN (psN w k s v) (2 ^ v) else psN w k s v
theorem ps_sub (w : Nat → Nat) (k : Int) (s : Nat) : ∀ v, psN w k s v ≤ s
 | 0 => Nat.le_refl _
 | v + 1 => by
  rw [psN]
  split
  ·exact Nat.le_trans (sub_le (an_sub _ _)) (ps_sub w k s v)
  ·exact ps_sub w k s v
theorem an_ne {s v : Nat} (h : s.testBit v = true) : anN s (2 ^ v) ≠ s := fun e => by
 have := an_bit s (2 ^ v) v
 rw [e, h, Nat.testBit_two_pow] at this
 simp at this
theorem ps_bit (w : Nat → Nat) (k : Int) (s : Nat) : ∀ v i, v ≤ i → (psN w k s v).testBit i = s.testBit i
 | 0, _, _ => rfl
 | v + 1, i, h => by
  rw [psN]
  split
  ·rw [an_bit, Nat.testBit_two_pow, decide_eq_false (show ¬ v = i by omega), ps_bit w k s v i (by omega)]
   simp
  ·exact ps_bit w k s v i (by omega)
theorem ps_end {w : Nat → Nat} {k : Int} {s m : Nat} (hs : s < 2 ^ m) : ∀ d, psN w k s (m + d) = psN w k s m
 | 0 => rfl
 | d + 1 => by
  rw [show m + (d + 1) = m + d + 1 by omega, psN, if_neg, ps_end hs d]
  rintro ⟨c, _⟩
  rw [ps_bit w k s _ _ (Nat.le_refl _), high hs (by omega)] at c
  exact nomatch c
def coN (w : Nat → Nat) (k : Int) (m : Nat) : Nat → Nat → Nat
 | 0, s => s
 | f + 1, s => if psN w k s m = s then s else coN w k m f (psN w k s m)
def corN (w : Nat → Nat) (k : Int) (m : Nat) : Nat := coN w k m (2 ^ m) (2 ^ m - 1)
def CoAt (w : Nat → Nat) (k : Int) (m s : Nat) : Prop := s < 2 ^ m ∧ ∃ f, s < f ∧ coN w k m f s = corN w k m
theorem co_at (w : Nat → Nat) (k : Int) (m : Nat) : CoAt w k m (2 ^ m - 1) := ⟨all_lt m, 2 ^ m, all_lt m, rfl⟩
theorem co_stop {w : Nat → Nat} {k : Int} {m s : Nat} (h : CoAt w k m s) (e : psN w k s m = s) : corN w k m = s := by
 obtain ⟨_, f, h1, h2⟩ := h
 cases f with
 | zero => omega
 | succ f => rw [← h2, coN, if_pos e]
theorem co_next {w : Nat → Nat} {k : Int} {m s : Nat} (h : CoAt w k m s) (e : psN w k s m ≠ s) : CoAt w k m (psN w k s m) := by
 obtain ⟨h0, f, h1, h2⟩ := h
 have hs := ps_sub w k s m
 cases f with
 | zero => omega
 | succ f => exact ⟨by omega, f, by omega, by rw [← h2, coN, if_neg e]⟩
theorem co_lt {w : Nat → Nat} {k : Int} {m : Nat} (f s : Nat) (h : s < 2 ^ m) : coN w k m f s < 2 ^ m := by
 induction f generalizing s with
 | zero => exact h
 | succ f ih =>
  rw [coN]
  split
  ·exact h
  ·exact ih _ (Nat.lt_of_le_of_lt (ps_sub w k s m) h)
theorem cor_lt (w : Nat → Nat) (k : Int) (m : Nat) : corN w k m < 2 ^ m := co_lt _ _ (all_lt m)
theorem ps_same {w : Nat → Nat} {k : Int} {s : Nat} : ∀ v, psN w k s (v + 1) = s → psN w k s v = s := fun v h => by
 rw [psN] at h
 split at h
 ·rename_i c
  have h1 := ps_sub w k s v
  have h2 := sub_le (an_sub (psN w k s v) (2 ^ v))
  omega
 ·exact h

end Go.Num

/- hue's walk over the bits of a word, run. -/
namespace Go.Num
open Go Go.Proofs Go.Ev

def htzI (t : Nat) : Int := Int.fdiv (m_mulU ((2 ^ t : Nat) : Int) (Int.ofNat 285870213051353865)) (Int.ofNat 288230376151711744)
def htzC (t : Nat) : Bool := decide (0 ≤ htzI t) && (Nat.blt (htzI t).toNat 64 && match tabM 0 (Nat.add 0 (Nat.mul (htzI t).toNat 1)) with
 | some (.int .u8 z) => decide (z = (t : Int))
 | _ => false)
theorem htzC_all : ∀ t : Fin 16, htzC t.val = true := by decide +kernel
end Go.Num
namespace Go.Proofs
open Go Go.Ev Go.Num
set_option linter.unusedVariables false
set_option linter.unusedSimpArgs false
set_option maxRecDepth 100000

def tHw : Tbl := tcons 83 eTz fun _ => none

noncomputable def cHw : Code := bodyOf S0 63
noncomputable def Hw_0 : Code := (lc cHw)
noncomputable def Hw_1 : Code := (lc (ic (ic (rc cHw))))
noncomputable def Hw_2 : Code := (lc (ic (lc (rc (ic (ic (rc cHw)))))))
noncomputable def Hw_3 : Code := (rc (ic (lc (rc (ic (ic (rc cHw)))))))
noncomputable def Hw_4 : Code := (rc (rc (ic (ic (rc cHw)))))
theorem Hw_eq : cHw = (.seq Hw_0 (.block 0 (.loop (.seq Hw_1 (.seq (.block 1 (.seq Hw_2 Hw_3)) Hw_4))))) := by kernel_rfl
def lvHw : List Nat := [0, 3]
def tHb (l : Nat) (t : Int) : Tr Value := bT lvHw [some (fY l), some (U t)] .nil

theorem htzA (r : Mem) (s : Int) : (lvlT (SC r) (fun _ => none) .nil 2 4).call 83 [U s] emptyA fin =
    bif s == Int.ofNat 0 then .ret (I (Int.ofNat 64)) (AW.mk 0 .nil .nil) else bif decide (0 ≤ Int.fdiv (m_mulU (ibits BinOp.and IntKind.u64 s (IntKind.wrap .u64 (Int.ofNat 0 - s))) (Int.ofNat 285870213051353865)) (Int.ofNat 288230376151711744)) then bif Nat.blt (Int.toNat (Int.fdiv (m_mulU (ibits BinOp.and IntKind.u64 s (IntKind.wrap .u64 (Int.ofNat 0 - s))) (Int.ofNat 285870213051353865)) (Int.ofNat 288230376151711744))) 64 then Option.casesOn (r 0 (Nat.add 0 (Nat.mul (Int.toNat (Int.fdiv (m_mulU (ibits BinOp.and IntKind.u64 s (IntKind.wrap .u64 (Int.ofNat 0 - s))) (Int.ofNat 285870213051353865)) (Int.ofNat 288230376151711744))) 1))) (.fail 423) fun val => bif isI IntKind.u8 val then .ret (I (IntKind.wrap .i64 (ofI val))) (AW.mk 0 .nil .nil) else .fail 420 else .fail 420 else .fail 420 := by kernel_rfl

theorem hwA (r : Mem) (l p : Nat) (A : AW) (fs : FnsC) (K : KS) (kx : Nat → KS) (kr : KS) : run (SC r) 11 16 1 Hw_0 fs none K kx kr (sc0 11 [fY l, .pointer (some ⟨p, 0, none⟩)]) (tr0 11 [fY l, .pointer (some ⟨p, 0, none⟩)]) [] A =
    Option.casesOn (match Tr.get (AW.heap A) p with | some (.cells c elem fam sz) => c[0]? | x => none) (.fail 423) fun val => bif isI IntKind.u64 val then K [(4, U (ofI val))] (.node (.node (.node .nil (some (U (ofI val))) .nil) (some (.pointer (some ⟨p, 0, none⟩))) .nil) (some (.func (Fn.yield l) ⟨[]⟩ ⟨[]⟩)) .nil) [] A else .fail 420 := by kernel_rfl

theorem hwB (r : Mem) (l : Nat) (t : Int) (A : AW) (fs : FnsC) (K : KS) (kx : Nat → KS) (kr : KS) : run (SC r) 11 16 1 Hw_1 fs none K kx kr [] (tHb l t) [] A =
    bif t != Int.ofNat 0 then K [(6, .bool true), (5, U t)] (.node (.node (.node .nil (some (U t)) .nil) none .nil) (some (.func (Fn.yield l) ⟨[]⟩ ⟨[]⟩)) .nil) [] A else kx 0 [(6, .bool false), (5, U t)] (.node (.node (.node .nil (some (U t)) .nil) none .nil) (some (.func (Fn.yield l) ⟨[]⟩ ⟨[]⟩)) .nil) [] A := by kernel_rfl

theorem hwC (r : Mem) (l : Nat) (t : Int) (A : AW) (K : KS) : preK (SC r) 11 16 Hw_2 3 (lvlT (SC r) tHw .nil 1 2) K [] (tHb l t) [] A =
    bif m_twG t then K [(13, I (m_tw t)), (12, U t), (11, .func (Fn.yield l) ⟨[]⟩ ⟨[]⟩)] (.node (.node (.node .nil (some (U t)) .nil) none .nil) (some (.func (Fn.yield l) ⟨[]⟩ ⟨[]⟩)) .nil) [] A else .fail 420 := by kernel_rfl

theorem hwD (r : Mem) (l : Nat) (t u : Int) (v : Bool) (A : AW) (fs : FnsC) (K : KS) (kx : Nat → KS) (kr : KS) : tailK (SC r) 11 16 Hw_2 3 fs (run (SC r) 11 16 1 Hw_3 fs none (run (SC r) 11 16 1 Hw_4 fs none K kx kr) (fun j => match Nat.beq j 1 with | true => run (SC r) 11 16 1 Hw_4 fs none K kx kr | false => kx j) kr) (.bool v) [(13, I u), (12, U t), (11, fY l)] (tHb l t) [] A =
    bif v then K [(10, U (ibits BinOp.and IntKind.u64 t (IntKind.wrap .u64 (t - Int.ofNat 1)))), (9, U (IntKind.wrap .u64 (t - Int.ofNat 1))), (8, U t), (7, U t)] (.node (.node (.node .nil (some (U (ibits BinOp.and IntKind.u64 t (IntKind.wrap .u64 (t - Int.ofNat 1))))) .nil) none .nil) (some (.func (Fn.yield l) ⟨[]⟩ ⟨[]⟩)) .nil) [] A else kr [(15, .bool true), (14, .bool false), (13, I u), (12, U t), (11, .func (Fn.yield l) ⟨[]⟩ ⟨[]⟩)] (.node (.node (.node .nil (some (U t)) .nil) none .nil) (some (.func (Fn.yield l) ⟨[]⟩ ⟨[]⟩)) .nil) [] A := by kernel_rfl

end Go.Proofs

/- hue's walk over the bits of a word, whatever is done in its rounds: what the call leaves. -/
namespace Go.Proofs
open Go Go.Ev Go.Num
set_option linter.unusedVariables false
set_option linter.unusedSimpArgs false
set_option maxRecDepth 100000

theorem htz_ok (r : Mem) (hm : ∀ b j u, tabM b j = some u → r b j = some u) (s : Nat) (h0 : s ≠ 0) (h : s < 65536) : GrT Tryd.prog r 83 [U (s : Nat)] (I (tzN 64 s : Nat)) :=
 GrT.of (SC_ok r) TOk.nil .nil rfl ⟨2, 4, by
  rw [htzA]
  have c1 : ((s : Int) == Int.ofNat 0) = false := by simp; omega
  have e1 : IntKind.wrap IntKind.u64 (Int.ofNat 0 - (s : Int)) = ((2 ^ 64 - s : Nat) : Int) := by rw [wrU]; simp; omega
  have e2 : ibits BinOp.and IntKind.u64 (s : Int) ((2 ^ 64 - s : Nat) : Int) = ((s &&& (2 ^ 64 - s) : Nat) : Int) := (uO (by omega) (by omega)).2.1
  have ht := tz_16 h h0
  have hc := htzC_all ⟨tzN 64 s, ht⟩
  rw [c1, cond_false, e1, e2, low_pow 64 s (by omega) h0]
  generalize tzN 64 s = t at ht hc
  unfold htzC at hc
  rw [Bool.and_eq_true, Bool.and_eq_true] at hc
  obtain ⟨d1, d2, d3⟩ := hc
  change decide (0 ≤ htzI t) = true at d1
  change (bif decide (0 ≤ htzI t) then bif Nat.blt (Int.toNat (htzI t)) 64 then Option.casesOn (r 0 (Nat.add 0 (Nat.mul (Int.toNat (htzI t)) 1))) (CR.fail 423) fun val => bif isI IntKind.u8 val then CR.ret (Value.int IntKind.i64 (IntKind.wrap IntKind.i64 (ofI val))) (AW.mk 0 Tr.nil Tr.nil) else CR.fail 420 else CR.fail 420 else CR.fail 420) = _
  rw [d1, cond_true, d2, cond_true]
  split at d3
  ·rename_i z hz
   rw [hm _ _ _ hz]
   have hz' : z = (t : Int) := of_decide_eq_true d3
   subst hz'
   show CR.ret (Value.int IntKind.i64 (IntKind.wrap IntKind.i64 (t : Int))) _ = _
   rw [wrI (by omega)]
   rfl
  ·exact nomatch d3⟩
theorem tHw_ok (r : Mem) (hm : ∀ b j u, tabM b j = some u → r b j = some u) : TOk (SC r) tHw := TOk.cons TOk.nil (eU1_ok fun a ha => by
 have h := of_decide_eq_true ha
 have := htz_ok r hm a.toNat (by omega) (by omega)
 rw [show ((a.toNat : Nat) : Int) = a by omega] at this
 exact this)

theorem hskipTo {J : Nat → OO → Prop} {s : Nat} (hskip : ∀ v os, v < 16 → s.testBit v = false → J v os → J (v + 1) os) {os : OO} : ∀ d v, J v os → (∀ i, v ≤ i → i < v + d → s.testBit i = false) → v + d ≤ 16 → J (v + d) os
 | 0, v, h, _, _ => h
 | d + 1, v, h, hb, hd => by
  rw [show v + (d + 1) = v + 1 + d by omega]
  exact hskipTo hskip d (v + 1) (hskip v os (by omega) (hb v (Nat.le_refl _) (by omega)) h) (fun i h1 h2 => hb i (by omega) (by omega)) (by omega)

theorem heach_iter (r : Mem) (hm : ∀ b j u, tabM b j = some u → r b j = some u) {l p : Nat} {fl : List Fl} {s : Nat} (hs : s < 65536) {J : Nat → OO → Prop} {E : OO → Prop} {os0 : OO}
  (hbox : ∃ e f z, (mkA os0).heap.get p = some (.cells [U (s : Nat)] e f z))
  (hskip : ∀ v os, v < 16 → s.testBit v = false → J v os → J (v + 1) os)
  (hY : ∀ v os, v < 16 → s.testBit v = true → J v os → YOk (SC r) l [I (v : Nat)] (mkA os) fun w A' => ∃ os', Cn (mkA os0).next fl A' os' ∧ ((w = .bool true ∧ J (v + 1) os') ∨ (w = .bool false ∧ E os')))
  (hE : ∀ os, J 16 os → E os) (h0 : J 0 os0) (hl : oldV (mkA os0) (fY l) = true) :
  SOk (SC r) 63 [fY l, P0 p] (mkA os0) fun v A' => ∃ os, A' = mkA os ∧ E os := by
 obtain ⟨be, bf, bz, hbox⟩ := hbox
 refine callG (SC_ok r) (by kernel_rfl) ((bodySC r _).trans Hw_eq) (nt := 16) (by kernel_rfl) (rs := []) (by kernel_rfl) 11 rfl fun γ W F k hw hF hro hfr => ?_
 have ht := TOk.nil (C := SC r)
 have hte := tHw_ok r hm
 have old : ∀ t : Nat, ∀ v, some v ∈ [some (fY l), some (U (t : Nat))] → oldV (mkA os0) v = true := fun t v hv => by
  simp only [List.mem_cons, Option.some.injEq, List.not_mem_nil, or_false] at hv
  rcases hv with rfl | rfl
  ·exact hl
  ·rfl
 refine Go.Ev.Reach.seq (Go.Ev.Reach.mono (Go.Ev.Reach.segP (kn := asks fun st => ∃ sx T, st = ⟨⟨sx, T⟩, [], mkA os0⟩ ∧ lvHw.map T.get = [some (fY l), some (U (s : Nat))]) (kx := fun _ _ _ _ _ => .fail 0) (kr := fun _ _ _ _ => .fail 0) (SC_ok r) ht (tm := .nil) (L := 1) (L' := 1) (d := 1) hF hro ?_) fun ex st hq => ?_)
 ·have hn := hwA r l p (mkA os0)
  simp only [hbox, List.getElem?_cons_zero, show isI IntKind.u64 (U (s : Nat)) = true from rfl, show ofI (U (s : Nat)) = ((s : Nat) : Int) from rfl, cond_true] at hn
  exact (hn _ _ _ _).trans (qq_ok ⟨_, _, rfl, rfl⟩)
 ·cases ex with
  | normal =>
   obtain ⟨sx0, T0, e, hT⟩ : ∃ sx T, st = ⟨⟨sx, T⟩, [], mkA os0⟩ ∧ lvHw.map T.get = [some (fY l), some (U (s : Nat))] := qq_use hq
   subst e
   refine Go.Ev.Reach.block (Go.Ev.Reach.loop (I := fun j st => ∃ v os, j = 16 - v ∧ v ≤ 16 ∧ J v os ∧ Ren (SC r) 11 16 γ W st ⟨⟨[], tHb l (hiN s v : Nat)⟩, [], mkA os⟩) (fun j st ⟨v, os, hj, hv, hJ, hren⟩ => Go.Ev.Reach.pre hren ?_) (j := 16) ⟨0, os0, rfl, by decide, h0, by
    rw [hi_zero]
    exact Ren.world hw (lv := lvHw) (vs := [some (fY l), some (U (s : Nat))]) hT (old _) (RenA.refl _)⟩)
   have hhi : hiN s v < 65536 := Nat.lt_of_le_of_lt (hi_le s v) hs
   refine Go.Ev.Reach.seq (Go.Ev.Reach.mono (Go.Ev.Reach.segP (kn := asks fun st => hiN s v ≠ 0 ∧ ∃ sx, st = ⟨⟨sx, tHb l (hiN s v : Nat)⟩, [], mkA os⟩) (kx := fun i => match i with | 0 => asks fun st => hiN s v = 0 ∧ ∃ sx T, st = ⟨⟨sx, T⟩, [], mkA os⟩ | _ => fun _ _ _ _ => .fail 0) (kr := fun _ _ _ _ => .fail 0) (SC_ok r) ht (tm := .nil) (L := 1) (L' := 1) (d := 1) hF hro ?_) fun ex st hq => ?_)
   ·have hn := hwB r l (hiN s v : Nat) (mkA os)
    by_cases c : hiN s v = 0
    ·have ne : (((hiN s v : Nat) : Int) != Int.ofNat 0) = false := by simp [c]
     simp only [ne, cond_false] at hn
     exact (hn _ _ _ _).trans (qq_ok ⟨c, _, _, rfl⟩)
    ·have ne : (((hiN s v : Nat) : Int) != Int.ofNat 0) = true := by simp [c]
     simp only [ne, cond_true] at hn
     exact (hn _ _ _ _).trans (qq_ok ⟨c, _, rfl⟩)
   ·cases ex with
    | exit i =>
     cases i with
     | zero =>
      obtain ⟨c, sx, T, e⟩ : hiN s v = 0 ∧ ∃ sx T, st = ⟨⟨sx, T⟩, [], mkA os⟩ := qq_use hq
      subst e
      have hE' : E os := hE os (by
       have := hskipTo hskip (16 - v) v hJ (fun i h1 _ => hi_none c h1) (by omega)
       rwa [show v + (16 - v) = 16 by omega] at this)
      exact ⟨.inl rfl, _, .tuple ⟨[]⟩, mkA os, Ren.world hw (lv := []) (vs := []) rfl (fun v hv => nomatch hv) (RenA.refl _), rfl, os, rfl, hE'⟩
     | succ i => cases hq
    | normal =>
     obtain ⟨c, sx, e⟩ : hiN s v ≠ 0 ∧ ∃ sx, st = ⟨⟨sx, tHb l (hiN s v : Nat)⟩, [], mkA os⟩ := qq_use hq
     subst e
     obtain ⟨n1, n2, n3, n4, n5⟩ := hi_next (b := 64) (s := s) (v := v) (by omega) c
     have ht16 := tz_16 hhi c
     have e6 : m_tw ((hiN s v : Nat) : Int) = ((tzN 64 (hiN s v) : Nat) : Int) := by unfold m_tw; rw [Int.toNat_natCast]
     have hJt : J (tzN 64 (hiN s v)) os := by
      have := hskipTo hskip (tzN 64 (hiN s v) - v) v hJ (fun i h1 h2 => n4 i h1 (by omega)) (by omega)
      rwa [show v + (tzN 64 (hiN s v) - v) = tzN 64 (hiN s v) by omega] at this
     have e7 : ibits .and .u64 ((hiN s v : Nat) : Int) (IntKind.wrap .u64 (((hiN s v : Nat) : Int) - Int.ofNat 1)) = ((hiN s (tzN 64 (hiN s v) + 1) : Nat) : Int) := by
      have : IntKind.wrap .u64 (((hiN s v : Nat) : Int) - Int.ofNat 1) = ((hiN s v - 1 : Nat) : Int) := by rw [wrU]; simp; omega
      rw [this, (uO (by omega) (by omega)).2.1, n5]
     generalize htz : tzN 64 (hiN s v) = t at *
     let Pn : St → Prop := fun st => ∃ sx A', st = ⟨⟨sx, tHb l (hiN s (t + 1) : Nat)⟩, [], A'⟩ ∧ ∃ os', Cn (mkA os0).next fl A' os' ∧ J (t + 1) os'
     let Pr : St → Prop := fun st => ∃ sx T A', st = ⟨⟨sx, T⟩, [], A'⟩ ∧ ∃ os', Cn (mkA os0).next fl A' os' ∧ E os'
     refine Go.Ev.Reach.mono (Go.Ev.Reach.first (kn := asks Pn) (kx := fun _ _ _ _ _ => .fail 0) (kr := asks Pr) (SC_ok r) hte (tm := .nil) (L := 1) (L' := 1) (d := 2) hF hro (.seq (.block (.seq .here))) (Go.Ev.Reach.yieldK (SC_ok r) hF hte (tm := .nil) (L := 1) (d := 2) 3 (s1 := [(13, I (t : Nat)), (12, U (hiN s v : Nat)), (11, fY l)]) (b1 := tHb l (hiN s v : Nat)) (ms1 := []) (A1 := mkA os) (A2 := mkA os) (i := l) (args := [I (t : Nat)]) ?_ (by kernel_rfl) (hY t os ht16 n3 hJt) fun w A' hS => ?_)) fun ex st' hq => ?_
     ·have hn := hwC r l (hiN s v : Nat) (mkA os)
      have c2 : m_twG ((hiN s v : Nat) : Int) = true := decide_eq_true ⟨by omega, by omega⟩
      simp only [c2, cond_true, e6] at hn
      exact (hn _).trans (qn_ok rfl)
     ·obtain ⟨os', hcn, hv⟩ := hS
      rcases hv with ⟨rfl, hJ'⟩ | ⟨rfl, hE'⟩
      ·have hn := hwD r l (hiN s v : Nat) (t : Nat) true A'
       simp only [cond_true, e7] at hn
       exact (hn _ _ _ _).trans (qq_ok ⟨_, _, rfl, os', hcn, hJ'⟩)
      ·have hn := hwD r l (hiN s v : Nat) (t : Nat) false A'
       simp only [cond_false] at hn
       exact (hn _ _ _ _).trans (qq_ok ⟨_, _, _, rfl, os', hcn, hE'⟩)
     ·cases ex with
      | normal =>
       obtain ⟨sx, A', e, os', hcn, hJ'⟩ : Pn st' := qq_use hq
       subst e
       exact ⟨16 - (t + 1), by omega, t + 1, os', rfl, by omega, hJ', Ren.world hw (lv := lvHw) (vs := [some (fY l), some (U (hiN s (t + 1) : Nat))]) rfl (old _) (hcn.ren hfr)⟩
      | ret =>
       obtain ⟨sx, T, A', e, os', hcn, hE'⟩ : Pr st' := qq_use hq
       subst e
       exact ⟨.inr rfl, _, .tuple ⟨[]⟩, mkA os', Ren.world hw (lv := []) (vs := []) rfl (fun v hv => nomatch hv) (hcn.ren hfr), rfl, os', rfl, hE'⟩
      | exit i => cases hq
      | _ => exact hq.elim
    | ret => cases hq
    | _ => exact hq.elim
  | exit i => cases hq
  | ret => cases hq
  | _ => exact hq.elim

end Go.Proofs

/- math/bits.OnesCount64: how many bits, of numbers below 65536. -/
set_option linter.unusedVariables false
set_option linter.unusedSimpArgs false
namespace Go.Num

def oN1 (x : Nat) : Nat := ((x / 2) &&& 6148914691236517205) + (x &&& 6148914691236517205)
def oN2 (x : Nat) : Nat := ((x / 4) &&& 3689348814741910323) + (x &&& 3689348814741910323)
def oN3 (x : Nat) : Nat := (x / 16 + x) &&& 1085102592571150095
def oN4 (x : Nat) : Nat := x + x / 256
def oN5 (x : Nat) : Nat := x + x / 65536
def oN6 (x : Nat) : Nat := x + x / 4294967296
theorem popN_succ (f m : Nat) : popN (f + 1) m = m % 2 + popN f (m / 2) := by
 rw [popN]
 split
 ·rename_i h; rw [h, popN_zero]
 ·rfl
theorem pop_split (f h l : Nat) (hl : l < 256) : popN (f + 8) (256 * h + l) = popN f h + popN 8 l := by
 simp only [show f + 8 = (((((((f + 1) + 1) + 1) + 1) + 1) + 1) + 1) + 1 by rfl, popN_succ, Nat.div_div_eq_div_mul, Nat.reduceMul]
 have e : (256 * h + l) / 256 = h := by omega
 rw [e, show popN 0 (l / 256) = 0 from rfl]
 omega
theorem land_split {a b c d : Nat} (hb : b < 256) (hd : d < 256) : (256 * a + b) &&& (256 * c + d) = 256 * (a &&& c) + (b &&& d) := by
 have hbd : b &&& d < 256 := Nat.lt_of_le_of_lt Nat.and_le_left hb
 apply Nat.eq_of_testBit_eq
 intro i
 rw [Nat.testBit_and, show 256 = 2 ^ 8 by rfl, Nat.testBit_two_pow_mul_add a hb, Nat.testBit_two_pow_mul_add c hd, Nat.testBit_two_pow_mul_add (a &&& c) hbd]
 split
 ·rw [Nat.testBit_and]
 ·rw [Nat.testBit_and]
def c1 (x : Nat) : Nat := ((x / 2) &&& 85) + (x &&& 85)
def c2 (x : Nat) : Nat := ((x / 4) &&& 51) + (x &&& 51)
def c3 (x : Nat) : Nat := (x / 16 + x) &&& 15
theorem c_all : ∀ l : Fin 256, c1 l.val < 171 ∧ c2 (c1 l.val) < 69 ∧ c2 (c1 l.val) % 16 < 5 ∧ c3 (c2 (c1 l.val)) = popN 8 l.val := by decide +kernel
theorem m1_all : ∀ (t : Fin 2) (l : Fin 256), (128 * t.val + l.val / 2) &&& 85 = (l.val / 2) &&& 85 := by decide +kernel
theorem m2_all : ∀ (t : Fin 4) (l : Fin 256), (64 * t.val + l.val / 4) &&& 51 = (l.val / 4) &&& 51 := by decide +kernel
theorem m3_all : ∀ (t : Fin 5) (l : Fin 69), (16 * t.val + l.val / 16 + l.val) &&& 15 = (l.val / 16 + l.val) &&& 15 := by decide +kernel
theorem a1_all : ∀ l : Fin 256, l.val &&& 24019198012642645 = l.val &&& 85 ∧ l.val &&& 14411518807585587 = l.val &&& 51 ∧ l.val &&& 4238682002231055 = l.val &&& 15 := by decide +kernel

theorem oN1_split {h l : Nat} (hh : h < 256) (hl : l < 256) : oN1 (256 * h + l) = 256 * c1 h + c1 l := by
 unfold oN1
 have e : (256 * h + l) / 2 = 256 * (h / 2) + (128 * (h % 2) + l / 2) := by omega
 rw [e, show 6148914691236517205 = 256 * 24019198012642645 + 85 by rfl, land_split (by omega) (by omega), land_split hl (by omega)]
 have q1 := (a1_all ⟨h / 2, by omega⟩).1
 have q2 := (a1_all ⟨h, hh⟩).1
 have q3 := m1_all ⟨h % 2, by omega⟩ ⟨l, hl⟩
 simp only at q1 q2 q3
 rw [q1, q2, q3]
 unfold c1
 omega
theorem oN2_split {h l : Nat} (hh : h < 256) (hl : l < 256) : oN2 (256 * h + l) = 256 * c2 h + c2 l := by
 unfold oN2
 have e : (256 * h + l) / 4 = 256 * (h / 4) + (64 * (h % 4) + l / 4) := by omega
 rw [e, show 3689348814741910323 = 256 * 14411518807585587 + 51 by rfl, land_split (by omega) (by omega), land_split hl (by omega)]
 have q1 := (a1_all ⟨h / 4, by omega⟩).2.1
 have q2 := (a1_all ⟨h, hh⟩).2.1
 have q3 := m2_all ⟨h % 4, by omega⟩ ⟨l, hl⟩
 simp only at q1 q2 q3
 rw [q1, q2, q3]
 unfold c2
 omega
theorem oN3_split {h l : Nat} (hh : h < 69) (hm : h % 16 < 5) (hl : l < 69) : oN3 (256 * h + l) = 256 * c3 h + c3 l := by
 unfold oN3
 have e : (256 * h + l) / 16 + (256 * h + l) = 256 * (h / 16 + h) + (16 * (h % 16) + l / 16 + l) := by omega
 rw [e, show 1085102592571150095 = 256 * 4238682002231055 + 15 by rfl, land_split (by omega) (by omega)]
 have q1 := (a1_all ⟨h / 16 + h, by omega⟩).2.2
 have q3 := m3_all ⟨h % 16, hm⟩ ⟨l, hl⟩
 simp only at q1 q3
 rw [q1, q3]
 rfl

theorem oN_all {x : Nat} (hx : x < 65536) : oN1 x < 1000000 ∧ oN2 (oN1 x) < 1000000 ∧ oN3 (oN2 (oN1 x)) < 1000000 ∧ oN4 (oN3 (oN2 (oN1 x))) < 1000000 ∧ oN5 (oN4 (oN3 (oN2 (oN1 x)))) < 1000000 ∧ oN6 (oN5 (oN4 (oN3 (oN2 (oN1 x))))) < 1000000 ∧
  oN6 (oN5 (oN4 (oN3 (oN2 (oN1 x))))) % 128 = popN 16 x := by
 obtain ⟨h, l, rfl, hh, hl⟩ : ∃ h l, x = 256 * h + l ∧ h < 256 ∧ l < 256 := ⟨x / 256, x % 256, by omega, by omega, by omega⟩
 obtain ⟨p1, p2, p3, p4⟩ := c_all ⟨h, hh⟩
 obtain ⟨q1, q2, q3, q4⟩ := c_all ⟨l, hl⟩
 simp only at p1 p2 p3 p4 q1 q2 q3 q4
 have r1 := popN_le 8 h
 have r2 := popN_le 8 l
 rw [pop_split 8 h l hl, oN1_split hh hl, oN2_split (by omega) (by omega), oN3_split p2 p3 q2, p4, q4]
 generalize popN 8 h = u at *
 generalize popN 8 l = v at *
 generalize c1 h = a1 at *
 generalize c1 l = a2 at *
 have e4 : oN4 (256 * u + v) = 257 * u + v := by unfold oN4; omega
 have e5 : oN5 (257 * u + v) = 257 * u + v := by unfold oN5; omega
 have e6 : oN6 (257 * u + v) = 257 * u + v := by unfold oN6; omega
 rw [e4, e5, e6]
 omega

end Go.Num
namespace Go.Proofs
open Go Go.Ev Go.Num
set_option maxRecDepth 100000

def oI1 (x : Int) : Int := IntKind.wrap IntKind.u64 (ibits BinOp.and IntKind.u64 (Int.fdiv x (Int.ofNat 2)) (Int.ofNat 6148914691236517205) + ibits BinOp.and IntKind.u64 x (Int.ofNat 6148914691236517205))
def oI2 (x : Int) : Int := IntKind.wrap IntKind.u64 (ibits BinOp.and IntKind.u64 (Int.fdiv x (Int.ofNat 4)) (Int.ofNat 3689348814741910323) + ibits BinOp.and IntKind.u64 x (Int.ofNat 3689348814741910323))
def oI3 (x : Int) : Int := ibits BinOp.and IntKind.u64 (IntKind.wrap IntKind.u64 (Int.fdiv x (Int.ofNat 16) + x)) (Int.ofNat 1085102592571150095)
def oI4 (x : Int) : Int := IntKind.wrap IntKind.u64 (x + Int.fdiv x (Int.ofNat 256))
def oI5 (x : Int) : Int := IntKind.wrap IntKind.u64 (x + Int.fdiv x (Int.ofNat 65536))
def oI6 (x : Int) : Int := IntKind.wrap IntKind.u64 (x + Int.fdiv x (Int.ofNat 4294967296))
def oI (x : Int) : Int := ibits BinOp.and IntKind.i64 (IntKind.wrap IntKind.i64 (oI6 (oI5 (oI4 (oI3 (oI2 (oI1 x))))))) (Int.ofNat 127)

theorem ocA (r : Mem) (x : Int) : (lvlT (SC r) (fun _ => none) .nil 1 1).call 84 [.int .u64 x] emptyA fin = CR.ret (I (oI x)) emptyA := by kernel_rfl

theorem fdivN (a k : Nat) : Int.fdiv (a : Int) (Int.ofNat k) = ((a / k : Nat) : Int) := by
 rw [Int.fdiv_eq_ediv_of_nonneg _ (show (0 : Int) ≤ Int.ofNat k from Int.natCast_nonneg k)]
 exact (Int.natCast_ediv a k).symm
theorem wrapU {a : Nat} (h : a < 18446744073709551616) : IntKind.wrap .u64 (a : Int) = (a : Int) := by
 simp [IntKind.wrap, IntKind.bits, IntKind.signed]
 omega
theorem andU {a b : Nat} (ha : a < 18446744073709551616) (hb : b < 18446744073709551616) : ibits BinOp.and .u64 (a : Int) (Int.ofNat b) = ((a &&& b : Nat) : Int) := by
 show IntKind.wrap .u64 ((BitVec.ofInt 64 (a : Int) &&& BitVec.ofInt 64 (b : Int)).toNat : Int) = _
 rw [BitVec.ofInt_natCast, BitVec.ofInt_natCast, BitVec.toNat_and, BitVec.toNat_ofNat, BitVec.toNat_ofNat, Nat.mod_eq_of_lt (by omega), Nat.mod_eq_of_lt (by omega)]
 have : a &&& b ≤ a := Nat.and_le_left
 exact wrapU (by omega)
theorem andI {a b : Nat} (ha : a < 1000000) (hb : b < 1000000) : ibits BinOp.and .i64 (a : Int) (Int.ofNat b) = ((a &&& b : Nat) : Int) := by
 show IntKind.wrap .i64 ((BitVec.ofInt 64 (a : Int) &&& BitVec.ofInt 64 (b : Int)).toNat : Int) = _
 rw [BitVec.ofInt_natCast, BitVec.ofInt_natCast, BitVec.toNat_and, BitVec.toNat_ofNat, BitVec.toNat_ofNat, Nat.mod_eq_of_lt (by omega), Nat.mod_eq_of_lt (by omega)]
 have : a &&& b ≤ a := Nat.and_le_left
 exact wrI (by omega)

theorem oI_eq {x : Nat} (hx : x < 65536) : oI (x : Int) = (popN 16 x : Nat) := by
 obtain ⟨h1, h2, h3, h4, h5, h7, h6⟩ := oN_all hx
 have e1 : oI1 (x : Int) = (oN1 x : Nat) := by
  unfold oI1
  rw [fdivN, andU (by omega) (by omega), andU (by omega) (by omega), ← Int.natCast_add]
  exact wrapU (a := oN1 x) (by omega)
 generalize oN1 x = a at *
 have e2 : oI2 (a : Int) = (oN2 a : Nat) := by
  unfold oI2
  rw [fdivN, andU (by omega) (by omega), andU (by omega) (by omega), ← Int.natCast_add]
  exact wrapU (a := oN2 a) (by omega)
 generalize oN2 a = b at *
 have e3 : oI3 (b : Int) = (oN3 b : Nat) := by
  unfold oI3
  rw [fdivN, ← Int.natCast_add, wrapU (by omega), andU (by omega) (by omega)]
  rfl
 generalize oN3 b = c at *
 have e4 : oI4 (c : Int) = (oN4 c : Nat) := by
  unfold oI4
  rw [fdivN, ← Int.natCast_add]
  exact wrapU (a := oN4 c) (by omega)
 generalize oN4 c = d at *
 have e5 : oI5 (d : Int) = (oN5 d : Nat) := by
  unfold oI5
  rw [fdivN, ← Int.natCast_add]
  exact wrapU (a := oN5 d) (by omega)
 generalize oN5 d = e at *
 have e6 : oI6 (e : Int) = (oN6 e : Nat) := by
  unfold oI6
  rw [fdivN, ← Int.natCast_add]
  exact wrapU (a := oN6 e) (by omega)
 unfold oI
 rw [e1, e2, e3, e4, e5, e6, wrI (by omega), andI (by omega) (by omega), ← h6]
 congr 1
 exact Nat.and_two_pow_sub_one_eq_mod (oN6 e) 7

theorem ones_ok (r : Mem) (x : Nat) (hx : x < 65536) : GrT Tryd.prog r 84 [.int .u64 x] (I (popN 16 x : Nat)) :=
 GrT.of (SC_ok r) TOk.nil .nil rfl ⟨1, 1, by rw [ocA, oI_eq hx]⟩

def m_popG (x : Int) : Bool := decide (0 ≤ x ∧ x < 65536)
def m_pop (x : Int) : Int := (popN 16 x.toNat : Nat)
def ePop : Ent := eU1 m_popG fun x => I (m_pop x)
theorem ePop_ok (r : Mem) : EOk (SC r) 84 ePop := eU1_ok fun a ha => by
 have h := of_decide_eq_true ha
 have := ones_ok r a.toNat (by omega)
 rw [show ((a.toNat : Nat) : Int) = a by omega] at this
 exact this

end Go.Proofs

/- hue's reading of a graph, run. -/
set_option linter.unusedVariables false
set_option linter.unusedSimpArgs false
namespace Go.Proofs
open Go Go.Ev Go.Num
set_option maxRecDepth 100000

noncomputable def cHr : Code := bodyOf S0 22
noncomputable def Hr_0 : Code := (lc cHr)
noncomputable def Hr_1 : Code := (lc (rc cHr))
noncomputable def Hr_2 : Code := (lc (rc (rc cHr)))
noncomputable def Hr_3 : Code := (lc (lc (rc (rc (rc cHr)))))
noncomputable def Hr_4 : Code := (ic (ic (rc (lc (rc (rc (rc cHr)))))))
noncomputable def Hr_5 : Code := (rc (rc (rc (rc cHr))))
theorem Hr_eq : cHr = (.seq Hr_0 (.seq Hr_1 (.seq Hr_2 (.seq (.seq Hr_3 (.block 0 (.loop Hr_4))) Hr_5)))) := by kernel_rfl

def lvHr : List Nat := [4, 7, 20, 21, 22]
def resH : List Value := I 0 :: List.replicate 16 (U 0) ++ [.slice none 0 0]
def tHr : Tbl := tcons 36 (eI1 m_vG fun v => U (m_bit v)) fun _ => none
noncomputable def tHc (a0 : List Value) (e : Int) : Tbl := tcons 35 (entV a0 (I e)) fun _ => none

theorem hsnA (r : Mem) (v : Int) : (lvlT (SC r) (fun _ => none) .nil 1 3).call 36 [I v] emptyA fin =
    bif !decide (v < 0) then .ret (U (IntKind.wrap .u64 (Int.ofNat 1 * Int.ofNat 2 ^ min (Int.toNat v) 64))) (AW.mk 0 .nil .nil) else .fail 420 := by kernel_rfl

theorem hrA (r : Mem) (n e : Int) (b off len cap : Nat) (K : OV → List Nat → OO → CR) (kx : Nat → KS) (KR : OV → List Nat → OO → CR) : run (SC r) 7341811 61 1 (.seq Hr_0 (.seq Hr_1 (.seq Hr_2 Hr_3))) (lvlT (SC r) (tHc [I n, RS2 b off len cap] e) .nil 1 1) none (rbK 0 lvHr [.t, .t] K) kx (rbK 0 [4, 5] [.t] KR) (sc0 7341811 [I n, RS2 b off len cap]) (tr0 7341811 [I n, RS2 b off len cap]) [] emptyA =
    bif m_same [I n, .slice (some ⟨b, off, some 0⟩) len cap] [I n, .slice (some ⟨b, off, some 0⟩) len cap] then bif e != Int.ofNat 0 then KR [some (.pointer (some ⟨0, 0, none⟩)), some (I e)] [] [some (.cells [I (Int.ofNat 0), U (Int.ofNat 0), U (Int.ofNat 0), U (Int.ofNat 0), U (Int.ofNat 0), U (Int.ofNat 0), U (Int.ofNat 0), U (Int.ofNat 0), U (Int.ofNat 0), U (Int.ofNat 0), U (Int.ofNat 0), U (Int.ofNat 0), U (Int.ofNat 0), U (Int.ofNat 0), U (Int.ofNat 0), U (Int.ofNat 0), U (Int.ofNat 0), .slice none 0 0] 59 0 0)] else K [some (.pointer (some ⟨0, 0, none⟩)), some (.pointer (some ⟨1, 0, none⟩)), some (.slice (some ⟨b, off, some 0⟩) len cap), some (I (Int.ofNat len)), some (I (Int.ofNat 0))] [] [some (.cells [I (Int.ofNat 0), U (Int.ofNat 0), U (Int.ofNat 0), U (Int.ofNat 0), U (Int.ofNat 0), U (Int.ofNat 0), U (Int.ofNat 0), U (Int.ofNat 0), U (Int.ofNat 0), U (Int.ofNat 0), U (Int.ofNat 0), U (Int.ofNat 0), U (Int.ofNat 0), U (Int.ofNat 0), U (Int.ofNat 0), U (Int.ofNat 0), U (Int.ofNat 0), .slice none 0 0] 59 0 0), some (.cells [I n, U (Int.ofNat 0), U (Int.ofNat 0), U (Int.ofNat 0), U (Int.ofNat 0), U (Int.ofNat 0), U (Int.ofNat 0), U (Int.ofNat 0), U (Int.ofNat 0), U (Int.ofNat 0), U (Int.ofNat 0), U (Int.ofNat 0), U (Int.ofNat 0), U (Int.ofNat 0), U (Int.ofNat 0), U (Int.ofNat 0), U (Int.ofNat 0), .slice none 0 0] 59 1 0)] else .fail 420 := by kernel_rfl

theorem hrB1 (r : Mem) (n : Int) (b off len cap : Nat) (i : Int) (z0 z1 z2 z3 z4 z5 z6 z7 z8 z9 z10 z11 z12 z13 z14 z15 : Int) (kn : KS) (KX : Nat → OV → List Nat → OO → CR) (kr : KS) : run (SC r) 7341811 61 1 Hr_4 (lvlT (SC r) tHr .nil 1 1) none kn (fun i => rbK 0 lvHr [.t, .t] (KX i)) kr [] (bT lvHr [some (P0 0), some (P0 1), some (RS2 b off len cap), some (I (len : Nat)), some (I i)] .nil) [] (mkA [some (.cells resH 59 0 0), some (.cells [I n, U z0, U z1, U z2, U z3, U z4, U z5, U z6, U z7, U z8, U z9, U z10, U z11, U z12, U z13, U z14, U z15, .slice none 0 0] 59 1 0)]) =
    bif decide (i < Int.ofNat len) then bif decide (0 ≤ i) then bif Nat.blt (Int.toNat i) len then Option.casesOn (r b (Nat.add off (Nat.mul (Int.toNat i) 2))) (.fail 423) fun val => bif isI IntKind.i64 val then Option.casesOn (r b (Nat.succ (Nat.add off (Nat.mul (Int.toNat i) 2)))) (.fail 423) fun val_1 => bif isI IntKind.i64 val_1 then bif decide (0 ≤ ofI val) then bif Nat.blt (Int.toNat (ofI val)) 16 then Option.casesOn [I n, U z0, U z1, U z2, U z3, U z4, U z5, U z6, U z7, U z8, U z9, U z10, U z11, U z12, U z13, U z14, U z15, .slice (some ⟨5, 0, none⟩) 1 unk][Nat.add 1 (Nat.mul (Int.toNat (ofI val)) 1)]? (.fail 423) fun val_2 => bif isI IntKind.u64 val_2 then bif m_vG (ofI val_1) then bif decide (0 ≤ ofI val) then bif Nat.blt (Int.toNat (ofI val)) 16 then bif Nat.blt (Nat.add 1 (Nat.mul (Int.toNat (ofI val)) 1)) (List.length [I n, U z0, U z1, U z2, U z3, U z4, U z5, U z6, U z7, U z8, U z9, U z10, U z11, U z12, U z13, U z14, U z15, .slice (some ⟨5, 0, none⟩) 1 unk]) then bif m_eqv (I (ofI val_1)) (I (ofI val_1)) then Option.casesOn [I n, U z0, U z1, U z2, U z3, U z4, U z5, U z6, U z7, U z8, U z9, U z10, U z11, U z12, U z13, U z14, U z15, .slice (some ⟨5, 0, none⟩) 1 unk][Nat.add 1 (Nat.mul (Int.toNat (ofI val)) 1)]? (.fail 423) fun val_3 => bif isI IntKind.u64 val_3 then bif m_eqv (U (ofI val_3)) (U (ofI val_2)) then Option.casesOn [I n, U z0, U z1, U z2, U z3, U z4, U z5, U z6, U z7, U z8, U z9, U z10, U z11, U z12, U z13, U z14, U z15, .slice (some ⟨5, 0, none⟩) 1 unk][Nat.add 1 (Nat.mul (Int.toNat (ofI val)) 1)]? (.fail 423) fun val_4 => bif isI IntKind.u64 val_4 then bif m_eqv (U (ofI val_4)) (U (ofI val_2)) then bif m_eqv (I (ofI val)) (I (ofI val)) then bif m_eqv (I (ofI val)) (I (ofI val)) then bif decide (0 ≤ ofI val_1) then bif Nat.blt (Int.toNat (ofI val_1)) 16 then Option.casesOn (List.set [I n, U z0, U z1, U z2, U z3, U z4, U z5, U z6, U z7, U z8, U z9, U z10, U z11, U z12, U z13, U z14, U z15, .slice (some ⟨5, 0, none⟩) 1 unk] (Nat.add 1 (Nat.mul (Int.toNat (ofI val)) 1)) (U (ibits BinOp.or IntKind.u64 (ofI val_2) (m_bit (ofI val_1)))))[Nat.add 1 (Nat.mul (Int.toNat (ofI val_1)) 1)]? (.fail 423) fun val_5 => bif isI IntKind.u64 val_5 then bif m_vG (ofI val) then bif decide (0 ≤ ofI val_1) then bif Nat.blt (Int.toNat (ofI val_1)) 16 then bif Nat.blt (Nat.add 1 (Nat.mul (Int.toNat (ofI val_1)) 1)) (List.length (List.set [I n, U z0, U z1, U z2, U z3, U z4, U z5, U z6, U z7, U z8, U z9, U z10, U z11, U z12, U z13, U z14, U z15, .slice (some ⟨5, 0, none⟩) 1 unk] (Nat.add 1 (Nat.mul (Int.toNat (ofI val)) 1)) (U (ibits BinOp.or IntKind.u64 (ofI val_2) (m_bit (ofI val_1)))))) then bif m_eqv (I (ofI val)) (I (ofI val)) then Option.casesOn (List.set [I n, U z0, U z1, U z2, U z3, U z4, U z5, U z6, U z7, U z8, U z9, U z10, U z11, U z12, U z13, U z14, U z15, .slice (some ⟨5, 0, none⟩) 1 unk] (Nat.add 1 (Nat.mul (Int.toNat (ofI val)) 1)) (U (ibits BinOp.or IntKind.u64 (ofI val_2) (m_bit (ofI val_1)))))[Nat.add 1 (Nat.mul (Int.toNat (ofI val_1)) 1)]? (.fail 423) fun val_6 => bif isI IntKind.u64 val_6 then bif m_eqv (U (ofI val_6)) (U (ofI val_5)) then Option.casesOn (List.set [I n, U z0, U z1, U z2, U z3, U z4, U z5, U z6, U z7, U z8, U z9, U z10, U z11, U z12, U z13, U z14, U z15, .slice (some ⟨5, 0, none⟩) 1 unk] (Nat.add 1 (Nat.mul (Int.toNat (ofI val)) 1)) (U (ibits BinOp.or IntKind.u64 (ofI val_2) (m_bit (ofI val_1)))))[Nat.add 1 (Nat.mul (Int.toNat (ofI val_1)) 1)]? (.fail 423) fun val_7 => bif isI IntKind.u64 val_7 then bif m_eqv (U (ofI val_7)) (U (ofI val_5)) then bif m_eqv (I (ofI val_1)) (I (ofI val_1)) then bif m_eqv (I (ofI val_1)) (I (ofI val_1)) then kn [(59, I (IntKind.wrap .i64 (i + Int.ofNat 1)))] (.node (.node (.node (.node .nil (some (.pointer (some ⟨1, 0, none⟩))) .nil) none .nil) none (.node (.node .nil (some (.pointer (some ⟨2, 0, none⟩))) .nil) none (.node (.node .nil (some (I (Int.ofNat len))) .nil) none .nil))) none (.node (.node .nil (some (.pointer (some ⟨0, 0, none⟩))) (.node (.node .nil (some (.slice (some ⟨b, off, some 0⟩) len cap)) .nil) none .nil)) none (.node (.node .nil (some (.pointer (some ⟨3, 0, none⟩))) .nil) none (.node (.node .nil (some (I (IntKind.wrap .i64 (i + Int.ofNat 1)))) .nil) none .nil)))) [] (AW.mk 6 (.node (.node (.node .nil (some (.cells [I (ofI val), I (ofI val_1)] 80 3 0)) .nil) (some (.cells (List.set (List.set [I n, U z0, U z1, U z2, U z3, U z4, U z5, U z6, U z7, U z8, U z9, U z10, U z11, U z12, U z13, U z14, U z15, .slice (some ⟨5, 0, none⟩) 1 unk] (Nat.add 1 (Nat.mul (Int.toNat (ofI val)) 1)) (U (ibits BinOp.or IntKind.u64 (ofI val_2) (m_bit (ofI val_1))))) (Nat.add 1 (Nat.mul (Int.toNat (ofI val_1)) 1)) (U (ibits BinOp.or IntKind.u64 (ofI val_5) (m_bit (ofI val))))) 59 1 0)) (.node .nil (some (.cells [I (ofI val), I (ofI val_1)] 80 5 2)) .nil)) (some (.cells [I (Int.ofNat 0), U (Int.ofNat 0), U (Int.ofNat 0), U (Int.ofNat 0), U (Int.ofNat 0), U (Int.ofNat 0), U (Int.ofNat 0), U (Int.ofNat 0), U (Int.ofNat 0), U (Int.ofNat 0), U (Int.ofNat 0), U (Int.ofNat 0), U (Int.ofNat 0), U (Int.ofNat 0), U (Int.ofNat 0), U (Int.ofNat 0), U (Int.ofNat 0), .slice none 0 0] 59 0 0)) (.node (.node .nil (some (.cells [I (ofI val), I (ofI val_1)] 80 4 2)) .nil) (some (.cells [I (ofI val), I (ofI val_1)] 52 2 0)) .nil)) .nil) else .fail 420 else .fail 420 else .fail 420 else .fail 420 else .fail 420 else .fail 420 else .fail 420 else .fail 420 else .fail 420 else .fail 420 else .fail 420 else .fail 420 else .fail 420 else .fail 420 else .fail 420 else .fail 420 else .fail 420 else .fail 420 else .fail 420 else .fail 420 else .fail 420 else .fail 420 else .fail 420 else .fail 420 else .fail 420 else .fail 420 else .fail 420 else .fail 420 else .fail 420 else .fail 420 else .fail 420 else .fail 420 else KX 0 [some (.pointer (some ⟨0, 0, none⟩)), some (.pointer (some ⟨1, 0, none⟩)), some (.slice (some ⟨b, off, some 0⟩) len cap), some (I (Int.ofNat len)), some (I i)] [] [some (.cells [I (Int.ofNat 0), U (Int.ofNat 0), U (Int.ofNat 0), U (Int.ofNat 0), U (Int.ofNat 0), U (Int.ofNat 0), U (Int.ofNat 0), U (Int.ofNat 0), U (Int.ofNat 0), U (Int.ofNat 0), U (Int.ofNat 0), U (Int.ofNat 0), U (Int.ofNat 0), U (Int.ofNat 0), U (Int.ofNat 0), U (Int.ofNat 0), U (Int.ofNat 0), .slice none 0 0] 59 0 0), some (.cells [I n, U z0, U z1, U z2, U z3, U z4, U z5, U z6, U z7, U z8, U z9, U z10, U z11, U z12, U z13, U z14, U z15, .slice none 0 0] 59 1 0)] := by kernel_rfl

theorem hrB2 (r : Mem) (n : Int) (b off len cap : Nat) (i : Int) (z0 z1 z2 z3 z4 z5 z6 z7 z8 z9 z10 z11 z12 z13 z14 z15 : Int) (m : Nat) (c : List Value) (kn : KS) (KX : Nat → OV → List Nat → OO → CR) (kr : KS) : run (SC r) 7341811 61 1 Hr_4 (lvlT (SC r) tHr .nil 1 1) none kn (fun i => rbK 0 lvHr [.t, .t] (KX i)) kr [] (bT lvHr [some (P0 0), some (P0 1), some (RS2 b off len cap), some (I (len : Nat)), some (I i)] .nil) [] (mkA [some (.cells resH 59 0 0), some (.cells [I n, U z0, U z1, U z2, U z3, U z4, U z5, U z6, U z7, U z8, U z9, U z10, U z11, U z12, U z13, U z14, U z15, .slice (some ⟨2, 0, none⟩) m unk] 59 1 0), some (.cells c 80 2 2)]) =
    bif decide (i < Int.ofNat len) then bif decide (0 ≤ i) then bif Nat.blt (Int.toNat i) len then Option.casesOn (r b (Nat.add off (Nat.mul (Int.toNat i) 2))) (.fail 423) fun val => bif isI IntKind.i64 val then Option.casesOn (r b (Nat.succ (Nat.add off (Nat.mul (Int.toNat i) 2)))) (.fail 423) fun val_1 => bif isI IntKind.i64 val_1 then bif Nat.ble (Nat.add m 1) 1000000 then Option.casesOn (takeAt c 0 (Nat.mul m 2)) (.fail 439) fun val_2 => bif decide (0 ≤ ofI val) then bif Nat.blt (Int.toNat (ofI val)) 16 then Option.casesOn [I n, U z0, U z1, U z2, U z3, U z4, U z5, U z6, U z7, U z8, U z9, U z10, U z11, U z12, U z13, U z14, U z15, .slice (some ⟨6, 0, none⟩) (Nat.add m 1) unk][Nat.add 1 (Nat.mul (Int.toNat (ofI val)) 1)]? (.fail 423) fun val_3 => bif isI IntKind.u64 val_3 then bif m_vG (ofI val_1) then bif decide (0 ≤ ofI val) then bif Nat.blt (Int.toNat (ofI val)) 16 then bif Nat.blt (Nat.add 1 (Nat.mul (Int.toNat (ofI val)) 1)) (List.length [I n, U z0, U z1, U z2, U z3, U z4, U z5, U z6, U z7, U z8, U z9, U z10, U z11, U z12, U z13, U z14, U z15, .slice (some ⟨6, 0, none⟩) (Nat.add m 1) unk]) then bif m_eqv (I (ofI val_1)) (I (ofI val_1)) then Option.casesOn [I n, U z0, U z1, U z2, U z3, U z4, U z5, U z6, U z7, U z8, U z9, U z10, U z11, U z12, U z13, U z14, U z15, .slice (some ⟨6, 0, none⟩) (Nat.add m 1) unk][Nat.add 1 (Nat.mul (Int.toNat (ofI val)) 1)]? (.fail 423) fun val_4 => bif isI IntKind.u64 val_4 then bif m_eqv (U (ofI val_4)) (U (ofI val_3)) then Option.casesOn [I n, U z0, U z1, U z2, U z3, U z4, U z5, U z6, U z7, U z8, U z9, U z10, U z11, U z12, U z13, U z14, U z15, .slice (some ⟨6, 0, none⟩) (Nat.add m 1) unk][Nat.add 1 (Nat.mul (Int.toNat (ofI val)) 1)]? (.fail 423) fun val_5 => bif isI IntKind.u64 val_5 then bif m_eqv (U (ofI val_5)) (U (ofI val_3)) then bif m_eqv (I (ofI val)) (I (ofI val)) then bif m_eqv (I (ofI val)) (I (ofI val)) then bif decide (0 ≤ ofI val_1) then bif Nat.blt (Int.toNat (ofI val_1)) 16 then Option.casesOn (List.set [I n, U z0, U z1, U z2, U z3, U z4, U z5, U z6, U z7, U z8, U z9, U z10, U z11, U z12, U z13, U z14, U z15, .slice (some ⟨6, 0, none⟩) (Nat.add m 1) unk] (Nat.add 1 (Nat.mul (Int.toNat (ofI val)) 1)) (U (ibits BinOp.or IntKind.u64 (ofI val_3) (m_bit (ofI val_1)))))[Nat.add 1 (Nat.mul (Int.toNat (ofI val_1)) 1)]? (.fail 423) fun val_6 => bif isI IntKind.u64 val_6 then bif m_vG (ofI val) then bif decide (0 ≤ ofI val_1) then bif Nat.blt (Int.toNat (ofI val_1)) 16 then bif Nat.blt (Nat.add 1 (Nat.mul (Int.toNat (ofI val_1)) 1)) (List.length (List.set [I n, U z0, U z1, U z2, U z3, U z4, U z5, U z6, U z7, U z8, U z9, U z10, U z11, U z12, U z13, U z14, U z15, .slice (some ⟨6, 0, none⟩) (Nat.add m 1) unk] (Nat.add 1 (Nat.mul (Int.toNat (ofI val)) 1)) (U (ibits BinOp.or IntKind.u64 (ofI val_3) (m_bit (ofI val_1)))))) then bif m_eqv (I (ofI val)) (I (ofI val)) then Option.casesOn (List.set [I n, U z0, U z1, U z2, U z3, U z4, U z5, U z6, U z7, U z8, U z9, U z10, U z11, U z12, U z13, U z14, U z15, .slice (some ⟨6, 0, none⟩) (Nat.add m 1) unk] (Nat.add 1 (Nat.mul (Int.toNat (ofI val)) 1)) (U (ibits BinOp.or IntKind.u64 (ofI val_3) (m_bit (ofI val_1)))))[Nat.add 1 (Nat.mul (Int.toNat (ofI val_1)) 1)]? (.fail 423) fun val_7 => bif isI IntKind.u64 val_7 then bif m_eqv (U (ofI val_7)) (U (ofI val_6)) then Option.casesOn (List.set [I n, U z0, U z1, U z2, U z3, U z4, U z5, U z6, U z7, U z8, U z9, U z10, U z11, U z12, U z13, U z14, U z15, .slice (some ⟨6, 0, none⟩) (Nat.add m 1) unk] (Nat.add 1 (Nat.mul (Int.toNat (ofI val)) 1)) (U (ibits BinOp.or IntKind.u64 (ofI val_3) (m_bit (ofI val_1)))))[Nat.add 1 (Nat.mul (Int.toNat (ofI val_1)) 1)]? (.fail 423) fun val_8 => bif isI IntKind.u64 val_8 then bif m_eqv (U (ofI val_8)) (U (ofI val_6)) then bif m_eqv (I (ofI val_1)) (I (ofI val_1)) then bif m_eqv (I (ofI val_1)) (I (ofI val_1)) then kn [(59, I (IntKind.wrap .i64 (i + Int.ofNat 1)))] (.node (.node (.node (.node .nil (some (.pointer (some ⟨1, 0, none⟩))) .nil) none .nil) none (.node (.node .nil (some (.pointer (some ⟨3, 0, none⟩))) .nil) none (.node (.node .nil (some (I (Int.ofNat len))) .nil) none .nil))) none (.node (.node .nil (some (.pointer (some ⟨0, 0, none⟩))) (.node (.node .nil (some (.slice (some ⟨b, off, some 0⟩) len cap)) .nil) none .nil)) none (.node (.node .nil (some (.pointer (some ⟨4, 0, none⟩))) .nil) none (.node (.node .nil (some (I (IntKind.wrap .i64 (i + Int.ofNat 1)))) .nil) none .nil)))) [] (AW.mk 7 (.node (.node (.node .nil (some (.cells [I (ofI val), I (ofI val_1)] 52 3 0)) .nil) (some (.cells (List.set (List.set [I n, U z0, U z1, U z2, U z3, U z4, U z5, U z6, U z7, U z8, U z9, U z10, U z11, U z12, U z13, U z14, U z15, .slice (some ⟨6, 0, none⟩) (Nat.add m 1) unk] (Nat.add 1 (Nat.mul (Int.toNat (ofI val)) 1)) (U (ibits BinOp.or IntKind.u64 (ofI val_3) (m_bit (ofI val_1))))) (Nat.add 1 (Nat.mul (Int.toNat (ofI val_1)) 1)) (U (ibits BinOp.or IntKind.u64 (ofI val_6) (m_bit (ofI val))))) 59 1 0)) (.node .nil (some (.cells [I (ofI val), I (ofI val_1)] 80 5 2)) .nil)) (some (.cells [I (Int.ofNat 0), U (Int.ofNat 0), U (Int.ofNat 0), U (Int.ofNat 0), U (Int.ofNat 0), U (Int.ofNat 0), U (Int.ofNat 0), U (Int.ofNat 0), U (Int.ofNat 0), U (Int.ofNat 0), U (Int.ofNat 0), U (Int.ofNat 0), U (Int.ofNat 0), U (Int.ofNat 0), U (Int.ofNat 0), U (Int.ofNat 0), U (Int.ofNat 0), .slice none 0 0] 59 0 0)) (.node (.node .nil (some (.cells [I (ofI val), I (ofI val_1)] 80 4 0)) .nil) none (.node .nil (some (.cells (val_2 ++ [I (ofI val), I (ofI val_1)]) 80 2 2)) .nil))) (.node .nil none (.node .nil (some [6]) .nil))) else .fail 420 else .fail 420 else .fail 420 else .fail 420 else .fail 420 else .fail 420 else .fail 420 else .fail 420 else .fail 420 else .fail 420 else .fail 420 else .fail 420 else .fail 420 else .fail 420 else .fail 420 else .fail 420 else .fail 420 else .fail 420 else .fail 420 else .fail 420 else .fail 420 else .fail 420 else .fail 420 else .fail 420 else .fail 420 else .fail 420 else .fail 420 else .fail 420 else .fail 420 else .fail 420 else .fail 420 else .fail 420 else .fail 420 else bif true && (true && (m_nns c && true)) then KX 0 [some (.pointer (some ⟨0, 0, none⟩)), some (.pointer (some ⟨1, 0, none⟩)), some (.slice (some ⟨b, off, some 0⟩) len cap), some (I (Int.ofNat len)), some (I i)] [] [some (.cells [I (Int.ofNat 0), U (Int.ofNat 0), U (Int.ofNat 0), U (Int.ofNat 0), U (Int.ofNat 0), U (Int.ofNat 0), U (Int.ofNat 0), U (Int.ofNat 0), U (Int.ofNat 0), U (Int.ofNat 0), U (Int.ofNat 0), U (Int.ofNat 0), U (Int.ofNat 0), U (Int.ofNat 0), U (Int.ofNat 0), U (Int.ofNat 0), U (Int.ofNat 0), .slice none 0 0] 59 0 0), some (.cells [I n, U z0, U z1, U z2, U z3, U z4, U z5, U z6, U z7, U z8, U z9, U z10, U z11, U z12, U z13, U z14, U z15, .slice (some ⟨2, 0, none⟩) m unk] 59 1 0), some (.cells c 80 2 2)] else .fail 420 := by kernel_rfl

end Go.Proofs

/- hue's reading of a graph: what the call leaves. -/
set_option linter.unusedVariables false
set_option linter.unusedSimpArgs false
namespace Go.Proofs
open Go Go.Ev Go.Num
set_option maxRecDepth 100000
set_option linter.unusedSimpArgs false

def m_hg (n : Int) (zs : List Int) (e : Value) : List Value := I n :: (zs.map U ++ [e])
theorem hg_lit (n z0 z1 z2 z3 z4 z5 z6 z7 z8 z9 z10 z11 z12 z13 z14 z15 : Int) (e : Value) : [I n, U z0, U z1, U z2, U z3, U z4, U z5, U z6, U z7, U z8, U z9, U z10, U z11, U z12, U z13, U z14, U z15, e] = m_hg n [z0, z1, z2, z3, z4, z5, z6, z7, z8, z9, z10, z11, z12, z13, z14, z15] e := rfl
theorem hg_get {n : Int} {zs : List Int} {e : Value} {k : Nat} (h : k < zs.length) : (m_hg n zs e)[Nat.add 1 (Nat.mul k 1)]? = some (U (zs.getD k 0)) := by
 rw [show Nat.add 1 (Nat.mul k 1) = k + 1 by simp [Nat.add_comm], List.getD_eq_getElem?_getD, List.getElem?_eq_getElem h]
 simp only [m_hg, List.getElem?_cons_succ, Option.getD_some]
 rw [List.getElem?_append_left (by simpa using h), List.getElem?_map, List.getElem?_eq_getElem h]
 rfl
theorem hg_set {n : Int} {zs : List Int} {e : Value} {k : Nat} (h : k < zs.length) (z : Int) : (m_hg n zs e).set (Nat.add 1 (Nat.mul k 1)) (U z) = m_hg n (zs.set k z) e := by
 rw [show Nat.add 1 (Nat.mul k 1) = k + 1 by simp [Nat.add_comm]]
 simp [m_hg, List.map_set, List.set_append, h]
theorem hg_len (n : Int) (zs : List Int) (e : Value) : (m_hg n zs e).length = zs.length + 2 := by simp [m_hg]

def m_ed (z : Nat → Int) (k : Nat) : List Value := (List.range (2 * k)).map fun j => I (z j)
theorem ed_len (z : Nat → Int) (k : Nat) : (m_ed z k).length = 2 * k := by simp [m_ed]
theorem ed_succ (z : Nat → Int) (k : Nat) : m_ed z k ++ [I (ea z k), I (eb z k)] = m_ed z (k + 1) := by
 unfold m_ed
 rw [show 2 * (k + 1) = 2 * k + 1 + 1 by omega, List.range_succ, List.range_succ]
 simp [ea, eb]
theorem takeAt_all (c : List Value) (n : Nat) (h : c.length = n) : takeAt c 0 n = some c := by
 rw [takeAt_old]
 subst h
 induction c with
 | nil => rfl
 | cons x c ih => simp only [takeA0, List.length_cons, ih]
theorem ed_nn (z : Nat → Int) (k : Nat) : m_nns (m_ed z k) = true := by
 unfold m_nns m_ed
 generalize List.range (2 * k) = l
 induction l with
 | nil => rfl
 | cons x l ih => simp only [List.map_cons, nns, ih, Bool.and_true]; rfl

theorem hsn_ok (r : Mem) (v : Int) (h : m_vG v = true) : GrT Tryd.prog r 36 [I v] (U (m_bit v)) :=
 GrT.of (SC_ok r) TOk.nil .nil rfl ⟨1, 3, by
  simp only [m_vG, Bool.and_eq_true, decide_eq_true_eq] at h
  rw [hsnA, dF (show ¬ v < 0 by omega), Bool.not_false, cond_true]
  obtain ⟨i, rfl⟩ : ∃ i : Nat, v = i := ⟨v.toNat, by omega⟩
  have hi : i < 16 := by omega
  have e : IntKind.wrap IntKind.u64 (Int.ofNat 1 * Int.ofNat 2 ^ min (Int.toNat (i : Int)) 64) = m_bit (i : Int) := by
   have : ∀ j : Fin 16, IntKind.wrap IntKind.u64 (Int.ofNat 1 * Int.ofNat 2 ^ min (Int.toNat ((j.val : Nat) : Int)) 64) = m_bit ((j.val : Nat) : Int) := by decide
   exact this ⟨i, hi⟩
  rw [e]; rfl⟩
theorem tHr_ok (r : Mem) : TOk (SC r) tHr := TOk.cons TOk.nil (eI1_ok fun v h => hsn_ok r v h)

def hrOs (n : Int) (z : Nat → Int) : Nat → OO
 | 0 => [some (.cells resH 59 0 0), some (.cells (m_hg n (nbz z 0) (.slice none 0 0)) 59 1 0)]
 | k + 1 => [some (.cells resH 59 0 0), some (.cells (m_hg n (nbz z (k + 1)) (.slice (some ⟨2, 0, none⟩) (k + 1) unk)) 59 1 0), some (.cells (m_ed z (k + 1)) 80 2 2)]
def hrVs (b off len cap : Nat) (k : Nat) : OV := [some (P0 0), some (P0 1), some (RS2 b off len cap), some (I (len : Nat)), some (I (k : Nat))]


theorem of_okAt {n : Int} {z : Nat → Int} {k : Nat} (h : 0 ≤ ea z k ∧ ea z k < eb z k ∧ eb z k < n ∧ n ≤ 16) : ∃ x y : Nat, ea z k = x ∧ eb z k = y ∧ x < y ∧ y < 16 := ⟨(ea z k).toNat, (eb z k).toNat, by omega, by omega, by omega, by omega⟩

theorem hr_round1 (r : Mem) (n : Int) (b off len cap : Nat) (z : Nat → Int) (hz : rowAt r b off (2 * len) z) (hl : len ≤ 1000000) (k : Nat) (hk0 : k = 0) (hk : k < len) (ho : 0 ≤ ea z k ∧ ea z k < eb z k ∧ eb z k < n ∧ n ≤ 16) (Q : OV → List Nat → OO → Prop) (hQ : Q (hrVs b off len cap (k + 1)) [] (hrOs n z (k + 1))) (KX : Nat → OV → List Nat → OO → CR) (kr : KS) :
  run (SC r) 7341811 61 1 Hr_4 (lvlT (SC r) tHr .nil 1 1) none (Outs.ask 0 ⟨lvHr, [.t, .t], Q⟩) (fun i => rbK 0 lvHr [.t, .t] (KX i)) kr [] (bT lvHr (hrVs b off len cap k) .nil) [] (mkA (hrOs n z k)) = okR := by
 have c1 : (k : Int) < Int.ofNat len := by simp; omega
 have c2 : 0 ≤ (k : Int) := by omega
 have c3 : Nat.blt k len = true := Nat.ble_eq_true_of_le (by omega)
 have hx := of_okAt ho
 obtain ⟨x, y, hx1, hy1, hxy, hy16⟩ := hx
 have l0 : r b (Nat.add off (Nat.mul k 2)) = some (I (x : Nat)) := by
  have := hz (2 * k) (by omega)
  rw [show Nat.add off (Nat.mul k 2) = off + 2 * k by simp [Nat.mul_comm], ← hx1]
  exact this
 have l1 : r b (Nat.succ (Nat.add off (Nat.mul k 2))) = some (I (y : Nat)) := by
  have := hz (2 * k + 1) (by omega)
  rw [show Nat.succ (Nat.add off (Nat.mul k 2)) = off + (2 * k + 1) by simp [Nat.mul_comm]; omega, ← hy1]
  exact this
 have w : IntKind.wrap IntKind.i64 ((k : Int) + Int.ofNat 1) = ((k + 1 : Nat) : Int) := by rw [wrI (by simp; omega)]; simp
 have ii : ∀ x, isI IntKind.i64 (I x) = true := fun _ => rfl
 have oo : ∀ x, ofI (I x) = x := fun _ => rfl
 have x0 : 0 ≤ ((x : Nat) : Int) := by omega
 have y0 : 0 ≤ ((y : Nat) : Int) := by omega
 have x16 : Nat.blt x 16 = true := Nat.ble_eq_true_of_le (by omega)
 have y16 : Nat.blt y 16 = true := Nat.ble_eq_true_of_le (by omega)
 have vx : m_vG ((x : Nat) : Int) = true := by simp only [m_vG, Bool.and_eq_true, decide_eq_true_eq]; omega
 have vy : m_vG ((y : Nat) : Int) = true := by simp only [m_vG, Bool.and_eq_true, decide_eq_true_eq]; omega
 have vv : ∀ z : Int, m_eqv (.int .i64 z) (.int .i64 z) = true := fun z => by simp [m_eqv, veq]
 have hl16 : ∀ zs : List Int, zs.length = 16 → ∀ e : Value, ∀ i, i < 16 → Nat.blt (Nat.add 1 (Nat.mul i 1)) (m_hg n zs e).length = true := fun zs hzs e i hi => Nat.ble_eq_true_of_le (by rw [hg_len, hzs]; simp; omega)
 have ez : jnZ (nbz z k) x y = nbz z (k + 1) := by rw [nbz, hx1, hy1]; simp
 have gx : ∀ e, (m_hg n (nbz z k) e)[Nat.add 1 (Nat.mul x 1)]? = some (U ((nbz z k).getD x 0)) := fun e => hg_get (by rw [nbz_len]; omega)
 have gl : ∀ e, Nat.blt (Nat.add 1 (Nat.mul x 1)) (m_hg n (nbz z k) e).length = true := fun e => hl16 _ (nbz_len z k) e x (by omega)
 have gs : ∀ e (u : Int), (m_hg n (nbz z k) e).set (Nat.add 1 (Nat.mul x 1)) (.int .u64 u) = m_hg n ((nbz z k).set x u) e := fun e u => hg_set (by rw [nbz_len]; omega) u
 have gy : ∀ e (u : Int), (m_hg n ((nbz z k).set x u) e)[Nat.add 1 (Nat.mul y 1)]? = some (U (((nbz z k).set x u).getD y 0)) := fun e u => hg_get (by rw [List.length_set, nbz_len]; omega)
 have gl2 : ∀ e (u : Int), Nat.blt (Nat.add 1 (Nat.mul y 1)) (m_hg n ((nbz z k).set x u) e).length = true := fun e u => hl16 _ (by rw [List.length_set, nbz_len]) e y (by omega)
 have gs2 : ∀ e (u v : Int), (m_hg n ((nbz z k).set x u) e).set (Nat.add 1 (Nat.mul y 1)) (.int .u64 v) = m_hg n (((nbz z k).set x u).set y v) e := fun e u v => hg_set (by rw [List.length_set, nbz_len]; omega) v
 obtain ⟨z0, z1, z2, z3, z4, z5, z6, z7, z8, z9, z10, z11, z12, z13, z14, z15, hz16⟩ := list16 (nbz_len z k)
 have hOs : hrOs n z k = [some (.cells resH 59 0 0), some (.cells (m_hg n (nbz z k) (.slice none 0 0)) 59 1 0)] := by rw [hk0]; rfl
 have hn := hrB1 r n b off len cap k z0 z1 z2 z3 z4 z5 z6 z7 z8 z9 z10 z11 z12 z13 z14 z15 (Outs.ask 0 ⟨lvHr, [.t, .t], Q⟩) KX kr
 simp only [dT c1, dT c2, c3, cond_true, Int.toNat_natCast, l0, l1, ii, oo, dT x0, dT y0, x16, y16, vx, vy, vv, w, hg_lit, ← hz16, gx, gl, isI_u, ofI_u, veq_u, gs, gy, gl2, gs2, bit_of] at hn
 have es : ((nbz z k).set x (ibits BinOp.or IntKind.u64 ((nbz z k).getD x 0) (bit y))).set y (ibits BinOp.or IntKind.u64 (((nbz z k).set x (ibits BinOp.or IntKind.u64 ((nbz z k).getD x 0) (bit y))).getD y 0) (bit x)) = nbz z (k + 1) := ez
 rw [es] at hn
 rw [hOs]
 refine Eq.trans hn ?_
 obtain ⟨y0, y1, y2, y3, y4, y5, y6, y7, y8, y9, y10, y11, y12, y13, y14, y15, hy16'⟩ := list16 (nbz_len z (k + 1))
 rw [hrOs, hy16'] at hQ
 rw [hy16']
 subst hk0
 have hQ' : Q (hrVs b off len cap 1) [] [some (.cells resH 59 0 0), some (.cells [I n, U y0, U y1, U y2, U y3, U y4, U y5, U y6, U y7, U y8, U y9, U y10, U y11, U y12, U y13, U y14, U y15, .slice (some ⟨2, 0, none⟩) 1 unk] 59 1 0), some (.cells [I (x : Nat), I (y : Nat)] 80 2 2)] := by
  have e : m_ed z 1 = [I (x : Nat), I (y : Nat)] := by rw [← hx1, ← hy1]; rfl
  rw [← e]
  exact hQ
 exact Eq.trans (by kernel_rfl) (qq_ok hQ')

theorem hr_round2 (r : Mem) (n : Int) (b off len cap : Nat) (z : Nat → Int) (hz : rowAt r b off (2 * len) z) (hl : len < 1000000) (k' k : Nat) (hk0 : k = k' + 1) (hk : k < len) (ho : 0 ≤ ea z k ∧ ea z k < eb z k ∧ eb z k < n ∧ n ≤ 16) (Q : OV → List Nat → OO → Prop) (hQ : Q (hrVs b off len cap (k + 1)) [] (hrOs n z (k + 1))) (KX : Nat → OV → List Nat → OO → CR) (kr : KS) :
  run (SC r) 7341811 61 1 Hr_4 (lvlT (SC r) tHr .nil 1 1) none (Outs.ask 0 ⟨lvHr, [.t, .t], Q⟩) (fun i => rbK 0 lvHr [.t, .t] (KX i)) kr [] (bT lvHr (hrVs b off len cap k) .nil) [] (mkA (hrOs n z k)) = okR := by
 have c1 : (k : Int) < Int.ofNat len := by simp; omega
 have c2 : 0 ≤ (k : Int) := by omega
 have c3 : Nat.blt k len = true := Nat.ble_eq_true_of_le (by omega)
 have hx := of_okAt ho
 obtain ⟨x, y, hx1, hy1, hxy, hy16⟩ := hx
 have l0 : r b (Nat.add off (Nat.mul k 2)) = some (I (x : Nat)) := by
  have := hz (2 * k) (by omega)
  rw [show Nat.add off (Nat.mul k 2) = off + 2 * k by simp [Nat.mul_comm], ← hx1]
  exact this
 have l1 : r b (Nat.succ (Nat.add off (Nat.mul k 2))) = some (I (y : Nat)) := by
  have := hz (2 * k + 1) (by omega)
  rw [show Nat.succ (Nat.add off (Nat.mul k 2)) = off + (2 * k + 1) by simp [Nat.mul_comm]; omega, ← hy1]
  exact this
 have w : IntKind.wrap IntKind.i64 ((k : Int) + Int.ofNat 1) = ((k + 1 : Nat) : Int) := by rw [wrI (by simp; omega)]; simp
 have ii : ∀ x, isI IntKind.i64 (I x) = true := fun _ => rfl
 have oo : ∀ x, ofI (I x) = x := fun _ => rfl
 have x0 : 0 ≤ ((x : Nat) : Int) := by omega
 have y0 : 0 ≤ ((y : Nat) : Int) := by omega
 have x16 : Nat.blt x 16 = true := Nat.ble_eq_true_of_le (by omega)
 have y16 : Nat.blt y 16 = true := Nat.ble_eq_true_of_le (by omega)
 have vx : m_vG ((x : Nat) : Int) = true := by simp only [m_vG, Bool.and_eq_true, decide_eq_true_eq]; omega
 have vy : m_vG ((y : Nat) : Int) = true := by simp only [m_vG, Bool.and_eq_true, decide_eq_true_eq]; omega
 have vv : ∀ z : Int, m_eqv (.int .i64 z) (.int .i64 z) = true := fun z => by simp [m_eqv, veq]
 have hl16 : ∀ zs : List Int, zs.length = 16 → ∀ e : Value, ∀ i, i < 16 → Nat.blt (Nat.add 1 (Nat.mul i 1)) (m_hg n zs e).length = true := fun zs hzs e i hi => Nat.ble_eq_true_of_le (by rw [hg_len, hzs]; simp; omega)
 have ez : jnZ (nbz z k) x y = nbz z (k + 1) := by rw [nbz, hx1, hy1]; simp
 have gx : ∀ e, (m_hg n (nbz z k) e)[Nat.add 1 (Nat.mul x 1)]? = some (U ((nbz z k).getD x 0)) := fun e => hg_get (by rw [nbz_len]; omega)
 have gl : ∀ e, Nat.blt (Nat.add 1 (Nat.mul x 1)) (m_hg n (nbz z k) e).length = true := fun e => hl16 _ (nbz_len z k) e x (by omega)
 have gs : ∀ e (u : Int), (m_hg n (nbz z k) e).set (Nat.add 1 (Nat.mul x 1)) (.int .u64 u) = m_hg n ((nbz z k).set x u) e := fun e u => hg_set (by rw [nbz_len]; omega) u
 have gy : ∀ e (u : Int), (m_hg n ((nbz z k).set x u) e)[Nat.add 1 (Nat.mul y 1)]? = some (U (((nbz z k).set x u).getD y 0)) := fun e u => hg_get (by rw [List.length_set, nbz_len]; omega)
 have gl2 : ∀ e (u : Int), Nat.blt (Nat.add 1 (Nat.mul y 1)) (m_hg n ((nbz z k).set x u) e).length = true := fun e u => hl16 _ (by rw [List.length_set, nbz_len]) e y (by omega)
 have gs2 : ∀ e (u v : Int), (m_hg n ((nbz z k).set x u) e).set (Nat.add 1 (Nat.mul y 1)) (.int .u64 v) = m_hg n (((nbz z k).set x u).set y v) e := fun e u v => hg_set (by rw [List.length_set, nbz_len]; omega) v
 obtain ⟨z0, z1, z2, z3, z4, z5, z6, z7, z8, z9, z10, z11, z12, z13, z14, z15, hz16⟩ := list16 (nbz_len z k)
 have hOs : hrOs n z k = [some (.cells resH 59 0 0), some (.cells (m_hg n (nbz z k) (.slice (some ⟨2, 0, none⟩) k unk)) 59 1 0), some (.cells (m_ed z k) 80 2 2)] := by rw [hk0]; rfl
 have hn := hrB2 r n b off len cap k z0 z1 z2 z3 z4 z5 z6 z7 z8 z9 z10 z11 z12 z13 z14 z15 k (m_ed z k) (Outs.ask 0 ⟨lvHr, [.t, .t], Q⟩) KX kr
 have m1 : Nat.ble (Nat.add k 1) 1000000 = true := Nat.ble_eq_true_of_le (by simp; omega)
 have tk : takeAt (m_ed z k) 0 (Nat.mul k 2) = some (m_ed z k) := takeAt_all _ _ (by rw [ed_len]; simp [Nat.mul_comm])
 simp only [dT c1, dT c2, c3, cond_true, Int.toNat_natCast, l0, l1, ii, oo, dT x0, dT y0, x16, y16, vx, vy, vv, w, m1, tk, hg_lit, ← hz16, gx, gl, isI_u, ofI_u, veq_u, gs, gy, gl2, gs2, bit_of] at hn
 have es : ((nbz z k).set x (ibits BinOp.or IntKind.u64 ((nbz z k).getD x 0) (bit y))).set y (ibits BinOp.or IntKind.u64 (((nbz z k).set x (ibits BinOp.or IntKind.u64 ((nbz z k).getD x 0) (bit y))).getD y 0) (bit x)) = nbz z (k + 1) := ez
 rw [es] at hn
 rw [hOs]
 refine Eq.trans hn ?_
 obtain ⟨y0, y1, y2, y3, y4, y5, y6, y7, y8, y9, y10, y11, y12, y13, y14, y15, hy16'⟩ := list16 (nbz_len z (k + 1))
 rw [hrOs, hy16'] at hQ
 rw [hy16']
 have ee := ed_succ z k
 rw [hx1, hy1] at ee
 have nn1 := ed_nn z (k + 1)
 rw [← ee] at hQ nn1
 refine Eq.trans (b := guardK (m_nns (m_ed z k ++ [I (x : Nat), I (y : Nat)]) && true) (qq (Q (hrVs b off len cap (k + 1)) [] [some (.cells resH 59 0 0), some (.cells (m_hg n [y0, y1, y2, y3, y4, y5, y6, y7, y8, y9, y10, y11, y12, y13, y14, y15] (.slice (some ⟨2, 0, none⟩) (k + 1) unk)) 59 1 0), some (.cells (m_ed z k ++ [I (x : Nat), I (y : Nat)]) 80 2 2)]))) (by kernel_rfl) ?_
 rw [nn1]
 exact qq_ok hQ

end Go.Proofs

/- hue's reading of a graph and its degree: what the calls answer. -/
set_option linter.unusedVariables false
set_option linter.unusedSimpArgs false
namespace Go.Proofs
open Go Go.Ev Go.Num
set_option maxRecDepth 100000

theorem nb_same (m : Nat) (hm : m ≤ 16) (z : Nat → Int) : ∀ k, (∀ i, i < k → 0 ≤ ea z i ∧ ea z i < eb z i ∧ eb z i < m) → ∀ i, i < m → (nbz z k).getD i 0 = ((nbN m z k).getD i 0 : Nat)
 | 0, _, i, hi => by
  rw [nbz, nbN, List.getD_eq_getElem?_getD, List.getD_eq_getElem?_getD, List.getElem?_replicate_of_lt (by omega), List.getElem?_replicate_of_lt (by omega)]
  rfl
 | k + 1, h, i, hi => by
  have ih := nb_same m hm z k fun i hi => h i (by omega)
  obtain ⟨x, y, hx, hy, hxy, hy16⟩ := of_okAt (n := (m : Int)) (z := z) (k := k) ⟨(h k (by omega)).1, (h k (by omega)).2.1, (h k (by omega)).2.2, by omega⟩
  have hym : y < m := by have := (h k (by omega)).2.2; omega
  have hw := nbN_lt m z (n := (m : Int)) (by omega) k fun i hi => h i (by omega)
  rw [nbz, nbN, hx, hy, Int.toNat_natCast, Int.toNat_natCast]
  have step : ∀ (zs : List Int) (ws : List Nat), zs.length = 16 → ws.length = m → (∀ w ∈ ws, w < 65536) → (∀ i, i < m → zs.getD i 0 = (ws.getD i 0 : Nat)) → ∀ (u v : Nat), u < m → v < 16 → ∀ i, i < m → (addB zs u (bit v)).getD i 0 = ((orN ws u v).getD i 0 : Nat) := fun zs ws hz hl hw hs u v hu hv i hi => by
   unfold addB orN
   have g1 : ∀ (l : List Int) (a : Int), i < l.length → (l.set u a).getD i 0 = if u = i then a else l.getD i 0 := fun l a h => by
    simp only [List.getD_eq_getElem?_getD, List.getElem?_set]
    by_cases c : u = i
    ·subst c; rw [if_pos rfl, if_pos rfl, if_pos h]; rfl
    ·rw [if_neg c, if_neg c]
   have g2 : ∀ (l : List Nat) (a : Nat), i < l.length → (l.set u a).getD i 0 = if u = i then a else l.getD i 0 := fun l a h => by
    simp only [List.getD_eq_getElem?_getD, List.getElem?_set]
    by_cases c : u = i
    ·subst c; rw [if_pos rfl, if_pos rfl, if_pos h]; rfl
    ·rw [if_neg c, if_neg c]
   rw [g1 _ _ (by omega), g2 _ _ (by omega)]
   by_cases c : u = i
   ·subst c
    rw [if_pos rfl, if_pos rfl]
    unfold orB
    rw [hs u hi, show bit v = ((2 ^ v : Nat) : Int) by unfold bit; simp]
    exact or_nat (.inl rfl) (getD_lt hw u) (bit16 hv)
   ·rw [if_neg c, if_neg c]
    exact hs i hi
  have s1 := step (nbz z k) (nbN m z k) (nbz_len z k) (nbN_len m z k) hw ih x y (by omega) hy16
  exact step _ _ (by rw [addB_len]; exact nbz_len z k) (by rw [orN_len]; exact nbN_len m z k) (orN_lt hw x hy16) s1 y x hym (by omega) i hi


theorem ck_valid {n : Int} {z : Nat → Int} {len : Nat} (h : ckG n z len = 0) : 1 ≤ n ∧ n ≤ 16 ∧ okAll n z len = true := by
 unfold ckG at h
 split at h
 ·cases h
 ·split at h
  ·rename_i h1 h2; exact ⟨by omega, by omega, h2⟩
  ·cases h

def vRd (n : Int) (z : Nat → Int) (len : Nat) : Value := .tuple ⟨[.agg ⟨m_hg n (nbz z len) (match len with | 0 => .slice none 0 0 | k + 1 => .slice (some ⟨1, 0, none⟩) (k + 1) unk)⟩, I 0]⟩
def aRd (n : Int) (z : Nat → Int) : Nat → AW
 | 0 => mkA [some (.cells (m_hg n (nbz z 0) (.slice none 0 0)) 59 0 0)]
 | k + 1 => mkA [some (.cells (m_hg n (nbz z (k + 1)) (.slice (some ⟨1, 0, none⟩) (k + 1) unk)) 59 0 0), some (.cells (m_ed z (k + 1)) 80 1 2)]

theorem hrC1 (r : Mem) (n : Int) (b off len cap : Nat) (i : Int) (z0 z1 z2 z3 z4 z5 z6 z7 z8 z9 z10 z11 z12 z13 z14 z15 : Int) (fs : FnsC) (K : OV → List Nat → OO → CR) (kn : KS) (kx : Nat → KS) : run (SC r) 7341811 61 1 Hr_5 fs none kn kx (rbK 0 [4, 5] [.t] K) [] (bT lvHr [some (P0 0), some (P0 1), some (RS2 b off len cap), some (I (len : Nat)), some (I i)] .nil) [] (mkA [some (.cells resH 59 0 0), some (.cells [I n, U z0, U z1, U z2, U z3, U z4, U z5, U z6, U z7, U z8, U z9, U z10, U z11, U z12, U z13, U z14, U z15, .slice none 0 0] 59 1 0)]) =
    K [some (.pointer (some ⟨0, 0, none⟩)), some (I (Int.ofNat 0))] [] [some (.cells [I n, U z0, U z1, U z2, U z3, U z4, U z5, U z6, U z7, U z8, U z9, U z10, U z11, U z12, U z13, U z14, U z15, .slice none 0 0] 59 0 0)] := by kernel_rfl

theorem hrC2 (r : Mem) (n : Int) (b off len cap : Nat) (i : Int) (z0 z1 z2 z3 z4 z5 z6 z7 z8 z9 z10 z11 z12 z13 z14 z15 : Int) (m : Nat) (c : List Value) (fs : FnsC) (K : OV → List Nat → OO → CR) (kn : KS) (kx : Nat → KS) : run (SC r) 7341811 61 1 Hr_5 fs none kn kx (rbK 0 [4, 5] [.t] K) [] (bT lvHr [some (P0 0), some (P0 1), some (RS2 b off len cap), some (I (len : Nat)), some (I i)] .nil) [] (mkA [some (.cells resH 59 0 0), some (.cells [I n, U z0, U z1, U z2, U z3, U z4, U z5, U z6, U z7, U z8, U z9, U z10, U z11, U z12, U z13, U z14, U z15, .slice (some ⟨2, 0, none⟩) m unk] 59 1 0), some (.cells c 80 2 2)]) =
    bif true && (m_nns c && true) then K [some (.pointer (some ⟨0, 0, none⟩)), some (I (Int.ofNat 0))] [] [some (.cells [I n, U z0, U z1, U z2, U z3, U z4, U z5, U z6, U z7, U z8, U z9, U z10, U z11, U z12, U z13, U z14, U z15, .slice (some ⟨1, 0, none⟩) m unk] 59 0 0), some (.cells c 80 1 2)] else .fail 420 := by kernel_rfl

theorem tHc_ok (r : Mem) (hm : ∀ b j u, tabM b j = some u → r b j = some u) (n : Int) (b off len cap : Nat) (z : Nat → Int) (hz : rowAt r b off (2 * len) z) (hl : len ≤ 1000000) : TOk (SC r) (tHc [I n, RS2 b off len cap] (ckG n z len)) :=
 TOk.cons TOk.nil (entV_ok (partCheck_ok r hm n b off len cap z hz hl) rfl)

theorem hread_ok (r : Mem) (hm : ∀ b j u, tabM b j = some u → r b j = some u) (n : Int) (b off len cap : Nat) (z : Nat → Int) (hz : rowAt r b off (2 * len) z) (hl : len < 1000000) (hok : ckG n z len = 0) :
  SOk (SC r) 22 [I n, RS2 b off len cap] emptyA fun v A => v = vRd n z len ∧ A = aRd n z len := by
 obtain ⟨hn1, hn2, hall⟩ := ck_valid hok
 have h3 := okAll_at hall
 refine callL (SC_ok r) (by kernel_rfl) ((bodySC r _).trans Hr_eq) (nt := 61) (by kernel_rfl) (rs := [.cell 4 59, .tmp 5]) (by kernel_rfl) 7341811 rfl (.step (.step (.step .base))) (t := tHc [I n, RS2 b off len cap] (ckG n z len)) (tHc_ok r hm n b off len cap z hz (by omega)) (tm := .nil) (L := 1) (d := 1) lvHr [.t, .t]
  (fun j vs ms os => ∃ k, k ≤ len ∧ j = len - k ∧ vs = hrVs b off len cap k ∧ ms = [] ∧ os = hrOs n z k)
  ⟨lvHr, [.t, .t], fun vs ms os => vs = hrVs b off len cap len ∧ ms = [] ∧ os = hrOs n z len⟩
  ⟨[4, 5], [.t], fun vs ms os => vs = [some (P0 0), some (I 0)] ∧ ms = [] ∧ finish (SC r) 7341811 [.cell 4 59, .tmp 5] (St.of [4, 5] vs ms os) = .ret (vRd n z len) (aRd n z len)⟩ ?_ ?_ ?_ ?_
 ·refine (hrA r n (ckG n z len) b off len cap _ _ _).trans ?_
  rw [show m_same _ _ = true from same_rfl _, cond_true, hok]
  exact qq_ok ⟨len, 0, Nat.zero_le _, rfl, rfl, rfl, rfl⟩
 ·rintro j vs ms os ⟨k, hk, rfl, rfl, rfl, rfl⟩
  refine ⟨tHr, tHr_ok r, .nil, 1, 1, 1, ?_⟩
  by_cases c : k < len
  ·have ho : 0 ≤ ea z k ∧ ea z k < eb z k ∧ eb z k < n ∧ n ≤ 16 := ⟨(h3 k c).1, (h3 k c).2.1, (h3 k c).2.2, hn2⟩
   have hQ : ∃ j', j' < len - k ∧ ∃ k', k' ≤ len ∧ j' = len - k' ∧ hrVs b off len cap (k + 1) = hrVs b off len cap k' ∧ ([] : List Nat) = [] ∧ hrOs n z (k + 1) = hrOs n z k' := ⟨len - (k + 1), by omega, k + 1, c, rfl, rfl, rfl, rfl⟩
   cases k with
   | zero => exact hr_round1 r n b off len cap z hz (by omega) 0 rfl c ho (fun vs ms os => ∃ j', j' < len - 0 ∧ ∃ k', k' ≤ len ∧ j' = len - k' ∧ vs = hrVs b off len cap k' ∧ ms = [] ∧ os = hrOs n z k') hQ _ _
   | succ k' => exact hr_round2 r n b off len cap z hz hl k' (k' + 1) rfl c ho (fun vs ms os => ∃ j', j' < len - (k' + 1) ∧ ∃ k', k' ≤ len ∧ j' = len - k' ∧ vs = hrVs b off len cap k' ∧ ms = [] ∧ os = hrOs n z k') hQ _ _
  ·have hkl : k = len := by omega
   subst hkl
   have c1 : ¬ (k : Int) < Int.ofNat k := by simp
   have hn' := ed_nn z k
   obtain ⟨z0, z1, z2, z3, z4, z5, z6, z7, z8, z9, z10, z11, z12, z13, z14, z15, hz16⟩ := list16 (nbz_len z k)
   cases k with
   | zero =>
    have hn := hrB1 r n b off 0 cap (0 : Nat) z0 z1 z2 z3 z4 z5 z6 z7 z8 z9 z10 z11 z12 z13 z14 z15
    simp only [dF c1, cond_false] at hn
    simp only [hrOs, hz16]
    exact (hn _ _ _).trans (qq_ok ⟨rfl, rfl, rfl⟩)
   | succ k' =>
    have hn := hrB2 r n b off (k' + 1) cap (k' + 1 : Nat) z0 z1 z2 z3 z4 z5 z6 z7 z8 z9 z10 z11 z12 z13 z14 z15 (k' + 1) (m_ed z (k' + 1))
    simp only [dF c1, cond_false, hn', Bool.and_true, cond_true] at hn
    simp only [hrOs, hz16]
    exact (hn _ _ _).trans (qq_ok ⟨rfl, rfl, rfl⟩)
 ·rintro vs ms os ⟨rfl, rfl, rfl⟩
  have hn' := ed_nn z len
  obtain ⟨z0, z1, z2, z3, z4, z5, z6, z7, z8, z9, z10, z11, z12, z13, z14, z15, hz16⟩ := list16 (nbz_len z len)
  refine ⟨_, TOk.nil, .nil, 1, 1, 1, ?_⟩
  cases len with
  | zero =>
   simp only [hrOs, hz16]
   exact (hrC1 r n b off 0 cap (0 : Nat) z0 z1 z2 z3 z4 z5 z6 z7 z8 z9 z10 z11 z12 z13 z14 z15 _ _ _ _).trans (qq_ok ⟨rfl, rfl, by simp only [vRd, aRd, hz16]; kernel_rfl⟩)
  | succ k' =>
   simp only [hrOs, hz16]
   have hn := hrC2 r n b off (k' + 1) cap (k' + 1 : Nat) z0 z1 z2 z3 z4 z5 z6 z7 z8 z9 z10 z11 z12 z13 z14 z15 (k' + 1) (m_ed z (k' + 1))
   simp only [hn', Bool.and_true, cond_true] at hn
   exact (hn _ _ _ _).trans (qq_ok ⟨rfl, rfl, by simp only [vRd, aRd, hz16]; kernel_rfl⟩)
 ·rintro vs ms os ⟨rfl, rfl, h⟩
  exact ⟨_, _, h, rfl, rfl⟩

end Go.Proofs

/- hue's loosest vertex, order, core: run. -/
namespace Go.Proofs
open Go Go.Ev Go.Num
set_option linter.unusedVariables false
set_option linter.unusedSimpArgs false
set_option maxRecDepth 100000

def hG (n : Int) (w : Nat → Int) (e : Value) : List Value := [I n, U (w 0), U (w 1), U (w 2), U (w 3), U (w 4), U (w 5), U (w 6), U (w 7), U (w 8), U (w 9), U (w 10), U (w 11), U (w 12), U (w 13), U (w 14), U (w 15), e]
def m_cI (c : List Value) (v : Int) : Int := match c[v.toNat + 1]? with
 | some (.int _ z) => z
 | _ => 0
def m_w (c : List Value) (i : Nat) : Nat := (m_cI c i).toNat
def m_eI (c : List Value) (s v : Int) : Int := (eN (m_w c) s.toNat v.toNat : Nat)
def m_lo (c : List Value) (s : Int) : Int := (loN (m_w c) s.toNat : Nat)
def m_w16 (s : Int) : Bool := decide (0 ≤ s ∧ s < 65536)
def m_w15 (s : Int) : Bool := decide (0 ≤ s ∧ s < 16)
noncomputable def eEt (c : List Value) : Ent := ent (fun args _ => match args with
  | [.agg ⟨c'⟩, .int .u64 s, .int .i64 v] => m_same [.agg ⟨c'⟩] [.agg ⟨c⟩] && m_w16 s && m_w15 v
  | _ => false) (fun args _ => match args with
  | [_, .int .u64 s, .int .i64 v] => I (m_eI c s v)
  | _ => undef)
noncomputable def tEt (c : List Value) : Tbl := tcons 47 (eEt c) fun _ => none
def m_v17 (v : Int) : Bool := decide (0 ≤ v ∧ v ≤ 16)
def tHp : Tbl := tcons 84 ePop fun _ => none

noncomputable def cLo : Code := bodyOf S0 46
noncomputable def Lo_0 : Code := (lc cLo)
noncomputable def Lo_1 : Code := (lc (rc cLo))
noncomputable def Lo_2 : Code := (lc (lc (rc (rc cLo))))
noncomputable def Lo_3 : Code := (ic (rc (lc (rc (rc cLo)))))
noncomputable def Lo_4 : Code := (rc (rc (rc cLo)))
noncomputable def k_l1 : Code := rgA Lo_3
noncomputable def k_l2 : Code := rgB Lo_3
theorem Lo_eq : cLo = (.seq Lo_0 (.seq Lo_1 (.seq (.seq Lo_2 (.block 0 (.rangeFunc (.tmp 10) #[11] k_l1 k_l2))) Lo_4))) := by kernel_rfl
noncomputable def Lo_b : Code := ic k_l2
theorem Lb_eq : k_l2 = .block 1 Lo_b := by kernel_rfl
def oHg (c : List Value) (i : Nat) : Option AObj := some (.cells c 59 i 0)
def oHs (x : Int) (i : Nat) : Option AObj := some (.cells [U x] 55 i 0)
def oIn (x : Int) (i : Nat) : Option AObj := some (.cells [I x] 3 i 0)
abbrev fHc (i : Nat) : Value := .func (.func 63) ⟨[]⟩ ⟨[P0 i]⟩
def lvLo : List Nat := [2, 3, 5, 10]
def flLo : List Fl := [.g, .t, .t, .t]
def vLo : OV := [some (P0 0), some (P0 1), some (P0 2), some (fHc 3)]
noncomputable def rLo (st : LoopState) (pend : Option Code) : AObj := .loop st pend 3199 ⟨[], bT lvLo vLo .nil⟩ 23 #[11] k_l1 k_l2 4
noncomputable def oLo (c : List Value) (s f : Int) (st : LoopState) : OO := [oHg c 0, oHs s 1, oIn f 2, oHs s 3, some .defd, some (rLo st none)]
def fl6 : List Fl := [.g, .t, .t, .t, .t, .l lvLo]
def lvLr : List Nat := [2, 3, 5, 6]
def vLr (v : Int) : OV := [some (P0 0), some (P0 1), some (P0 2), some (I v)]


theorem etA (r : Mem) (n : Int) (w : Nat → Int) (e : Value) (s v : Int) : (lvlT (SC r) tHp .nil 1 3).call 47 [.agg ⟨hG n w e⟩, U s, I v] emptyA fin =
    bif decide (0 ≤ v) then bif Nat.blt (Int.toNat v) 16 then Option.casesOn (hG n w (e))[Nat.add 1 (Nat.mul (Int.toNat v) 1)]? (.fail 423) fun val => bif isI IntKind.u64 val then bif m_popG (ibits BinOp.and IntKind.u64 (ofI val) s) then .ret (I (m_pop (ibits BinOp.and IntKind.u64 (ofI val) s))) (AW.mk 0 .nil .nil) else .fail 420 else .fail 420 else .fail 420 else .fail 420 := by kernel_rfl

theorem haA (r : Mem) (n : Int) (w : Nat → Int) (e : Value) : (lvlT (SC r) (tcons 36 (eI1 m_v17 fun v => U (m_bit v)) fun _ => none) .nil 1 3).call 45 [.agg ⟨hG n w e⟩] emptyA fin =
    bif m_v17 n then .ret (U (IntKind.wrap .u64 (m_bit n - Int.ofNat 1))) (AW.mk 0 .nil .nil) else .fail 420 := by kernel_rfl

theorem loA (r : Mem) (n : Int) (w : Nat → Int) (e : Value) (s : Int) (K : OV → List Nat → OO → CR) (kx : Nat → KS) (kr : KS) : run (SC r) 3199 23 1 (.seq Lo_0 (.seq Lo_1 Lo_2)) (lvlT (SC r) tHw .nil 1 3) none (rbK 0 lvLo flLo K) kx kr (sc0 3199 [.agg ⟨hG n w e⟩, U s]) (tr0 3199 [.agg ⟨hG n w e⟩, U s]) [] emptyA =
    bif m_twG s then bif m_nns (hG n w (e)) && (true && (true && (true && true))) then K [some (P0 0), some (P0 1), some (P0 2), some (.func (Fn.func 63) ⟨[]⟩ ⟨[P0 3]⟩)] [] [some (.cells (hG n w (e)) 59 0 0), some (.cells [U s] 55 1 0), some (.cells [I (m_tw s)] 3 2 0), some (.cells [U s] 55 3 0)] else .fail 420 else .fail 420 := by kernel_rfl

theorem loB (r : Mem) (c : List Value) (s f v : Int) (fs : FnsC) (K : OV → List Nat → OO → CR) (kx : Nat → KS) (kr : KS) : run (SC r) 3199 23 1 k_l1 fs (some 5) (begK 5 (rbK 6 lvLr fl6 K)) kx kr [] (bT (lvLo ++ [11]) (vLo ++ [some (I v)]) .nil) [] (mkA (oLo c s f .ready)) =
    bif m_nns c && (true && (true && (true && true))) then K [some (P0 0), some (P0 1), some (P0 2), some (I v)] [] [some (.cells c 59 0 0), some (.cells [U s] 55 1 0), some (.cells [I f] 3 2 0), some (.cells [U s] 55 3 0), some .defd, some (rLo LoopState.busy none)] else .fail 420 := by kernel_rfl

theorem loCN (r : Mem) (n : Int) (w : Nat → Int) (s f v : Int) (K : OV → List Nat → OO → CR) (kx : Nat → KS) (kr : KS) : run (SC r) 3199 23 1 Lo_b (lvlT (SC r) (tEt (hG n w (.slice none 0 0))) .nil 1 2) (some 5) (rbK 6 [] fl6 K) kx kr [] (bT lvLr (vLr v) .nil) [] (mkA (oLo (hG n w (.slice none 0 0)) s f .busy)) =
    bif m_same [.agg ⟨(hG n w (.slice none 0 0))⟩] [.agg ⟨(hG n w (.slice none 0 0))⟩] && m_w16 s && m_w15 v then bif m_same [.agg ⟨(hG n w (.slice none 0 0))⟩] [.agg ⟨(hG n w (.slice none 0 0))⟩] && m_w16 s && m_w15 f then bif decide (m_eI (hG n w (.slice none 0 0)) s v ≤ m_eI (hG n w (.slice none 0 0)) s f) then bif m_eqv (I f) (I f) then bif m_eqv (I f) (I f) then bif m_eqv (U s) (U s) then bif m_eqv (U s) (U s) then bif m_eqv (.agg ⟨(hG n w (.slice none 0 0))⟩) (.agg ⟨(hG n w (.slice none 0 0))⟩) then bif m_eqv (.agg ⟨(hG n w (.slice none 0 0))⟩) (.agg ⟨(hG n w (.slice none 0 0))⟩) then bif m_eqv (U s) (U s) then bif m_eqv (.agg ⟨(hG n w (.slice none 0 0))⟩) (.agg ⟨(hG n w (.slice none 0 0))⟩) then K [] [] [some (.cells (hG n w (.slice none 0 0)) 59 0 0), some (.cells [U s] 55 1 0), some (.cells [I v] 3 2 0), some (.cells [U s] 55 3 0), some .defd, some (rLo LoopState.busy none)] else .fail 420 else .fail 420 else .fail 420 else .fail 420 else .fail 420 else .fail 420 else .fail 420 else .fail 420 else bif m_eqv (I f) (I f) then bif m_eqv (I f) (I f) then bif m_eqv (U s) (U s) then bif m_eqv (U s) (U s) then bif m_eqv (.agg ⟨(hG n w (.slice none 0 0))⟩) (.agg ⟨(hG n w (.slice none 0 0))⟩) then bif m_eqv (.agg ⟨(hG n w (.slice none 0 0))⟩) (.agg ⟨(hG n w (.slice none 0 0))⟩) then bif m_eqv (U s) (U s) then bif m_eqv (.agg ⟨(hG n w (.slice none 0 0))⟩) (.agg ⟨(hG n w (.slice none 0 0))⟩) then K [] [] [some (.cells (hG n w (.slice none 0 0)) 59 0 0), some (.cells [U s] 55 1 0), some (.cells [I f] 3 2 0), some (.cells [U s] 55 3 0), some .defd, some (rLo LoopState.busy none)] else .fail 420 else .fail 420 else .fail 420 else .fail 420 else .fail 420 else .fail 420 else .fail 420 else .fail 420 else .fail 420 else .fail 420 := by kernel_rfl

theorem loCR (r : Mem) (n : Int) (w : Nat → Int) (b off k cap : Nat) (s f v : Int) (K : OV → List Nat → OO → CR) (kx : Nat → KS) (kr : KS) : run (SC r) 3199 23 1 Lo_b (lvlT (SC r) (tEt (hG n w (.slice (some ⟨b, off, some 0⟩) k cap))) .nil 1 2) (some 5) (rbK 6 [] fl6 K) kx kr [] (bT lvLr (vLr v) .nil) [] (mkA (oLo (hG n w (.slice (some ⟨b, off, some 0⟩) k cap)) s f .busy)) =
    bif m_same [.agg ⟨(hG n w (.slice (some ⟨b, off, some 0⟩) k cap))⟩] [.agg ⟨(hG n w (.slice (some ⟨b, off, some 0⟩) k cap))⟩] && m_w16 s && m_w15 v then bif m_same [.agg ⟨(hG n w (.slice (some ⟨b, off, some 0⟩) k cap))⟩] [.agg ⟨(hG n w (.slice (some ⟨b, off, some 0⟩) k cap))⟩] && m_w16 s && m_w15 f then bif decide (m_eI (hG n w (.slice (some ⟨b, off, some 0⟩) k cap)) s v ≤ m_eI (hG n w (.slice (some ⟨b, off, some 0⟩) k cap)) s f) then bif m_eqv (I f) (I f) then bif m_eqv (I f) (I f) then bif m_eqv (U s) (U s) then bif m_eqv (U s) (U s) then bif m_eqv (.agg ⟨(hG n w (.slice (some ⟨b, off, some 0⟩) k cap))⟩) (.agg ⟨(hG n w (.slice (some ⟨b, off, some 0⟩) k cap))⟩) then bif m_eqv (.agg ⟨(hG n w (.slice (some ⟨b, off, some 0⟩) k cap))⟩) (.agg ⟨(hG n w (.slice (some ⟨b, off, some 0⟩) k cap))⟩) then bif m_eqv (U s) (U s) then bif m_eqv (.agg ⟨(hG n w (.slice (some ⟨b, off, some 0⟩) k cap))⟩) (.agg ⟨(hG n w (.slice (some ⟨b, off, some 0⟩) k cap))⟩) then K [] [] [some (.cells (hG n w (.slice (some ⟨b, off, some 0⟩) k cap)) 59 0 0), some (.cells [U s] 55 1 0), some (.cells [I v] 3 2 0), some (.cells [U s] 55 3 0), some .defd, some (rLo LoopState.busy none)] else .fail 420 else .fail 420 else .fail 420 else .fail 420 else .fail 420 else .fail 420 else .fail 420 else .fail 420 else bif m_eqv (I f) (I f) then bif m_eqv (I f) (I f) then bif m_eqv (U s) (U s) then bif m_eqv (U s) (U s) then bif m_eqv (.agg ⟨(hG n w (.slice (some ⟨b, off, some 0⟩) k cap))⟩) (.agg ⟨(hG n w (.slice (some ⟨b, off, some 0⟩) k cap))⟩) then bif m_eqv (.agg ⟨(hG n w (.slice (some ⟨b, off, some 0⟩) k cap))⟩) (.agg ⟨(hG n w (.slice (some ⟨b, off, some 0⟩) k cap))⟩) then bif m_eqv (U s) (U s) then bif m_eqv (.agg ⟨(hG n w (.slice (some ⟨b, off, some 0⟩) k cap))⟩) (.agg ⟨(hG n w (.slice (some ⟨b, off, some 0⟩) k cap))⟩) then K [] [] [some (.cells (hG n w (.slice (some ⟨b, off, some 0⟩) k cap)) 59 0 0), some (.cells [U s] 55 1 0), some (.cells [I f] 3 2 0), some (.cells [U s] 55 3 0), some .defd, some (rLo LoopState.busy none)] else .fail 420 else .fail 420 else .fail 420 else .fail 420 else .fail 420 else .fail 420 else .fail 420 else .fail 420 else .fail 420 else .fail 420 := by kernel_rfl

theorem loT (r : Mem) (c : List Value) (s f : Int) (K : OV → List Nat → OO → CR) (kx : Nat → KS) (kr : KS) : tailRK 5 ⟨[], bT lvLo vLo .nil⟩ [4] (rbK 0 [5] [.t] K) kx kr (mkA (oLo c s f .ready)) =
    K [some (P0 0)] [] [some (.cells [I f] 3 0 0)] := by kernel_rfl

theorem loZ (r : Mem) (f : Int) (fs : FnsC) (K KR : OV → List Nat → OO → CR) (kx : Nat → KS) : run (SC r) 3199 23 1 Lo_4 fs none (rbK 0 [4] [] K) kx (rbK 0 [4] [] KR) [] (bT [5] [some (P0 0)] .nil) [] (mkA [oIn f 0]) =
    KR [some (I f)] [] [] := by kernel_rfl

end Go.Proofs

/- hue's order and core: run. -/
namespace Go.Proofs
open Go Go.Ev Go.Num
set_option linter.unusedVariables false
set_option linter.unusedSimpArgs false
set_option maxRecDepth 100000

noncomputable def eLo (c : List Value) : Ent := ent (fun args _ => match args with
  | [.agg ⟨c'⟩, .int .u64 s] => m_same [.agg ⟨c'⟩] [.agg ⟨c⟩] && m_twG s
  | _ => false) (fun args _ => match args with
  | [_, .int .u64 s] => I (m_lo c s)
  | _ => undef)
noncomputable def tOr (c : List Value) : Tbl := tcons 46 (eLo c) (tcons 47 (eEt c) (tcons 36 (eI1 m_vG fun v => U (m_bit v)) fun _ => none))
noncomputable def tAl (c : List Value) (a : Int) : Tbl := tcons 45 (entV [.agg ⟨c⟩] (U a)) fun _ => none
noncomputable def cOr : Code := bodyOf S0 31
noncomputable def Or_0 : Code := (lc cOr)
noncomputable def Or_1 : Code := (lc (rc cOr))
noncomputable def Or_2 : Code := (lc (rc (rc cOr)))
noncomputable def Or_3 : Code := (lc (rc (rc (rc cOr))))
noncomputable def Or_4 : Code := (lc (lc (rc (rc (rc (rc cOr))))))
noncomputable def Or_5 : Code := (ic (ic (rc (lc (rc (rc (rc (rc cOr))))))))
noncomputable def Or_6 : Code := (rc (rc (rc (rc (rc cOr)))))
theorem Or_eq : cOr = (.seq Or_0 (.seq Or_1 (.seq Or_2 (.seq Or_3 (.seq (.seq Or_4 (.block 0 (.loop Or_5))) Or_6))))) := by kernel_rfl
def lvOr : List Nat := [1, 4, 5, 6, 7]
def vOr (m : Nat) (ls left a : Int) : OV := [some (P0 0), some (.slice (some ⟨1, 0, none⟩) m m), some (I ls), some (U left), some (I a)]
def oOr (c d : List Value) : OO := [oHg c 0, some (.cells d 3 1 1)]
noncomputable def cCo : Code := bodyOf S0 34
noncomputable def Co_0 : Code := (lc cCo)
noncomputable def Co_1 : Code := (lc (rc cCo))
noncomputable def Co_2 : Code := (lc (lc (rc (rc cCo))))
noncomputable def Co_3 : Code := (lc (ic (ic (rc (lc (rc (rc cCo)))))))
noncomputable def Co_4 : Code := (lc (ic (rc (ic (ic (rc (lc (rc (rc cCo)))))))))
noncomputable def Co_5 : Code := (lc (rc (ic (rc (ic (ic (rc (lc (rc (rc cCo))))))))))
noncomputable def Co_6 : Code := (ic (rc (rc (ic (rc (ic (ic (rc (lc (rc (rc cCo)))))))))))
noncomputable def Co_7 : Code := (rc (rc (rc cCo)))
noncomputable def k_c1 : Code := rgA Co_6
noncomputable def k_c2 : Code := rgB Co_6
theorem Co_eq : cCo = (.seq Co_0 (.seq Co_1 (.seq (.seq Co_2 (.block 0 (.loop (.seq Co_3 (.block 1 (.seq Co_4 (.seq Co_5 (.block 2 (.rangeFunc (.tmp 15) #[16] k_c1 k_c2))))))))) Co_7))) := by kernel_rfl
noncomputable def Co_b : Code := ic k_c2
theorem Cb_eq : k_c2 = .block 3 Co_b := by kernel_rfl
def lvCo : List Nat := [2, 3, 5, 6]
def flCo : List Fl := [.g, .t, .t]
def vCo (before : Int) : OV := [some (P0 0), some (P0 1), some (P0 2), some (U before)]
def oCo (c : List Value) (k left : Int) : OO := [oHg c 0, oIn k 1, oHs left 2]
def lvCp : List Nat := [2, 3, 5, 6, 15]
def flCp : List Fl := [.g, .t, .t, .t]
def vCp (before : Int) : OV := vCo before ++ [some (fHc 3)]
noncomputable def rCo (before : Int) (st : LoopState) (pend : Option Code) : AObj := .loop st pend 98559 ⟨[], bT lvCp (vCp before) .nil⟩ 28 #[16] k_c1 k_c2 4
noncomputable def oCr (c : List Value) (k before left : Int) (st : LoopState) : OO := oCo c k left ++ [oHs before 3, some .defd, some (rCo before st none)]
def flCr : List Fl := [.g, .t, .t, .t, .t, .l lvCp]
def lvCv : List Nat := [2, 3, 5, 7]
def vCv (v : Int) : OV := [some (P0 0), some (P0 1), some (P0 2), some (I v)]
noncomputable def tCb (c : List Value) : Tbl := tcons 47 (eEt c) (tcons 36 (eI1 m_vG fun v => U (m_bit v)) fun _ => none)


theorem hoAN (r : Mem) (n : Int) (w : Nat → Int) (a : Int) (K : OV → List Nat → OO → CR) (kx : Nat → KS) (kr : KS) : run (SC r) 511 40 1 (.seq Or_0 (.seq Or_1 (.seq Or_2 (.seq Or_3 Or_4)))) (lvlT (SC r) (tAl (hG n w (.slice none 0 0)) a) .nil 1 2) none (rbK 0 lvOr [.g, .g] K) kx kr (sc0 511 [.agg ⟨hG n w (.slice none 0 0)⟩]) (tr0 511 [.agg ⟨hG n w (.slice none 0 0)⟩]) [] emptyA =
    bif decide (0 ≤ n) then bif decide (0 ≤ n) then bif Nat.ble (Int.toNat n) (Int.toNat n) then bif Nat.ble (Int.toNat n) 1000000 then bif m_same [.agg ⟨(hG n w (.slice none 0 0))⟩] [.agg ⟨(hG n w (.slice none 0 0))⟩] then bif m_nns (hG n w (.slice none 0 0)) && (m_nns (zerosL (Nat.mul (Int.toNat n) 1) [I (Int.ofNat 0)]) && true) then K [some (P0 0), some (.slice (some ⟨1, 0, none⟩) (Int.toNat n) (Int.toNat n)), some (I (Int.ofNat 0)), some (U a), some (I (IntKind.wrap .i64 (n - Int.ofNat 1)))] [] [some (.cells (hG n w (.slice none 0 0)) 59 0 0), some (.cells (zerosL (Nat.mul (Int.toNat n) 1) [I (Int.ofNat 0)]) 3 1 1)] else .fail 420 else .fail 420 else .fail 420 else .fail 420 else .fail 420 else .fail 420 := by kernel_rfl

theorem hoAR (r : Mem) (n : Int) (w : Nat → Int) (b off len cap : Nat) (a : Int) (K : OV → List Nat → OO → CR) (kx : Nat → KS) (kr : KS) : run (SC r) 511 40 1 (.seq Or_0 (.seq Or_1 (.seq Or_2 (.seq Or_3 Or_4)))) (lvlT (SC r) (tAl (hG n w (.slice (some ⟨b, off, some 0⟩) len cap)) a) .nil 1 2) none (rbK 0 lvOr [.g, .g] K) kx kr (sc0 511 [.agg ⟨hG n w (.slice (some ⟨b, off, some 0⟩) len cap)⟩]) (tr0 511 [.agg ⟨hG n w (.slice (some ⟨b, off, some 0⟩) len cap)⟩]) [] emptyA =
    bif decide (0 ≤ n) then bif decide (0 ≤ n) then bif Nat.ble (Int.toNat n) (Int.toNat n) then bif Nat.ble (Int.toNat n) 1000000 then bif m_same [.agg ⟨(hG n w (.slice (some ⟨b, off, some 0⟩) len cap))⟩] [.agg ⟨(hG n w (.slice (some ⟨b, off, some 0⟩) len cap))⟩] then bif m_nns (hG n w (.slice (some ⟨b, off, some 0⟩) len cap)) && (m_nns (zerosL (Nat.mul (Int.toNat n) 1) [I (Int.ofNat 0)]) && true) then K [some (P0 0), some (.slice (some ⟨1, 0, none⟩) (Int.toNat n) (Int.toNat n)), some (I (Int.ofNat 0)), some (U a), some (I (IntKind.wrap .i64 (n - Int.ofNat 1)))] [] [some (.cells (hG n w (.slice (some ⟨b, off, some 0⟩) len cap)) 59 0 0), some (.cells (zerosL (Nat.mul (Int.toNat n) 1) [I (Int.ofNat 0)]) 3 1 1)] else .fail 420 else .fail 420 else .fail 420 else .fail 420 else .fail 420 else .fail 420 := by kernel_rfl

theorem hoBN (r : Mem) (n : Int) (w : Nat → Int) (m : Nat) (d : List Value) (ls left a : Int) (K : OV → List Nat → OO → CR) (KX : Nat → OV → List Nat → OO → CR) (kr : KS) : run (SC r) 511 40 1 Or_5 (lvlT (SC r) (tOr (hG n w (.slice none 0 0))) .nil 1 2) none (rbK 0 lvOr [.g, .g] K) (fun i => rbK 0 [4, 5] [.g] (KX i)) kr [] (bT lvOr (vOr m ls left a) .nil) [] (mkA (oOr (hG n w (.slice none 0 0)) d)) =
    bif decide (a ≥ 0) then bif m_same [.agg ⟨(hG n w (.slice none 0 0))⟩] [.agg ⟨(hG n w (.slice none 0 0))⟩] && m_twG left then bif m_same [.agg ⟨(hG n w (.slice none 0 0))⟩] [.agg ⟨(hG n w (.slice none 0 0))⟩] && m_w16 left && m_w15 (m_lo (hG n w (.slice none 0 0)) left) then bif decide (0 ≤ a) then bif Nat.blt (Int.toNat a) m then bif Nat.blt (Nat.add 0 (Nat.mul (Int.toNat a) 1)) (List.length d) then bif m_vG (m_lo (hG n w (.slice none 0 0)) left) then bif m_nns (hG n w (.slice none 0 0)) && (m_nns (List.set d (Nat.add 0 (Nat.mul (Int.toNat a) 1)) (I (m_lo (hG n w (.slice none 0 0)) left))) && true) then K [some (P0 0), some (.slice (some ⟨1, 0, none⟩) m m), some (I (bif decide (m_eI (hG n w (.slice none 0 0)) left (m_lo (hG n w (.slice none 0 0)) left) > ls) then m_eI (hG n w (.slice none 0 0)) left (m_lo (hG n w (.slice none 0 0)) left) else ls)), some (U (ibits BinOp.andNot IntKind.u64 left (m_bit (m_lo (hG n w (.slice none 0 0)) left)))), some (I (IntKind.wrap .i64 (a - Int.ofNat 1)))] [] [some (.cells (hG n w (.slice none 0 0)) 59 0 0), some (.cells (List.set d (Nat.add 0 (Nat.mul (Int.toNat a) 1)) (I (m_lo (hG n w (.slice none 0 0)) left))) 3 1 1)] else .fail 420 else .fail 420 else .fail 420 else .fail 420 else .fail 420 else .fail 420 else .fail 420 else bif m_nns d && true then KX 0 [some (.slice (some ⟨0, 0, none⟩) m m), some (I ls)] [] [some (.cells d 3 0 1)] else .fail 420 := by kernel_rfl

theorem hoBR (r : Mem) (n : Int) (w : Nat → Int) (b off len cap : Nat) (m : Nat) (d : List Value) (ls left a : Int) (K : OV → List Nat → OO → CR) (KX : Nat → OV → List Nat → OO → CR) (kr : KS) : run (SC r) 511 40 1 Or_5 (lvlT (SC r) (tOr (hG n w (.slice (some ⟨b, off, some 0⟩) len cap))) .nil 1 2) none (rbK 0 lvOr [.g, .g] K) (fun i => rbK 0 [4, 5] [.g] (KX i)) kr [] (bT lvOr (vOr m ls left a) .nil) [] (mkA (oOr (hG n w (.slice (some ⟨b, off, some 0⟩) len cap)) d)) =
    bif decide (a ≥ 0) then bif m_same [.agg ⟨(hG n w (.slice (some ⟨b, off, some 0⟩) len cap))⟩] [.agg ⟨(hG n w (.slice (some ⟨b, off, some 0⟩) len cap))⟩] && m_twG left then bif m_same [.agg ⟨(hG n w (.slice (some ⟨b, off, some 0⟩) len cap))⟩] [.agg ⟨(hG n w (.slice (some ⟨b, off, some 0⟩) len cap))⟩] && m_w16 left && m_w15 (m_lo (hG n w (.slice (some ⟨b, off, some 0⟩) len cap)) left) then bif decide (0 ≤ a) then bif Nat.blt (Int.toNat a) m then bif Nat.blt (Nat.add 0 (Nat.mul (Int.toNat a) 1)) (List.length d) then bif m_vG (m_lo (hG n w (.slice (some ⟨b, off, some 0⟩) len cap)) left) then bif m_nns (hG n w (.slice (some ⟨b, off, some 0⟩) len cap)) && (m_nns (List.set d (Nat.add 0 (Nat.mul (Int.toNat a) 1)) (I (m_lo (hG n w (.slice (some ⟨b, off, some 0⟩) len cap)) left))) && true) then K [some (P0 0), some (.slice (some ⟨1, 0, none⟩) m m), some (I (bif decide (m_eI (hG n w (.slice (some ⟨b, off, some 0⟩) len cap)) left (m_lo (hG n w (.slice (some ⟨b, off, some 0⟩) len cap)) left) > ls) then m_eI (hG n w (.slice (some ⟨b, off, some 0⟩) len cap)) left (m_lo (hG n w (.slice (some ⟨b, off, some 0⟩) len cap)) left) else ls)), some (U (ibits BinOp.andNot IntKind.u64 left (m_bit (m_lo (hG n w (.slice (some ⟨b, off, some 0⟩) len cap)) left)))), some (I (IntKind.wrap .i64 (a - Int.ofNat 1)))] [] [some (.cells (hG n w (.slice (some ⟨b, off, some 0⟩) len cap)) 59 0 0), some (.cells (List.set d (Nat.add 0 (Nat.mul (Int.toNat a) 1)) (I (m_lo (hG n w (.slice (some ⟨b, off, some 0⟩) len cap)) left))) 3 1 1)] else .fail 420 else .fail 420 else .fail 420 else .fail 420 else .fail 420 else .fail 420 else .fail 420 else bif m_nns d && true then KX 0 [some (.slice (some ⟨0, 0, none⟩) m m), some (I ls)] [] [some (.cells d 3 0 1)] else .fail 420 := by kernel_rfl

theorem hoC (r : Mem) (m : Nat) (d : List Value) (ls : Int) (fs : FnsC) (K KR : OV → List Nat → OO → CR) (kx : Nat → KS) : run (SC r) 511 40 1 Or_6 fs none (rbK 0 [2, 3] [.g] K) kx (rbK 0 [2, 3] [.g] KR) [] (bT [4, 5] [some (.slice (some ⟨0, 0, none⟩) m m), some (I ls)] .nil) [] (mkA [some (.cells d 3 0 1)]) =
    bif m_nns d && true then KR [some (.slice (some ⟨0, 0, none⟩) m m), some (I ls)] [] [some (.cells d 3 0 1)] else .fail 420 := by kernel_rfl

theorem hkAN (r : Mem) (n : Int) (w : Nat → Int) (k a : Int) (K : OV → List Nat → OO → CR) (kx : Nat → KS) (kr : KS) : run (SC r) 98559 28 1 (.seq Co_0 (.seq Co_1 Co_2)) (lvlT (SC r) (tAl (hG n w (.slice none 0 0)) a) .nil 1 2) none (rbK 0 lvCo flCo K) kx kr (sc0 98559 [.agg ⟨hG n w (.slice none 0 0)⟩, I k]) (tr0 98559 [.agg ⟨hG n w (.slice none 0 0)⟩, I k]) [] emptyA =
    bif m_same [.agg ⟨(hG n w (.slice none 0 0))⟩] [.agg ⟨(hG n w (.slice none 0 0))⟩] then K [some (P0 0), some (P0 1), some (P0 2), some (U (Int.ofNat 0))] [] [some (.cells (hG n w (.slice none 0 0)) 59 0 0), some (.cells [I k] 3 1 0), some (.cells [U a] 55 2 0)] else .fail 420 := by kernel_rfl

theorem hkAR (r : Mem) (n : Int) (w : Nat → Int) (b off len cap : Nat) (k a : Int) (K : OV → List Nat → OO → CR) (kx : Nat → KS) (kr : KS) : run (SC r) 98559 28 1 (.seq Co_0 (.seq Co_1 Co_2)) (lvlT (SC r) (tAl (hG n w (.slice (some ⟨b, off, some 0⟩) len cap)) a) .nil 1 2) none (rbK 0 lvCo flCo K) kx kr (sc0 98559 [.agg ⟨hG n w (.slice (some ⟨b, off, some 0⟩) len cap)⟩, I k]) (tr0 98559 [.agg ⟨hG n w (.slice (some ⟨b, off, some 0⟩) len cap)⟩, I k]) [] emptyA =
    bif m_same [.agg ⟨(hG n w (.slice (some ⟨b, off, some 0⟩) len cap))⟩] [.agg ⟨(hG n w (.slice (some ⟨b, off, some 0⟩) len cap))⟩] then K [some (P0 0), some (P0 1), some (P0 2), some (U (Int.ofNat 0))] [] [some (.cells (hG n w (.slice (some ⟨b, off, some 0⟩) len cap)) 59 0 0), some (.cells [I k] 3 1 0), some (.cells [U a] 55 2 0)] else .fail 420 := by kernel_rfl

theorem hkB (r : Mem) (c : List Value) (k left before : Int) (fs : FnsC) (K : OV → List Nat → OO → CR) (KX : Nat → OV → List Nat → OO → CR) (kr : KS) : run (SC r) 98559 28 1 Co_3 fs none (rbK 0 lvCo flCo K) (fun i => rbK 0 [5] [.t] (KX i)) kr [] (bT lvCo (vCo before) .nil) [] (mkA (oCo c k left)) =
    bif left != before then bif m_nns c && (true && (true && true)) then K [some (P0 0), some (P0 1), some (P0 2), some (U before)] [] [some (.cells c 59 0 0), some (.cells [I k] 3 1 0), some (.cells [U left] 55 2 0)] else .fail 420 else KX 0 [some (P0 0)] [] [some (.cells [U left] 55 0 0)] := by kernel_rfl

theorem hkC (r : Mem) (c : List Value) (k left before : Int) (K : OV → List Nat → OO → CR) (kx : Nat → KS) (kr : KS) : run (SC r) 98559 28 1 (.seq Co_4 Co_5) (lvlT (SC r) (fun _ => none) .nil 1 2) none (rbK 0 lvCp flCp K) kx kr [] (bT lvCo (vCo before) .nil) [] (mkA (oCo c k left)) =
    bif m_nns c && (true && (true && (true && true))) then K [some (P0 0), some (P0 1), some (P0 2), some (U left), some (.func (Fn.func 63) ⟨[]⟩ ⟨[P0 3]⟩)] [] [some (.cells c 59 0 0), some (.cells [I k] 3 1 0), some (.cells [U left] 55 2 0), some (.cells [U left] 55 3 0)] else .fail 420 := by kernel_rfl

theorem hkD (r : Mem) (c : List Value) (k before left v : Int) (fs : FnsC) (K : OV → List Nat → OO → CR) (kx : Nat → KS) (kr : KS) : run (SC r) 98559 28 1 k_c1 fs (some 5) (begK 5 (rbK 6 lvCv flCr K)) kx kr [] (bT (lvCp ++ [16]) (vCp before ++ [some (I v)]) .nil) [] (mkA (oCr c k before left .ready)) =
    bif m_nns c && (true && (true && (true && (true && (true && true))))) then K [some (P0 0), some (P0 1), some (P0 2), some (I v)] [] [some (.cells c 59 0 0), some (.cells [I k] 3 1 0), some (.cells [U left] 55 2 0), some (.cells [U before] 55 3 0), some .defd, some (rCo before LoopState.busy none)] else .fail 420 := by kernel_rfl

theorem hkEN (r : Mem) (n : Int) (w : Nat → Int) (k before left v : Int) (K : OV → List Nat → OO → CR) (kx : Nat → KS) (kr : KS) : run (SC r) 98559 28 1 Co_b (lvlT (SC r) (tCb (hG n w (.slice none 0 0))) .nil 1 2) (some 5) (rbK 6 [] flCr K) kx kr [] (bT lvCv (vCv v) .nil) [] (mkA (oCr (hG n w (.slice none 0 0)) k before left .busy)) =
    bif m_same [.agg ⟨(hG n w (.slice none 0 0))⟩] [.agg ⟨(hG n w (.slice none 0 0))⟩] && m_w16 left && m_w15 v then bif decide (m_eI (hG n w (.slice none 0 0)) left v < k) then bif m_eqv (I k) (I k) then bif m_eqv (I k) (I k) then bif m_eqv (U left) (U left) then bif m_eqv (.agg ⟨(hG n w (.slice none 0 0))⟩) (.agg ⟨(hG n w (.slice none 0 0))⟩) then bif m_vG v then bif m_eqv (U left) (U left) then bif m_eqv (U left) (U left) then K [] [] [some (.cells (hG n w (.slice none 0 0)) 59 0 0), some (.cells [I k] 3 1 0), some (.cells [U (ibits BinOp.andNot IntKind.u64 left (m_bit v))] 55 2 0), some (.cells [U before] 55 3 0), some .defd, some (rCo before LoopState.busy none)] else .fail 420 else .fail 420 else .fail 420 else .fail 420 else .fail 420 else .fail 420 else .fail 420 else bif m_eqv (I k) (I k) then bif m_eqv (I k) (I k) then bif m_eqv (U left) (U left) then bif m_eqv (.agg ⟨(hG n w (.slice none 0 0))⟩) (.agg ⟨(hG n w (.slice none 0 0))⟩) then K [] [] [some (.cells (hG n w (.slice none 0 0)) 59 0 0), some (.cells [I k] 3 1 0), some (.cells [U left] 55 2 0), some (.cells [U before] 55 3 0), some .defd, some (rCo before LoopState.busy none)] else .fail 420 else .fail 420 else .fail 420 else .fail 420 else .fail 420 := by kernel_rfl

theorem hkER (r : Mem) (n : Int) (w : Nat → Int) (b off len cap : Nat) (k before left v : Int) (K : OV → List Nat → OO → CR) (kx : Nat → KS) (kr : KS) : run (SC r) 98559 28 1 Co_b (lvlT (SC r) (tCb (hG n w (.slice (some ⟨b, off, some 0⟩) len cap))) .nil 1 2) (some 5) (rbK 6 [] flCr K) kx kr [] (bT lvCv (vCv v) .nil) [] (mkA (oCr (hG n w (.slice (some ⟨b, off, some 0⟩) len cap)) k before left .busy)) =
    bif m_same [.agg ⟨(hG n w (.slice (some ⟨b, off, some 0⟩) len cap))⟩] [.agg ⟨(hG n w (.slice (some ⟨b, off, some 0⟩) len cap))⟩] && m_w16 left && m_w15 v then bif decide (m_eI (hG n w (.slice (some ⟨b, off, some 0⟩) len cap)) left v < k) then bif m_eqv (I k) (I k) then bif m_eqv (I k) (I k) then bif m_eqv (U left) (U left) then bif m_eqv (.agg ⟨(hG n w (.slice (some ⟨b, off, some 0⟩) len cap))⟩) (.agg ⟨(hG n w (.slice (some ⟨b, off, some 0⟩) len cap))⟩) then bif m_vG v then bif m_eqv (U left) (U left) then bif m_eqv (U left) (U left) then K [] [] [some (.cells (hG n w (.slice (some ⟨b, off, some 0⟩) len cap)) 59 0 0), some (.cells [I k] 3 1 0), some (.cells [U (ibits BinOp.andNot IntKind.u64 left (m_bit v))] 55 2 0), some (.cells [U before] 55 3 0), some .defd, some (rCo before LoopState.busy none)] else .fail 420 else .fail 420 else .fail 420 else .fail 420 else .fail 420 else .fail 420 else .fail 420 else bif m_eqv (I k) (I k) then bif m_eqv (I k) (I k) then bif m_eqv (U left) (U left) then bif m_eqv (.agg ⟨(hG n w (.slice (some ⟨b, off, some 0⟩) len cap))⟩) (.agg ⟨(hG n w (.slice (some ⟨b, off, some 0⟩) len cap))⟩) then K [] [] [some (.cells (hG n w (.slice (some ⟨b, off, some 0⟩) len cap)) 59 0 0), some (.cells [I k] 3 1 0), some (.cells [U left] 55 2 0), some (.cells [U before] 55 3 0), some .defd, some (rCo before LoopState.busy none)] else .fail 420 else .fail 420 else .fail 420 else .fail 420 else .fail 420 := by kernel_rfl

theorem hkT (r : Mem) (c : List Value) (k before left : Int) (K : OV → List Nat → OO → CR) (kx : Nat → KS) (kr : KS) : tailRK 5 ⟨[], bT lvCp (vCp before) .nil⟩ [4] (rbK 0 lvCo flCo K) kx kr (mkA (oCr c k before left .ready)) =
    bif m_nns c && (true && (true && true)) then K [some (P0 0), some (P0 1), some (P0 2), some (U before)] [] [some (.cells c 59 0 0), some (.cells [I k] 3 1 0), some (.cells [U left] 55 2 0)] else .fail 420 := by kernel_rfl

theorem hkZ (r : Mem) (left : Int) (fs : FnsC) (K KR : OV → List Nat → OO → CR) (kx : Nat → KS) : run (SC r) 98559 28 1 Co_7 fs none (rbK 0 [4] [] K) kx (rbK 0 [4] [] KR) [] (bT [5] [some (P0 0)] .nil) [] (mkA [oHs left 0]) =
    KR [some (U left)] [] [] := by kernel_rfl

end Go.Proofs

/- A row of pairs of the caller's, as memory. -/
namespace Go.Proofs
open Go Go.Ev Go.Num
set_option linter.unusedVariables false
set_option linter.unusedSimpArgs false
set_option maxRecDepth 100000

noncomputable def m_okL2 (c : List Value) (k len : Nat) : Bool := @decide (len ≤ 1000000 ∧ ∀ j, j < 2 * len → ∃ z : Int, c[k + j]? = some (I z)) (Classical.propDecidable _)
def zAt2 (c : List Value) (j : Nat) : Int := match c[j]? with
 | some (.int _ z) => z
 | _ => 0
theorem memW_tab {r : Mem} (hm : ∀ b j u, tabM b j = some u → r b j = some u) {γ : Gam} {W : World} (hR : Ro r γ W) : ∀ b j u, tabM b j = some u → memW W b j = some u := fun b j u h => by
 have hg : gnd u = true := by
  unfold tabM at h
  split at h
  ·unfold memL u8s at h
   rw [List.getElem?_map] at h
   cases h1 : tab64[j]? with
   | none => rw [h1] at h; cases h
   | some x => rw [h1] at h; cases h; rfl
  ·split at h
   ·unfold memL u8s at h
    rw [List.getElem?_map] at h
    cases h1 : tab32[j]? with
    | none => rw [h1] at h; cases h
    | some x => rw [h1] at h; cases h; rfl
   ·cases h
 obtain ⟨_, cc, e, fr, v', h1, h2, h3⟩ := hR b j u (hm b j u h)
 have := (h3 γ).eq_of_gnd hg
 subst this
 unfold memW
 rw [h1]
 simp only [h2, Option.bind_some]
 exact mark_gnd hg

theorem own_mem {r : Mem} {γ : Gam} {A : AW} {W : World} (hw : WRel γ A W) (hR : Ro r γ W) {n : Int} {i k len cap : Nat} {c l : List Value} {e f z : Nat} (hget : A.heap.get i = some (.cells c e f z)) (hok : m_okL2 c k len = true) (hcap : Nat.beq cap unkE = false) (hl : gnds l = true)
  {args' : Array Value} (ha : VsRel γ (.int .i64 n :: .slice (some ⟨i, k, none⟩) len cap :: l) args'.toList) :
  ∃ b k', VsRel noG (I n :: RS2 b k' len 0 :: l) args'.toList ∧ rowAt (memW W) b k' (2 * len) (fun j => zAt2 c (k + j)) ∧ len ≤ 1000000 := by
 obtain ⟨h1, h2⟩ := @of_decide_eq_true _ (Classical.propDecidable _) hok
 obtain ⟨la⟩ := args'
 cases ha with
 | cons hn hrest =>
 cases hn
 cases hrest with
 | cons hv hrest =>
 obtain ⟨b, k', c', rfl, hrd⟩ := rd_world hw hR hv hcap
 refine ⟨b, k', .cons (.int _ _) (.cons (.sliceRo _ _ _ _ _ _ (by decide) (Nat.zero_le _)) ?_), fun j hj => ?_, h1⟩
 ·rw [hrest.eq_of_gnds hl]
  exact VsRel.of_gnds noG l hl
 ·obtain ⟨z, hz⟩ := h2 j hj
  have e1 : zAt2 c (k + j) = z := by unfold zAt2; rw [hz]
  show memW W b (k' + j) = some (I (zAt2 c (k + j)))
  rw [e1]
  refine hrd j _ ?_ rfl
  simp only [AW.rd, AW.cell, hget]
  exact hz

theorem natFK2 {i j : Nat} (h : i ≠ j) : Nat.beq i j = false := by
 cases e : Nat.beq i j with
 | false => rfl
 | true => exact absurd (Nat.eq_of_beq_eq_true e) h

abbrev Tab (r : Mem) : Prop := ∀ b j u, tabM b j = some u → r b j = some u


end Go.Proofs

/- hue's loosest vertex: what the call answers. -/
namespace Go.Proofs
open Go Go.Ev Go.Num
set_option linter.unusedVariables false
set_option linter.unusedSimpArgs false
set_option maxRecDepth 100000

theorem GrT.nns {C : Cfg} {f : Nat} {args : List Value} {v : Value} (h : GrT C.P C.ro f args v) (ha : Go.Ev.nns args = true) (A : AW) : POk C f args A v :=
 ⟨h.1, fun F hF k _ W args' _ hR hr => h.2 F hF k W args' (hR.noG noG fun _ => rfl) (VsRel.of_nns hr ha)⟩

def EdV (e : Value) : Prop := e = .slice none 0 0 ∨ ∃ b off len cap, e = .slice (some ⟨b, off, some 0⟩) len cap
theorem EdV.nn {e : Value} (h : EdV e) : Go.Ev.nn e = true := by
 rcases h with rfl | ⟨b, off, len, cap, rfl⟩ <;> rfl
abbrev wG (w : Nat → Nat) (i : Nat) : Int := ((w i : Nat) : Int)
theorem hG_get (n : Int) (w : Nat → Int) (e : Value) : ∀ i, i < 16 → (hG n w e)[Nat.add 1 (Nat.mul i 1)]? = some (U (w i))
 | 0, _ => rfl | 1, _ => rfl | 2, _ => rfl | 3, _ => rfl | 4, _ => rfl | 5, _ => rfl | 6, _ => rfl | 7, _ => rfl
 | 8, _ => rfl | 9, _ => rfl | 10, _ => rfl | 11, _ => rfl | 12, _ => rfl | 13, _ => rfl | 14, _ => rfl | 15, _ => rfl
 | i + 16, h => absurd h (by omega)
theorem hG_nn (n : Int) (w : Nat → Int) {e : Value} (h : EdV e) : m_nns (hG n w e) = true := by
 rcases h with rfl | ⟨b, off, len, cap, rfl⟩ <;> rfl
theorem hG_eqv (n : Int) (w : Nat → Int) {e : Value} (h : EdV e) : m_eqv (.agg ⟨hG n w e⟩) (.agg ⟨hG n w e⟩) = true := by
 rcases h with rfl | ⟨b, off, len, cap, rfl⟩ <;> simp [m_eqv, veq, hG, veqs]
theorem hG_w (n : Int) {w : Nat → Nat} (h16 : ∀ i, 16 ≤ i → w i = 0) {e : Value} (h : EdV e) : m_w (hG n (wG w) e) = w := by
 funext i
 unfold m_w m_cI
 rw [Int.toNat_natCast]
 by_cases c : i < 16
 ·have := hG_get n (wG w) e i c
  rw [show Nat.add 1 (Nat.mul i 1) = i + 1 by simp [Nat.add_comm]] at this
  rw [this]
  exact Int.toNat_natCast _
 ·rw [h16 i (by omega)]
  by_cases c2 : i = 16
  ·subst c2
   rcases h with rfl | ⟨b, off, len, cap, rfl⟩ <;> rfl
  ·rw [List.getElem?_eq_none (by simp [hG]; omega)]
   rfl

theorem tHp_ok (r : Mem) : TOk (SC r) tHp := TOk.cons TOk.nil (ePop_ok r)
theorem et_ok (r : Mem) (n : Int) {w : Nat → Nat} (hw : ∀ i, w i < 65536) (e : Value) {s v : Nat} (hs : s < 65536) (hv : v < 16) : GrT Tryd.prog r 47 [.agg ⟨hG n (wG w) e⟩, U (s : Nat), I (v : Nat)] (I (eN w s v : Nat)) :=
 GrT.of (SC_ok r) (tHp_ok r) .nil rfl ⟨1, 3, by
  have hn := etA r n (wG w) e s v
  have g := hG_get n (wG w) e v hv
  have b1 : w v &&& s < 65536 := Nat.and_lt_two_pow (n := 16) _ hs
  have e1 : ibits BinOp.and IntKind.u64 (wG w v) (s : Int) = ((w v &&& s : Nat) : Int) := (uO (by have := hw v; omega) (by omega)).2.1
  have e2 : m_popG ((w v &&& s : Nat) : Int) = true := decide_eq_true ⟨by omega, by omega⟩
  have e3 : m_pop ((w v &&& s : Nat) : Int) = (popN 16 (w v &&& s) : Nat) := by unfold m_pop; rw [Int.toNat_natCast]
  simp only [dT (show 0 ≤ (v : Int) by omega), Int.toNat_natCast, show Nat.blt v 16 = true from Nat.ble_eq_true_of_le hv, g, show ∀ x, isI IntKind.u64 (U x) = true from fun _ => rfl, show ∀ x, ofI (U x) = x from fun _ => rfl, e1, e2, e3, cond_true] at hn
  exact hn⟩
theorem eEt_ok (r : Mem) (n : Int) {w : Nat → Nat} (hw : ∀ i, w i < 65536) (h16 : ∀ i, 16 ≤ i → w i = 0) {e : Value} (he : EdV e) : EOk (SC r) 47 (eEt (hG n (wG w) e)) := EOk.ent fun args A hg => by
 split at hg
 ·rename_i c' s v
  simp only [Bool.and_eq_true] at hg
  obtain ⟨⟨h1, h2⟩, h3⟩ := hg
  have h1 := @of_decide_eq_true _ (Classical.propDecidable _) h1
  simp only [List.cons.injEq, Value.agg.injEq, Array.mk.injEq, and_true] at h1
  subst h1
  have h2 := of_decide_eq_true h2
  have h3 := of_decide_eq_true h3
  have h := et_ok r n hw e (s := s.toNat) (v := v.toNat) (by omega) (by omega)
  rw [show ((s.toNat : Nat) : Int) = s by omega, show ((v.toNat : Nat) : Int) = v by omega] at h
  have e1 : m_eI (hG n (wG w) e) s v = (eN w s.toNat v.toNat : Nat) := by unfold m_eI; rw [hG_w n h16 he]
  show POk _ _ _ _ (I (m_eI (hG n (wG w) e) s v))
  rw [e1]
  refine GrT.nns h ?_ A
  have := hG_nn n (wG w) he
  show (Go.Ev.nns (hG n (wG w) e) && true) = true
  rw [Bool.and_true]
  exact this
 ·cases hg
theorem tEt_ok (r : Mem) (n : Int) {w : Nat → Nat} (hw : ∀ i, w i < 65536) (h16 : ∀ i, 16 ≤ i → w i = 0) {e : Value} (he : EdV e) : TOk (SC r) (tEt (hG n (wG w) e)) := TOk.cons TOk.nil (eEt_ok r n hw h16 he)

theorem oLo_next (c : List Value) (s f : Int) (st : LoopState) : (mkA (oLo c s f st)).next = 6 := by kernel_rfl
theorem oLo_cn {c : List Value} (hc : m_nns c = true) (s f : Int) : Cn 6 fl6 (mkA (oLo c s f .ready)) (oLo c s f .ready) := ⟨by kernel_rfl, by
 show (m_nns c && true) = true
 rw [hc]; rfl⟩
theorem oLo_end (c : List Value) (s f : Int) : endR 5 none (St.of [] [] [] (oLo c s f .busy)) = .ret (.bool true) (mkA (oLo c s f .ready)) := by kernel_rfl

theorem yLo {r : Mem} {n : Int} {w : Nat → Nat} (hw : ∀ i, w i < 65536) (h16 : ∀ i, 16 ≤ i → w i = 0) {e : Value} (he : EdV e) {s : Nat} (hs : s < 65536) {f v : Nat} (hf : f < 16) (hv : v < 16) {P E : OO → Prop} (hP : P (oLo (hG n (wG w) e) (s : Nat) ((if eN w s v ≤ eN w s f then v else f : Nat) : Int) .ready)) :
  YOk (SC r) 5 [I (v : Nat)] (mkA (oLo (hG n (wG w) e) (s : Nat) (f : Nat) .ready)) fun u A' => ∃ os', Cn 6 fl6 A' os' ∧ ((u = .bool true ∧ P os') ∨ (u = .bool false ∧ E os')) := by
 have hc := hG_nn n (wG w) he
 refine YOk.of (SC_ok r) (i := 5) (st := .ready) (pend := none) (m := 3199) (n := 23) (en := ⟨[], bT lvLo vLo .nil⟩) (params := #[11]) (assign := k_l1) (body := k_l2) (d := 4) (by kernel_rfl) (s0 := []) (b0 := bT (lvLo ++ [11]) (vLo ++ [some (I (v : Nat))]) .nil) (by kernel_rfl) (tEt_ok r n hw h16 he) (tm := .nil) (L := 1) (L' := 1) (d' := 2)
  ⟨lvLr, fl6, fun vs ms os => vs = vLr (v : Nat) ∧ ms = [] ∧ os = oLo (hG n (wG w) e) (s : Nat) (f : Nat) .busy⟩
  ⟨[], fl6, fun vs ms os => vs = [] ∧ ms = [] ∧ os = oLo (hG n (wG w) e) (s : Nat) ((if eN w s v ≤ eN w s f then v else f : Nat) : Int) .busy⟩
  (fun _ => Outs.no) Outs.no ?_ ?_ ?_ ?_ ?_
 ·rw [oLo_next]
  have hn := loB r (hG n (wG w) e) s f v
  simp only [hc, Bool.and_self, cond_true] at hn
  exact (hn _ _ _ _).trans (qq_ok ⟨rfl, rfl, rfl⟩)
 ·rintro F k γ W hF hro h0 vs ms os ⟨rfl, rfl, rfl⟩
  rw [oLo_next] at h0
  rw [Lb_eq]
  refine Go.Ev.Reach.blockC (Go.Ev.Reach.segR (SC_ok r) (tEt_ok r n hw h16 he) (tm := .nil) (L := 1) (L' := 1) (d := 2) hF hro h0 [] (fun p hp => nomatch hp) ?_)
  have sm : ∀ l : List Value, m_same l l = true := same_rfl
  have hq := hG_eqv n (wG w) he
  have g1 : m_w16 (s : Int) = true := decide_eq_true ⟨by omega, by omega⟩
  have g2 : m_w15 (v : Int) = true := decide_eq_true ⟨by omega, by omega⟩
  have g3 : m_w15 (f : Int) = true := decide_eq_true ⟨by omega, by omega⟩
  have q1 : ∀ v : Nat, m_eI (hG n (wG w) e) (s : Int) (v : Int) = (eN w s v : Nat) := fun v => by unfold m_eI; rw [hG_w n h16 he, Int.toNat_natCast, Int.toNat_natCast]
  have q2 : decide (((eN w s v : Nat) : Int) ≤ ((eN w s f : Nat) : Int)) = decide (eN w s v ≤ eN w s f) := decide_eq_decide.2 Int.ofNat_le
  have ei : ∀ (k : IntKind) (z : Int), m_eqv (.int k z) (.int k z) = true := fun k z => by simp [m_eqv, veq]
  suffices hn : ∀ K kx kr, run (SC r) 3199 23 1 Lo_b (lvlT (SC r) (tEt (hG n (wG w) e)) .nil 1 2) (some 5) (rbK 6 [] fl6 K) kx kr [] (bT lvLr (vLr v) .nil) [] (mkA (oLo (hG n (wG w) e) s f .busy)) = K [] [] (oLo (hG n (wG w) e) (s : Nat) ((if eN w s v ≤ eN w s f then v else f : Nat) : Int) .busy) from (hn _ _ _).trans (qq_ok ⟨rfl, rfl, rfl⟩)
  intro K kx kr
  rcases he with rfl | ⟨b, off, len, cap, rfl⟩
  ·have hn := loCN r n (wG w) s f v K kx kr
   simp only [sm, g1, g2, g3, q1, q2, ei, hq, Bool.and_self, cond_true] at hn
   by_cases c : eN w s v ≤ eN w s f
   ·rw [if_pos c]; rw [decide_eq_true c, cond_true] at hn; exact hn
   ·rw [if_neg c]; rw [decide_eq_false c, cond_false] at hn; exact hn
  ·have hn := loCR r n (wG w) b off len cap s f v K kx kr
   simp only [sm, g1, g2, g3, q1, q2, ei, hq, Bool.and_self, cond_true] at hn
   by_cases c : eN w s v ≤ eN w s f
   ·rw [if_pos c]; rw [decide_eq_true c, cond_true] at hn; exact hn
   ·rw [if_neg c]; rw [decide_eq_false c, cond_false] at hn; exact hn
 ·rintro vs ms os ⟨rfl, rfl, rfl⟩
  exact ⟨_, _, oLo_end _ _ _, _, oLo_cn hc _ _, .inl ⟨rfl, hP⟩⟩
 ·rintro id vs ms os hf
  exact hf.elim
 ·rintro vs ms os hf
  exact hf.elim

theorem los_ok (r : Mem) (hm : Tab r) (n : Int) {w : Nat → Nat} (hw : ∀ i, w i < 65536) (h16 : ∀ i, 16 ≤ i → w i = 0) {e : Value} (he : EdV e) {s : Nat} (hs : s < 65536) (h0 : s ≠ 0) :
  GrT Tryd.prog r 46 [.agg ⟨hG n (wG w) e⟩, U (s : Nat)] (I (loN w s : Nat)) := by
 have hc := hG_nn n (wG w) he
 refine GrT.ofS (C := SC r) rfl rfl rfl (callO (SC_ok r) (by kernel_rfl) ((bodySC r _).trans Lo_eq) (nt := 23) (by kernel_rfl) (rs := [.tmp 4]) (by kernel_rfl) 3199 rfl
  ⟨[4], [], fun vs ms os => vs = [some (I (loN w s : Nat))] ∧ ms = [] ∧ os = []⟩ ?_ fun γ W F k hwr hF hro h0' => ?_)
 ·rintro vs ms os ⟨rfl, rfl, rfl⟩
  exact ⟨_, mkA [], by kernel_rfl, rfl⟩
 have h0' : ∀ i, 0 ≤ i → γ i = none := h0'
 let os4 : OO := [oHg (hG n (wG w) e) 0, oHs (s : Nat) 1, oIn (tzN 64 s : Nat) 2, oHs (s : Nat) 3]
 refine Go.Ev.Reach.after3R (SC_ok r) (tHw_ok r hm) (tm := .nil) (L := 1) (L' := 1) (d := 3) hF hro h0' (.step (.step .base))
  (o1 := ⟨lvLo, flLo, fun vs ms os => vs = vLo ∧ ms = [] ∧ os = os4⟩)
  (o2 := ⟨[5], [.t], fun vs ms os => vs = [some (P0 0)] ∧ ms = [] ∧ os = [oIn (loN w s : Nat) 0]⟩) [] (fun p hp => nomatch hp) ?_ ?_ ?_
 ·rintro vs ms os ⟨rfl, rfl, rfl⟩
  have hl : ((mkA os4).new .defd).next = 5 := by kernel_rfl
  refine Go.Ev.Reach.blockC (Go.Ev.Reach.rangeC (SC_ok r) hF hro h0' (d := 4) (marks := [4]) (A1 := (mkA os4).new .defd) (g := 63) (first := []) (captured := [P0 3]) (S := fun v A' => ∃ os, A' = mkA os ∧ os = oLo (hG n (wG w) e) (s : Nat) (loN w s : Nat) .ready) [] (fun p hp => nomatch hp) (by kernel_rfl) (by kernel_rfl) (by kernel_rfl) ?_ ?_)
  ·have hE : ((mkA os4).new .defd).new (.loop .ready none 3199 ⟨[], bT lvLo vLo .nil⟩ 23 #[11] k_l1 k_l2 4) = mkA (oLo (hG n (wG w) e) (s : Nat) (tzN 64 s : Nat) .ready) := by kernel_rfl
   rw [hl, hE]
   refine heach_iter r hm (l := 5) (p := 3) (fl := fl6) hs (J := fun v os => os = oLo (hG n (wG w) e) (s : Nat) (bsN w s v : Nat) .ready) (E := fun os => os = oLo (hG n (wG w) e) (s : Nat) (loN w s : Nat) .ready) (os0 := oLo (hG n (wG w) e) (s : Nat) (tzN 64 s : Nat) .ready)
    ⟨55, 3, 0, by kernel_rfl⟩ ?_ ?_ (fun os h => h) rfl (by kernel_rfl)
   ·rintro v os hv hb rfl
    rw [bsN, if_neg (fun c => by rw [hb] at c; exact nomatch c.1)]
   ·rintro v os hv hb rfl
    rw [oLo_next]
    refine yLo hw h16 he hs (bs_in hs h0 v (by omega)).1 hv ?_
    show _ = _
    rw [bsN]
    by_cases c : eN w s v ≤ eN w s (bsN w s v)
    ·rw [if_pos c, if_pos ⟨hb, c⟩]
    ·rw [if_neg c, if_neg fun h => c h.2]
  ·rintro v A' ⟨os, rfl, rfl⟩
   rw [hl]
   exact (loT r (hG n (wG w) e) s (loN w s : Nat) _ _ _).trans (qq_ok ⟨rfl, rfl, rfl⟩)
 ·rintro vs ms os ⟨rfl, rfl, rfl⟩
  exact Go.Ev.Reach.segR (SC_ok r) TOk.nil (tm := .nil) (L := 1) (L' := 1) (d := 1) hF hro h0' [] (fun p hp => nomatch hp) ((loZ r (loN w s : Nat) _ _ _ _).trans (qq_ok ⟨rfl, rfl, rfl⟩))
 ·have hn := loA r n (wG w) e s
  have c2 : m_twG ((s : Nat) : Int) = true := decide_eq_true ⟨by omega, by omega⟩
  have e6 : m_tw ((s : Nat) : Int) = ((tzN 64 s : Nat) : Int) := by unfold m_tw; rw [Int.toNat_natCast]
  simp only [c2, e6, hc, Bool.and_self, cond_true] at hn
  exact (hn _ _ _).trans (qq_ok ⟨rfl, rfl, rfl⟩)

end Go.Proofs

/- hue's order: what the call answers. -/
namespace Go.Proofs
open Go Go.Ev Go.Num
set_option linter.unusedVariables false
set_option linter.unusedSimpArgs false
set_option maxRecDepth 100000

theorem aInc {a : Nat} (h : a < 1000000) : IntKind.wrap IntKind.i64 (((a : Nat) : Int) + Int.ofNat 1) = ((a + 1 : Nat) : Int) := by rw [wrI (by simp; omega)]; simp
theorem zer_ws (m : Nat) : zerosL (Nat.mul m 1) [I (Int.ofNat 0)] = m_ws (List.replicate m 0) := by
 have h : ∀ k, zerosL k [I (Int.ofNat 0)] = List.replicate k (I (Int.ofNat 0)) := fun k => rfl
 rw [Nat.mul_eq, Nat.mul_one, h]
 unfold m_ws
 rw [List.map_replicate]
 rfl
theorem all_ok (r : Mem) {m : Nat} (hm16 : m ≤ 16) (w : Nat → Int) (e : Value) : GrT Tryd.prog r 45 [.agg ⟨hG (m : Nat) w e⟩] (U ((2 ^ m - 1 : Nat) : Int)) := by
 refine GrT.of (SC_ok r) (show TOk (SC r) (tcons 36 (eI1 m_v17 fun v => U (m_bit v)) fun _ => none) from TOk.cons TOk.nil (eI1_ok fun v h => ?_)) .nil rfl ⟨1, 3, ?_⟩
 ·have h := of_decide_eq_true h
  refine GrT.of (SC_ok r) TOk.nil .nil rfl ⟨1, 3, ?_⟩
  rw [hsnA, dF (show ¬ v < 0 by omega), Bool.not_false, cond_true]
  obtain ⟨i, rfl⟩ : ∃ i : Nat, v = i := ⟨v.toNat, by omega⟩
  have hi : i < 17 := by omega
  have e : IntKind.wrap IntKind.u64 (Int.ofNat 1 * Int.ofNat 2 ^ min (Int.toNat (i : Int)) 64) = m_bit (i : Int) := by
   have : ∀ j : Fin 17, IntKind.wrap IntKind.u64 (Int.ofNat 1 * Int.ofNat 2 ^ min (Int.toNat ((j.val : Nat) : Int)) 64) = m_bit ((j.val : Nat) : Int) := by decide
   exact this ⟨i, hi⟩
  rw [e]; rfl
 ·have hn := haA r (m : Nat) w e
  have g : m_v17 ((m : Nat) : Int) = true := decide_eq_true ⟨by omega, by omega⟩
  have hp := Nat.two_pow_pos m
  have hA : 2 ^ m ≤ 65536 := Nat.pow_le_pow_right (n := 2) (by decide) hm16
  have b : m_bit ((m : Nat) : Int) = ((2 ^ m : Nat) : Int) := by unfold m_bit; rw [Int.toNat_natCast]; simp
  have wu : IntKind.wrap IntKind.u64 (((2 ^ m : Nat) : Int) - Int.ofNat 1) = ((2 ^ m - 1 : Nat) : Int) := by
   generalize 2 ^ m = x at *
   rw [wrU]; simp; omega
  rw [g, cond_true, b, wu] at hn
  exact hn
theorem bitN (v : Nat) : m_bit ((v : Nat) : Int) = ((2 ^ v : Nat) : Int) := by unfold m_bit; rw [Int.toNat_natCast]; simp
theorem vG_of {v : Nat} (h : v < 16) : m_vG ((v : Nat) : Int) = true := by simp only [m_vG, Bool.and_eq_true, decide_eq_true_eq]; omega
theorem eSi_ok (r : Mem) : EOk (SC r) 36 (eI1 m_vG fun v => U (m_bit v)) := eI1_ok fun v h => hsn_ok r v h
theorem eLo_ok (r : Mem) (hm : Tab r) (n : Int) {w : Nat → Nat} (hw : ∀ i, w i < 65536) (h16 : ∀ i, 16 ≤ i → w i = 0) {e : Value} (he : EdV e) : EOk (SC r) 46 (eLo (hG n (wG w) e)) := EOk.ent fun args A hg => by
 split at hg
 ·rename_i c' s
  simp only [Bool.and_eq_true] at hg
  obtain ⟨h1, h2⟩ := hg
  have h1 := @of_decide_eq_true _ (Classical.propDecidable _) h1
  simp only [List.cons.injEq, Value.agg.injEq, Array.mk.injEq, and_true] at h1
  subst h1
  have h2 := of_decide_eq_true h2
  have h := los_ok r hm n hw h16 he (s := s.toNat) (by omega) (by omega)
  rw [show ((s.toNat : Nat) : Int) = s by omega] at h
  have e1 : m_lo (hG n (wG w) e) s = (loN w s.toNat : Nat) := by unfold m_lo; rw [hG_w n h16 he]
  show POk _ _ _ _ (I (m_lo (hG n (wG w) e) s))
  rw [e1]
  refine GrT.nns h ?_ A
  have := hG_nn n (wG w) he
  show (Go.Ev.nns (hG n (wG w) e) && true) = true
  rw [Bool.and_true]
  exact this
 ·cases hg
theorem tOr_ok (r : Mem) (hm : Tab r) (n : Int) {w : Nat → Nat} (hw : ∀ i, w i < 65536) (h16 : ∀ i, 16 ≤ i → w i = 0) {e : Value} (he : EdV e) : TOk (SC r) (tOr (hG n (wG w) e)) :=
 TOk.cons (TOk.cons (TOk.cons TOk.nil (eSi_ok r)) (eEt_ok r n hw h16 he)) (eLo_ok r hm n hw h16 he)
theorem entN_ok {r : Mem} {f : Nat} {c : List Value} {v : Value} (hc : m_nns c = true) (h : GrT Tryd.prog r f [.agg ⟨c⟩] v) : EOk (SC r) f (entV [.agg ⟨c⟩] v) := EOk.ent fun args A hg => by
 have hs := @of_decide_eq_true _ (Classical.propDecidable _) hg
 subst hs
 refine GrT.nns h ?_ A
 show (Go.Ev.nns c && true) = true
 rw [Bool.and_true]
 exact hc
theorem tAl_ok (r : Mem) {m : Nat} (hm16 : m ≤ 16) (w : Nat → Int) {e : Value} (he : EdV e) : TOk (SC r) (tAl (hG (m : Nat) w e) ((2 ^ m - 1 : Nat) : Int)) := TOk.cons TOk.nil (entN_ok (hG_nn (m : Nat) w he) (all_ok r hm16 w e))

def orW (w : Nat → Nat) (m k : Nat) : List Nat := List.replicate (m - k) 0 ++ orL w m k
theorem orW_zero (w : Nat → Nat) (m : Nat) : orW w m 0 = List.replicate m 0 := by unfold orW; rw [orL, List.append_nil, Nat.sub_zero]
theorem orW_end (w : Nat → Nat) (m : Nat) : orW w m m = orL w m m := by unfold orW; rw [Nat.sub_self]; rfl
theorem orW_len (w : Nat → Nat) {m k : Nat} (h : k ≤ m) : (orW w m k).length = m := by unfold orW; rw [List.length_append, List.length_replicate, orL_len]; omega
theorem orW_set (w : Nat → Nat) {m k : Nat} (h : k < m) : (orW w m k).set (m - 1 - k) (loN w (leN w m k)) = orW w m (k + 1) := by
 unfold orW
 rw [show m - k = (m - (k + 1)) + 1 by omega, List.replicate_succ', List.append_assoc, show m - 1 - k = m - (k + 1) by omega, List.set_append]
 simp [orL]

theorem order_pre (r : Mem) {m : Nat} (h1 : 1 ≤ m) (hm16 : m ≤ 16) (w : Nat → Nat) {e : Value} (he : EdV e) (K : OV → List Nat → OO → CR) (kx : Nat → KS) (kr : KS) : run (SC r) 511 40 1 (.seq Or_0 (.seq Or_1 (.seq Or_2 (.seq Or_3 Or_4)))) (lvlT (SC r) (tAl (hG (m : Nat) (wG w) e) ((2 ^ m - 1 : Nat) : Int)) .nil 1 2) none (rbK 0 lvOr [.g, .g] K) kx kr (sc0 511 [.agg ⟨hG (m : Nat) (wG w) e⟩]) (tr0 511 [.agg ⟨hG (m : Nat) (wG w) e⟩]) [] emptyA = K (vOr m (0 : Nat) ((2 ^ m - 1 : Nat) : Int) ((m : Int) - 1 - (0 : Nat))) [] (oOr (hG (m : Nat) (wG w) e) (m_ws (orW w m 0))) := by
 have hc := hG_nn (m : Nat) (wG w) he
 have sm : ∀ l : List Value, m_same l l = true := same_rfl
 have em : IntKind.wrap IntKind.i64 (((m : Nat) : Int) - Int.ofNat 1) = (m : Int) - 1 - (0 : Nat) := by rw [wrI (by simp; omega)]; simp
 have q1 := zer_ws m
 rw [← orW_zero w m] at q1
 rcases he with rfl | ⟨b, off, len, cap, rfl⟩
 ·have hn := hoAN r (m : Nat) (wG w) ((2 ^ m - 1 : Nat) : Int) K kx kr
  simp only [dT (show 0 ≤ (m : Int) by omega), Int.toNat_natCast, show Nat.ble m m = true from Nat.ble_eq_true_of_le (Nat.le_refl _), show Nat.ble m 1000000 = true from Nat.ble_eq_true_of_le (by omega), q1, ws_nn, hc, sm, em, Bool.and_self, cond_true] at hn
  exact hn
 ·have hn := hoAR r (m : Nat) (wG w) b off len cap ((2 ^ m - 1 : Nat) : Int) K kx kr
  simp only [dT (show 0 ≤ (m : Int) by omega), Int.toNat_natCast, show Nat.ble m m = true from Nat.ble_eq_true_of_le (Nat.le_refl _), show Nat.ble m 1000000 = true from Nat.ble_eq_true_of_le (by omega), q1, ws_nn, hc, sm, em, Bool.and_self, cond_true] at hn
  exact hn

theorem order_rnd (r : Mem) {m : Nat} (h1 : 1 ≤ m) (hm16 : m ≤ 16) {w : Nat → Nat} (h16 : ∀ i, 16 ≤ i → w i = 0) {e : Value} (he : EdV e) {k : Nat} (c : k < m) (K : OV → List Nat → OO → CR) (KX : Nat → OV → List Nat → OO → CR) (kr : KS) : run (SC r) 511 40 1 Or_5 (lvlT (SC r) (tOr (hG (m : Nat) (wG w) e)) .nil 1 2) none (rbK 0 lvOr [.g, .g] K) (fun i => rbK 0 [4, 5] [.g] (KX i)) kr [] (bT lvOr (vOr m (lsN w m k : Nat) (leN w m k : Nat) ((m : Int) - 1 - (k : Nat))) .nil) [] (mkA (oOr (hG (m : Nat) (wG w) e) (m_ws (orW w m k)))) = K (vOr m (lsN w m (k + 1) : Nat) (leN w m (k + 1) : Nat) ((m : Int) - 1 - ((k + 1 : Nat) : Nat))) [] (oOr (hG (m : Nat) (wG w) e) (m_ws (orW w m (k + 1)))) := by
 have hc := hG_nn (m : Nat) (wG w) he
 have sm : ∀ l : List Value, m_same l l = true := same_rfl
 have hA : 2 ^ m ≤ 65536 := Nat.pow_le_pow_right (n := 2) (by decide) hm16
 have hk : k ≤ m := by omega
 have hl := le_lt (w := w) hm16 k
 have h0 := le_ne (w := w) hm16 c
 have hlo := lo_m (w := w) hm16 c
 have q1 : m_lo (hG (m : Nat) (wG w) e) ((leN w m k : Nat) : Int) = (loN w (leN w m k) : Nat) := by unfold m_lo; rw [hG_w _ h16 he, Int.toNat_natCast]
 have q2 : m_eI (hG (m : Nat) (wG w) e) ((leN w m k : Nat) : Int) ((loN w (leN w m k) : Nat) : Int) = (eN w (leN w m k) (loN w (leN w m k)) : Nat) := by unfold m_eI; rw [hG_w _ h16 he, Int.toNat_natCast, Int.toNat_natCast]
 have g1 : m_twG ((leN w m k : Nat) : Int) = true := decide_eq_true ⟨by omega, by omega⟩
 have g2 : m_w16 ((leN w m k : Nat) : Int) = true := decide_eq_true ⟨by omega, by omega⟩
 have g3 : m_w15 ((loN w (leN w m k) : Nat) : Int) = true := decide_eq_true ⟨by omega, by omega⟩
 have ea : (m : Int) - 1 - (k : Nat) = ((m - 1 - k : Nat) : Int) := by omega
 have ea' : IntKind.wrap IntKind.i64 (((m - 1 - k : Nat) : Int) - Int.ofNat 1) = (m : Int) - 1 - ((k + 1 : Nat) : Nat) := by rw [wrI (by simp; omega)]; simp; omega
 have b1 : Nat.blt (m - 1 - k) m = true := Nat.ble_eq_true_of_le (by omega)
 have b2 : Nat.blt (Nat.add 0 (Nat.mul (m - 1 - k) 1)) (m_ws (orW w m k)).length = true := Nat.ble_eq_true_of_le (by rw [ws_len, orW_len w hk]; simp; omega)
 have st : List.set (m_ws (orW w m k)) (Nat.add 0 (Nat.mul (m - 1 - k) 1)) (I ((loN w (leN w m k) : Nat) : Int)) = m_ws (orW w m (k + 1)) := by rw [ws_set, orW_set w c]
 have p1 : 2 ^ loN w (leN w m k) < 65536 := Nat.pow_lt_pow_right (n := 16) (by decide) (by omega)
 have an : ibits .andNot .u64 ((leN w m k : Nat) : Int) ((2 ^ loN w (leN w m k) : Nat) : Int) = (leN w m (k + 1) : Nat) := (uO (by omega) (by omega)).2.2
 have mx : (bif decide (((eN w (leN w m k) (loN w (leN w m k)) : Nat) : Int) > ((lsN w m k : Nat) : Int)) then ((eN w (leN w m k) (loN w (leN w m k)) : Nat) : Int) else ((lsN w m k : Nat) : Int)) = ((lsN w m (k + 1) : Nat) : Int) := by
  rw [lsN]
  by_cases h : ((eN w (leN w m k) (loN w (leN w m k)) : Nat) : Int) > ((lsN w m k : Nat) : Int)
  ·rw [dT h, cond_true, Nat.max_eq_right (by omega)]
  ·rw [dF h, cond_false, Nat.max_eq_left (by omega)]
 rw [ea]
 rcases he with rfl | ⟨b, off, len, cap, rfl⟩
 ·have hn := hoBN r (m : Nat) (wG w) m (m_ws (orW w m k)) (lsN w m k : Nat) (leN w m k : Nat) ((m - 1 - k : Nat) : Int) K KX kr
  simp only [dT (show ((m - 1 - k : Nat) : Int) ≥ 0 by omega), dT (show 0 ≤ ((m - 1 - k : Nat) : Int) by omega), Int.toNat_natCast, sm, q1, q2, g1, g2, g3, b1, b2, st, vG_of (show loN w (leN w m k) < 16 by omega), bitN, an, mx, hc, ws_nn, ea', Bool.and_self, cond_true] at hn
  exact hn
 ·have hn := hoBR r (m : Nat) (wG w) b off len cap m (m_ws (orW w m k)) (lsN w m k : Nat) (leN w m k : Nat) ((m - 1 - k : Nat) : Int) K KX kr
  simp only [dT (show ((m - 1 - k : Nat) : Int) ≥ 0 by omega), dT (show 0 ≤ ((m - 1 - k : Nat) : Int) by omega), Int.toNat_natCast, sm, q1, q2, g1, g2, g3, b1, b2, st, vG_of (show loN w (leN w m k) < 16 by omega), bitN, an, mx, hc, ws_nn, ea', Bool.and_self, cond_true] at hn
  exact hn

theorem order_ok (r : Mem) (hm : Tab r) {m : Nat} (h1 : 1 ≤ m) (hm16 : m ≤ 16) {w : Nat → Nat} (hw : ∀ i, w i < 65536) (h16 : ∀ i, 16 ≤ i → w i = 0) {e : Value} (he : EdV e) :
  SOk (SC r) 31 [.agg ⟨hG (m : Nat) (wG w) e⟩] emptyA fun v A => v = .tuple ⟨[.slice (some ⟨0, 0, none⟩) m m, I (lsN w m m : Nat)]⟩ ∧ A = mkA [some (.cells (m_ws (orL w m m)) 3 0 1)] := by
 have hc := hG_nn (m : Nat) (wG w) he
 have sm : ∀ l : List Value, m_same l l = true := same_rfl
 have hA : 2 ^ m ≤ 65536 := Nat.pow_le_pow_right (n := 2) (by decide) hm16
 refine callL (SC_ok r) (by kernel_rfl) ((bodySC r _).trans Or_eq) (nt := 40) (by kernel_rfl) (rs := [.tmp 2, .tmp 3]) (by kernel_rfl) 511 rfl (.step (.step (.step (.step .base)))) (tAl_ok r hm16 (wG w) he) (tm := .nil) (L := 1) (d := 2) lvOr [.g, .g]
  (fun j vs ms os => ∃ k, k ≤ m ∧ j = m - k ∧ vs = vOr m (lsN w m k : Nat) (leN w m k : Nat) ((m : Int) - 1 - (k : Nat)) ∧ ms = [] ∧ os = oOr (hG (m : Nat) (wG w) e) (m_ws (orW w m k)))
  ⟨[4, 5], [.g], fun vs ms os => vs = [some (.slice (some ⟨0, 0, none⟩) m m), some (I (lsN w m m : Nat))] ∧ ms = [] ∧ os = [some (.cells (m_ws (orL w m m)) 3 0 1)]⟩
  ⟨[2, 3], [.g], fun vs ms os => vs = [some (.slice (some ⟨0, 0, none⟩) m m), some (I (lsN w m m : Nat))] ∧ ms = [] ∧ os = [some (.cells (m_ws (orL w m m)) 3 0 1)]⟩ ?_ ?_ ?_ ?_
 ·exact (order_pre r h1 hm16 w he _ _ _).trans (qq_ok ⟨m, 0, Nat.zero_le _, rfl, rfl, rfl, rfl⟩)
 ·rintro j vs ms os ⟨k, hk, rfl, rfl, rfl, rfl⟩
  refine ⟨_, tOr_ok r hm (m : Nat) hw h16 he, .nil, 1, 1, 2, ?_⟩
  have hl := le_lt (w := w) hm16 k
  by_cases c : k < m
  ·exact (order_rnd r h1 hm16 h16 he c _ _ _).trans (qq_ok ⟨m - (k + 1), by omega, k + 1, c, rfl, rfl, rfl, rfl⟩)
  ·obtain rfl : k = m := by omega
   have e0 : ¬ ((k : Int) - 1 - (k : Nat)) ≥ 0 := by omega
   rw [orW_end]
   rcases he with rfl | ⟨b, off, len, cap, rfl⟩
   ·have hn := hoBN r (k : Nat) (wG w) k (m_ws (orL w k k)) (lsN w k k : Nat) (leN w k k : Nat) ((k : Int) - 1 - (k : Nat))
    simp only [dF e0, ws_nn, Bool.and_self, cond_true, cond_false] at hn
    exact (hn _ _ _).trans (qq_ok ⟨rfl, rfl, rfl⟩)
   ·have hn := hoBR r (k : Nat) (wG w) b off len cap k (m_ws (orL w k k)) (lsN w k k : Nat) (leN w k k : Nat) ((k : Int) - 1 - (k : Nat))
    simp only [dF e0, ws_nn, Bool.and_self, cond_true, cond_false] at hn
    exact (hn _ _ _).trans (qq_ok ⟨rfl, rfl, rfl⟩)
 ·rintro vs ms os ⟨rfl, rfl, rfl⟩
  have hn := hoC r m (m_ws (orL w m m)) (lsN w m m : Nat)
  simp only [ws_nn, Bool.and_self, cond_true] at hn
  exact ⟨_, TOk.nil, .nil, 1, 1, 1, (hn _ _ _ _).trans (qq_ok ⟨rfl, rfl, rfl⟩)⟩
 ·rintro vs ms os ⟨rfl, rfl, rfl⟩
  exact ⟨_, mkA [some (.cells (m_ws (orL w m m)) 3 0 1)], by kernel_rfl, rfl, rfl⟩

end Go.Proofs

/- hue's core: what the call answers. -/
namespace Go.Proofs
open Go Go.Ev Go.Num
set_option linter.unusedVariables false
set_option linter.unusedSimpArgs false
set_option maxRecDepth 100000

theorem tCb_ok (r : Mem) (n : Int) {w : Nat → Nat} (hw : ∀ i, w i < 65536) (h16 : ∀ i, 16 ≤ i → w i = 0) {e : Value} (he : EdV e) : TOk (SC r) (tCb (hG n (wG w) e)) :=
 TOk.cons (TOk.cons TOk.nil (eSi_ok r)) (eEt_ok r n hw h16 he)
theorem oCr_next (c : List Value) (k before left : Int) (st : LoopState) : (mkA (oCr c k before left st)).next = 6 := by kernel_rfl
theorem oCr_cn {c : List Value} (hc : m_nns c = true) (k before left : Int) : Cn 6 flCr (mkA (oCr c k before left .ready)) (oCr c k before left .ready) := ⟨by kernel_rfl, by
 show (m_nns c && true) = true
 rw [hc]; rfl⟩
theorem oCr_end (c : List Value) (k before left : Int) : endR 5 none (St.of [] [] [] (oCr c k before left .busy)) = .ret (.bool true) (mkA (oCr c k before left .ready)) := by kernel_rfl

theorem yCo {r : Mem} {n : Int} {w : Nat → Nat} (hw : ∀ i, w i < 65536) (h16 : ∀ i, 16 ≤ i → w i = 0) {e : Value} (he : EdV e) (k : Int) (b : Nat) {s v : Nat} (hs : s < 65536) (hv : v < 16) {P E : OO → Prop} (hP : P (oCr (hG n (wG w) e) k (b : Nat) ((if ((eN w s v : Nat) : Int) < k then anN s (2 ^ v) else s : Nat) : Int) .ready)) :
  YOk (SC r) 5 [I (v : Nat)] (mkA (oCr (hG n (wG w) e) k (b : Nat) (s : Nat) .ready)) fun u A' => ∃ os', Cn 6 flCr A' os' ∧ ((u = .bool true ∧ P os') ∨ (u = .bool false ∧ E os')) := by
 have hc := hG_nn n (wG w) he
 refine YOk.of (SC_ok r) (i := 5) (st := .ready) (pend := none) (m := 98559) (n := 28) (en := ⟨[], bT lvCp (vCp (b : Nat)) .nil⟩) (params := #[16]) (assign := k_c1) (body := k_c2) (d := 4) (by kernel_rfl) (s0 := []) (b0 := bT (lvCp ++ [16]) (vCp (b : Nat) ++ [some (I (v : Nat))]) .nil) (by kernel_rfl) (tCb_ok r n hw h16 he) (tm := .nil) (L := 1) (L' := 1) (d' := 2)
  ⟨lvCv, flCr, fun vs ms os => vs = vCv (v : Nat) ∧ ms = [] ∧ os = oCr (hG n (wG w) e) k (b : Nat) (s : Nat) .busy⟩
  ⟨[], flCr, fun vs ms os => vs = [] ∧ ms = [] ∧ os = oCr (hG n (wG w) e) k (b : Nat) ((if ((eN w s v : Nat) : Int) < k then anN s (2 ^ v) else s : Nat) : Int) .busy⟩
  (fun _ => Outs.no) Outs.no ?_ ?_ ?_ ?_ ?_
 ·rw [oCr_next]
  have hn := hkD r (hG n (wG w) e) k b s v
  simp only [hc, Bool.and_self, cond_true] at hn
  exact (hn _ _ _ _).trans (qq_ok ⟨rfl, rfl, rfl⟩)
 ·rintro F kk γ W hF hro h0 vs ms os ⟨rfl, rfl, rfl⟩
  rw [oCr_next] at h0
  rw [Cb_eq]
  refine Go.Ev.Reach.blockC (Go.Ev.Reach.segR (SC_ok r) (tCb_ok r n hw h16 he) (tm := .nil) (L := 1) (L' := 1) (d := 2) hF hro h0 [] (fun p hp => nomatch hp) ?_)
  have sm : ∀ l : List Value, m_same l l = true := same_rfl
  have hq := hG_eqv n (wG w) he
  have g1 : m_w16 (s : Int) = true := decide_eq_true ⟨by omega, by omega⟩
  have g2 : m_w15 (v : Int) = true := decide_eq_true ⟨by omega, by omega⟩
  have q1 : m_eI (hG n (wG w) e) (s : Int) (v : Int) = (eN w s v : Nat) := by unfold m_eI; rw [hG_w n h16 he, Int.toNat_natCast, Int.toNat_natCast]
  have p1 : 2 ^ v < 65536 := Nat.pow_lt_pow_right (n := 16) (by decide) (by omega)
  have an : ibits .andNot .u64 ((s : Nat) : Int) ((2 ^ v : Nat) : Int) = (anN s (2 ^ v) : Nat) := (uO (by omega) (by omega)).2.2
  have ei : ∀ (k : IntKind) (z : Int), m_eqv (.int k z) (.int k z) = true := fun k z => by simp [m_eqv, veq]
  suffices hn : ∀ K kx kr, run (SC r) 98559 28 1 Co_b (lvlT (SC r) (tCb (hG n (wG w) e)) .nil 1 2) (some 5) (rbK 6 [] flCr K) kx kr [] (bT lvCv (vCv v) .nil) [] (mkA (oCr (hG n (wG w) e) k b s .busy)) = K [] [] (oCr (hG n (wG w) e) k (b : Nat) ((if ((eN w s v : Nat) : Int) < k then anN s (2 ^ v) else s : Nat) : Int) .busy) from (hn _ _ _).trans (qq_ok ⟨rfl, rfl, rfl⟩)
  intro K kx kr
  rcases he with rfl | ⟨b0, off, len, cap, rfl⟩
  ·have hn := hkEN r n (wG w) k b s v K kx kr
   simp only [sm, g1, g2, q1, ei, hq, vG_of hv, bitN, an, Bool.and_self, cond_true] at hn
   by_cases c : ((eN w s v : Nat) : Int) < k
   ·rw [if_pos c]; rw [decide_eq_true c, cond_true] at hn; exact hn
   ·rw [if_neg c]; rw [decide_eq_false c, cond_false] at hn; exact hn
  ·have hn := hkER r n (wG w) b0 off len cap k b s v K kx kr
   simp only [sm, g1, g2, q1, ei, hq, vG_of hv, bitN, an, Bool.and_self, cond_true] at hn
   by_cases c : ((eN w s v : Nat) : Int) < k
   ·rw [if_pos c]; rw [decide_eq_true c, cond_true] at hn; exact hn
   ·rw [if_neg c]; rw [decide_eq_false c, cond_false] at hn; exact hn
 ·rintro vs ms os ⟨rfl, rfl, rfl⟩
  exact ⟨_, _, oCr_end _ _ _ _, _, oCr_cn hc _ _ _, .inl ⟨rfl, hP⟩⟩
 ·rintro id vs ms os hf
  exact hf.elim
 ·rintro vs ms os hf
  exact hf.elim

theorem core_ok (r : Mem) (hm : Tab r) {m : Nat} (h1 : 1 ≤ m) (hm16 : m ≤ 16) {w : Nat → Nat} (hw : ∀ i, w i < 65536) (h16 : ∀ i, 16 ≤ i → w i = 0) {e : Value} (he : EdV e) (k : Int) :
  GrT Tryd.prog r 34 [.agg ⟨hG (m : Nat) (wG w) e⟩, I k] (U (corN w k m : Nat)) := by
 have hc := hG_nn (m : Nat) (wG w) he
 have sm : ∀ l : List Value, m_same l l = true := same_rfl
 have hA : 2 ^ m ≤ 65536 := Nat.pow_le_pow_right (n := 2) (by decide) hm16
 have hA2 : 2 ≤ 2 ^ m := Nat.pow_le_pow_right (n := 2) (by decide) h1
 refine GrT.ofS (C := SC r) rfl rfl rfl (callO (SC_ok r) (by kernel_rfl) ((bodySC r _).trans Co_eq) (nt := 28) (by kernel_rfl) (rs := [.tmp 4]) (by kernel_rfl) 98559 rfl
  ⟨[4], [], fun vs ms os => vs = [some (U (corN w k m : Nat))] ∧ ms = [] ∧ os = []⟩ ?_ fun γ W F kk hwr hF hro h0' => ?_)
 ·rintro vs ms os ⟨rfl, rfl, rfl⟩
  exact ⟨_, mkA [], by kernel_rfl, rfl⟩
 have h0' : ∀ i, 0 ≤ i → γ i = none := h0'
 let Z : Outs := ⟨[5], [.t], fun vs ms os => vs = [some (P0 0)] ∧ ms = [] ∧ os = [oHs (corN w k m : Nat) 0]⟩
 refine Go.Ev.Reach.after3R (SC_ok r) (tAl_ok r hm16 (wG w) he) (tm := .nil) (L := 1) (L' := 1) (d := 2) hF hro h0' (.step (.step .base))
  (o1 := ⟨lvCo, flCo, fun vs ms os => vs = vCo 0 ∧ ms = [] ∧ os = oCo (hG (m : Nat) (wG w) e) k (2 ^ m - 1 : Nat)⟩) (o2 := Z) [] (fun p hp => nomatch hp) ?_ ?_ ?_
 ·rintro vs ms os ⟨rfl, rfl, rfl⟩
  refine Go.Ev.Reach.blockC (Go.Ev.Reach.loopC (j := 2 ^ m - 1 + 1) (lv := lvCo) (fl := flCo) (I := fun j vs ms os => ∃ s b : Nat, vs = vCo (b : Nat) ∧ ms = [] ∧ os = oCo (hG (m : Nat) (wG w) e) k (s : Nat) ∧ CoAt w k m s ∧ (s = b → psN w k s m = s) ∧ j = if s = b then 0 else s + 1) (fun j vs ms os hI => ?_) ⟨2 ^ m - 1, 0, rfl, rfl, rfl, co_at w k m, fun h => absurd h (by omega), by rw [if_neg (by omega)]⟩)
  obtain ⟨s, b, rfl, rfl, rfl, hat, hst, rfl⟩ := hI
  have hs : s < 2 ^ m := hat.1
  refine Go.Ev.Reach.afterR (SC_ok r) TOk.nil (tm := .nil) (L := 1) (L' := 1) (d := 1) hF hro h0' .base (o1 := ⟨lvCo, flCo, fun vs ms os => s ≠ b ∧ vs = vCo (b : Nat) ∧ ms = [] ∧ os = oCo (hG (m : Nat) (wG w) e) k (s : Nat)⟩) [(0, Z)] (fun p hp => by simp only [List.mem_cons, List.not_mem_nil, or_false] at hp; subst hp; rfl) ?_ ?_
  ·rintro vs ms os ⟨hsb, rfl, rfl, rfl⟩
   refine Go.Ev.Reach.blockC (Go.Ev.Reach.afterR (SC_ok r) TOk.nil (tm := .nil) (L := 1) (L' := 1) (d := 2) hF hro h0' (.step .base) (o1 := ⟨lvCp, flCp, fun vs ms os => vs = vCp (s : Nat) ∧ ms = [] ∧ os = oCo (hG (m : Nat) (wG w) e) k (s : Nat) ++ [oHs (s : Nat) 3]⟩) [] (fun p hp => nomatch hp) ?_ ?_)
   ·rintro vs ms os ⟨rfl, rfl, rfl⟩
    have hl : ((mkA (oCo (hG (m : Nat) (wG w) e) k (s : Nat) ++ [oHs (s : Nat) 3])).new .defd).next = 5 := by kernel_rfl
    refine Go.Ev.Reach.blockC (Go.Ev.Reach.rangeC (SC_ok r) hF hro h0' (d := 4) (marks := [4]) (A1 := (mkA (oCo (hG (m : Nat) (wG w) e) k (s : Nat) ++ [oHs (s : Nat) 3])).new .defd) (g := 63) (first := []) (captured := [P0 3]) (S := fun v A' => ∃ os, A' = mkA os ∧ os = oCr (hG (m : Nat) (wG w) e) k (s : Nat) (psN w k s m : Nat) .ready) [] (fun p hp => nomatch hp) (by kernel_rfl) (by kernel_rfl) (by kernel_rfl) ?_ ?_)
    ·have hE : ((mkA (oCo (hG (m : Nat) (wG w) e) k (s : Nat) ++ [oHs (s : Nat) 3])).new .defd).new (.loop .ready none 98559 ⟨[], bT lvCp (vCp (s : Nat)) .nil⟩ 28 #[16] k_c1 k_c2 4) = mkA (oCr (hG (m : Nat) (wG w) e) k (s : Nat) (s : Nat) .ready) := by kernel_rfl
     rw [hl, hE]
     refine heach_iter r hm (l := 5) (p := 3) (fl := flCr) (show s < 65536 by omega) (J := fun v os => os = oCr (hG (m : Nat) (wG w) e) k (s : Nat) (psN w k s v : Nat) .ready) (E := fun os => os = oCr (hG (m : Nat) (wG w) e) k (s : Nat) (psN w k s m : Nat) .ready) (os0 := oCr (hG (m : Nat) (wG w) e) k (s : Nat) (s : Nat) .ready)
      ⟨55, 3, 0, by kernel_rfl⟩ ?_ ?_ ?_ rfl (by kernel_rfl)
     ·rintro v os hv hb rfl
      rw [psN, if_neg (fun c => by rw [ps_bit w k s v v (Nat.le_refl _), hb] at c; exact nomatch c.1)]
     ·rintro v os hv hb rfl
      rw [oCr_next]
      have hp := ps_sub w k s v
      refine yCo hw h16 he k s (s := psN w k s v) (by omega) hv ?_
      show _ = _
      rw [psN]
      by_cases c : ((eN w (psN w k s v) v : Nat) : Int) < k
      ·rw [if_pos c, if_pos ⟨by rw [ps_bit w k s v v (Nat.le_refl _)]; exact hb, c⟩]
      ·rw [if_neg c, if_neg fun h => c h.2]
     ·rintro os rfl
      rw [show (16 : Nat) = m + (16 - m) by omega, ps_end hs]
    ·rintro v A' ⟨os, rfl, rfl⟩
     rw [hl]
     have hn := hkT r (hG (m : Nat) (wG w) e) k (s : Nat) (psN w k s m : Nat)
     simp only [hc, Bool.and_self, cond_true] at hn
     refine (hn _ _ _).trans (qq_ok ?_)
     by_cases c : psN w k s m = s
     ·exact ⟨0, by rw [if_neg hsb]; omega, psN w k s m, s, rfl, rfl, rfl, by rw [c]; exact hat, fun _ => by rw [c, c], by rw [if_pos c]⟩
     ·have hp := ps_sub w k s m
      exact ⟨psN w k s m + 1, by rw [if_neg hsb]; omega, psN w k s m, s, rfl, rfl, rfl, co_next hat c, fun h => absurd h c, by rw [if_neg c]⟩
   ·have hn := hkC r (hG (m : Nat) (wG w) e) k s b
    simp only [hc, Bool.and_self, cond_true] at hn
    exact (hn _ _ _).trans (qq_ok ⟨rfl, rfl, rfl⟩)
  ·have hn := hkB r (hG (m : Nat) (wG w) e) k s b
   by_cases c : s = b
   ·have e1 : (((s : Nat) : Int) != ((b : Nat) : Int)) = false := by simp [c]
    simp only [e1, cond_false] at hn
    exact (hn _ _ _ _).trans (qq_ok ⟨rfl, rfl, by rw [co_stop hat (hst c)]; rfl⟩)
   ·have e1 : (((s : Nat) : Int) != ((b : Nat) : Int)) = true := by simp; exact fun h => c (Int.ofNat_inj.1 h)
    simp only [e1, hc, Bool.and_self, cond_true] at hn
    exact (hn _ _ _ _).trans (qq_ok ⟨c, rfl, rfl, rfl⟩)
 ·rintro vs ms os ⟨rfl, rfl, rfl⟩
  exact Go.Ev.Reach.segR (SC_ok r) TOk.nil (tm := .nil) (L := 1) (L' := 1) (d := 1) hF hro h0' [] (fun p hp => nomatch hp) ((hkZ r (corN w k m : Nat) _ _ _ _).trans (qq_ok ⟨rfl, rfl, rfl⟩))
 ·suffices hn : ∀ K kx kr, run (SC r) 98559 28 1 (.seq Co_0 (.seq Co_1 Co_2)) (lvlT (SC r) (tAl (hG (m : Nat) (wG w) e) ((2 ^ m - 1 : Nat) : Int)) .nil 1 2) none (rbK 0 lvCo flCo K) kx kr (sc0 98559 [.agg ⟨hG (m : Nat) (wG w) e⟩, I k]) (tr0 98559 [.agg ⟨hG (m : Nat) (wG w) e⟩, I k]) [] emptyA = K (vCo 0) [] (oCo (hG (m : Nat) (wG w) e) k ((2 ^ m - 1 : Nat) : Int)) from (hn _ _ _).trans (qq_ok ⟨rfl, rfl, rfl⟩)
  intro K kx kr
  rcases he with rfl | ⟨b0, off, len, cap, rfl⟩
  ·have hn := hkAN r (m : Nat) (wG w) k ((2 ^ m - 1 : Nat) : Int) K kx kr
   simp only [sm, hc, Bool.and_self, cond_true] at hn
   exact hn
  ·have hn := hkAR r (m : Nat) (wG w) b0 off len cap k ((2 ^ m - 1 : Nat) : Int) K kx kr
   simp only [sm, hc, Bool.and_self, cond_true] at hn
   exact hn

end Go.Proofs

/- The program's words of neighbours are the reference's. -/
set_option linter.unusedVariables false
set_option linter.unusedSimpArgs false
namespace Go.Proofs
open Go Go.Ev Go.Num

theorem addB_nat (ws : List Nat) (i b : Nat) (hw : ∀ w ∈ ws, w < 65536) (hb : b < 16) : addB (ws.map fun (w : Nat) => (w : Int)) i (bit b) = (orN ws i b).map fun (w : Nat) => (w : Int) := by
 have e : (ws.map fun (w : Nat) => (w : Int)).getD i 0 = ((ws.getD i 0 : Nat) : Int) := by
  rw [List.getD_eq_getElem?_getD, List.getD_eq_getElem?_getD, List.getElem?_map]
  cases ws[i]? <;> rfl
 have e2 : bit b = ((2 ^ b : Nat) : Int) := by unfold bit; simp
 unfold addB orN orB
 rw [e, e2, or_nat (.inl rfl) (getD_lt hw i) (bit16 hb), List.map_set]

theorem nbz_nat (z : Nat → Int) {n : Int} (hn : n ≤ 16) : ∀ k, (∀ i, i < k → 0 ≤ ea z i ∧ ea z i < eb z i ∧ eb z i < n) → nbz z k = (nbN 16 z k).map fun (w : Nat) => (w : Int)
 | 0, _ => by simp [nbz, nbN]
 | k + 1, h => by
  obtain ⟨b1, b2, b3⟩ := h k (by omega)
  have hw := nbN_lt 16 z hn k fun i hi => h i (by omega)
  rw [nbz, nbN, nbz_nat z hn k fun i hi => h i (by omega), jnZ, jnN, addB_nat _ _ _ hw (by omega), addB_nat _ _ _ (orN_lt hw _ (by omega)) (by omega)]

theorem orN_take (ws : List Nat) (m i b : Nat) (hi : i < m) : (orN ws i b).take m = orN (ws.take m) i b := by
 unfold orN
 rw [List.take_set]
 congr 2
 rw [List.getD_eq_getElem?_getD, List.getD_eq_getElem?_getD, List.getElem?_take_of_lt hi]
theorem nbN_take (z : Nat → Int) {m : Nat} (hm : m ≤ 16) : ∀ k, (∀ i, i < k → 0 ≤ ea z i ∧ ea z i < eb z i ∧ eb z i < m) → (nbN 16 z k).take m = nbN m z k
 | 0, _ => by simp only [nbN, List.take_replicate]; congr 1; omega
 | k + 1, h => by
  obtain ⟨b1, b2, b3⟩ := h k (by omega)
  rw [nbN, nbN, jnN, jnN, orN_take _ _ _ _ (by omega), orN_take _ _ _ _ (by omega), nbN_take z hm k fun i hi => h i (by omega)]

end Go.Proofs

/- Entries that laws over small graphs share: tame, Of. -/
namespace Go.Proofs
open Go Go.Ev Go.Num
set_option linter.unusedVariables false
set_option linter.unusedSimpArgs false
set_option maxRecDepth 100000

noncomputable def eOf1 (m len : Nat) (c g : List Value) : Ent := ⟨fun args A => match args with
  | [.int .i64 n, .slice (some ⟨i, k, none⟩) l cap] => match A.heap.get i with
   | some (.cells c' _ _ _) => m_same [.int .i64 n, .slice (some ⟨0, k, none⟩) l cap, .agg ⟨c'⟩] [.int .i64 m, .slice (some ⟨0, 0, none⟩) len unk, .agg ⟨c⟩]
   | _ => false
  | _ => false, fun _ _ => true, fun _ A => .slice (some ⟨A.next, 0, none⟩) m m, fun _ A => A.new (.cells g 3 A.next 1), fun _ _ => undef, fun _ A => A⟩
noncomputable def eOf0 (m : Nat) (g : List Value) : Ent := ⟨fun args _ => m_same args [I (m : Nat), .slice none 0 0], fun _ _ => true, fun _ A => .slice (some ⟨A.next, 0, none⟩) m m, fun _ A => A.new (.cells g 3 A.next 1), fun _ _ => undef, fun _ A => A⟩
noncomputable def eTm1 (a0 : List Value) (m len : Nat) (c : List Value) : Ent := ⟨fun args _ => m_same args a0, fun _ _ => true, fun _ A => .tuple ⟨[I (m : Nat), .slice (some ⟨A.next, 0, none⟩) len unk]⟩, fun _ A => A.new (.cells c 52 A.next 2), fun _ _ => undef, fun _ A => A⟩
theorem zAt2_E (E : List (Nat × Nat)) {j : Nat} (h : j < 2 * E.length) : zAt2 (pcE E) (0 + j) = zE E j := by
 unfold zAt2
 rw [Nat.zero_add, pcE_get E j h]
theorem okL2_E (E : List (Nat × Nat)) (h : E.length ≤ 1000000) : m_okL2 (pcE E) 0 E.length = true := @decide_eq_true _ (Classical.propDecidable _) ⟨h, fun j hj => ⟨_, by rw [Nat.zero_add]; exact pcE_get E j hj⟩⟩
theorem rowE {r : Mem} {b k : Nat} {E : List (Nat × Nat)} (h : rowAt r b k (2 * E.length) (fun j => zAt2 (pcE E) (0 + j))) : rowAt r b k (2 * E.length) (zE E) := fun j hj => by
 have := h j hj
 simp only at this
 rw [this, zAt2_E E hj]
theorem own_ws {r : Mem} {γ : Gam} {A : AW} {W : World} (hw : WRel γ A W) (hR : Ro r γ W) {i m : Nat} (hm : m ≤ 16) {ws : List Nat} (hlw : ws.length = m) {e f z : Nat} (hget : A.heap.get i = some (.cells (m_ws ws) e f z)) {l : List Value} (hl : gnds l = true) {args' : Array Value} (ha : VsRel γ (.slice (some ⟨i, 0, none⟩) m m :: l) args'.toList) :
  ∃ b k', VsRel noG (RS b k' m 0 :: l) args'.toList ∧ ∀ k, k < m → memW W b (k' + k) = some (I (ws.getD k 0 : Nat)) := by
 obtain ⟨la⟩ := args'
 cases ha with
 | cons hv hrest =>
 obtain ⟨b, k', c', rfl, hrd⟩ := rd_world hw hR hv (natFK2 (by unfold unkE; omega))
 refine ⟨b, k', .cons (.sliceRo _ _ _ _ _ _ (by decide) (Nat.zero_le _)) ?_, fun j hj => ?_⟩
 ·rw [hrest.eq_of_gnds hl]
  exact VsRel.of_gnds noG l hl
 ·refine hrd j _ ?_ rfl
  simp only [AW.rd, AW.cell, hget]
  have := ws_get (ws := ws) (k := j) (by omega)
  rw [Nat.mul_eq, Nat.mul_one, Nat.add_eq] at this
  exact this

theorem ofV_row {m : Nat} (h : m ≤ 16) : ofV 0 (.slice (some ⟨0, 0, none⟩) m m) = true := by simp [ofV, of1]
theorem eOf1_ok (r : Mem) {m : Nat} (h1 : 1 ≤ m) (hm16 : m ≤ 16) {E : List (Nat × Nat)} (hE : okAll (m : Int) (zE E) E.length = true) (hl : E.length ≤ 1000000) : EOk (SC r) 6 (eOf1 m E.length (pcE E) (m_ws (nbN m (zE E) E.length))) := fun args A hgd F hF k γ W args' hw hR ha => by
 refine ⟨fun hcc => ?_, fun h => nomatch h⟩
 clear hcc
 dsimp only [eOf1] at hgd ⊢
 split at hgd
 ·rename_i n i k0 l cap
  split at hgd
  ·rename_i c' e f z hget
   have hs := @of_decide_eq_true _ (Classical.propDecidable _) hgd
   simp only [List.cons.injEq, Value.int.injEq, Value.slice.injEq, Option.some.injEq, Addr.mk.injEq, Value.agg.injEq, Array.mk.injEq, and_true, true_and] at hs
   obtain ⟨rfl, ⟨rfl, rfl, rfl⟩, rfl⟩ := hs
   obtain ⟨b, k', p1, p2, p3⟩ := own_mem hw hR hget (okL2_E E hl) rfl rfl ha
   have h := of_ok (memW W) m h1 (by omega) b k' E.length 0 _ (rowE p2) p3 hE
   exact h.ends (γ := γ) (A := A) (ofV_row (by omega)) (ws_gnd _) hF hw (memW_ro W) p1 ha
  ·cases hgd
 ·cases hgd

theorem oN1 : (lvlT (SC fun _ _ => none) (fun _ => none) .nil 20 3).call 6 [I 1, .slice none 0 0] emptyA finM = .ret (.slice (some ⟨0, 0, none⟩) 1 1) (rowA (m_ws (List.replicate 1 0)) 3 1) := by kernel_rfl
theorem oN2 : (lvlT (SC fun _ _ => none) (fun _ => none) .nil 20 3).call 6 [I 2, .slice none 0 0] emptyA finM = .ret (.slice (some ⟨0, 0, none⟩) 2 2) (rowA (m_ws (List.replicate 2 0)) 3 1) := by kernel_rfl
theorem oN3 : (lvlT (SC fun _ _ => none) (fun _ => none) .nil 20 3).call 6 [I 3, .slice none 0 0] emptyA finM = .ret (.slice (some ⟨0, 0, none⟩) 3 3) (rowA (m_ws (List.replicate 3 0)) 3 1) := by kernel_rfl
theorem oN4 : (lvlT (SC fun _ _ => none) (fun _ => none) .nil 20 3).call 6 [I 4, .slice none 0 0] emptyA finM = .ret (.slice (some ⟨0, 0, none⟩) 4 4) (rowA (m_ws (List.replicate 4 0)) 3 1) := by kernel_rfl
theorem oN5 : (lvlT (SC fun _ _ => none) (fun _ => none) .nil 20 3).call 6 [I 5, .slice none 0 0] emptyA finM = .ret (.slice (some ⟨0, 0, none⟩) 5 5) (rowA (m_ws (List.replicate 5 0)) 3 1) := by kernel_rfl
theorem oN6 : (lvlT (SC fun _ _ => none) (fun _ => none) .nil 20 3).call 6 [I 6, .slice none 0 0] emptyA finM = .ret (.slice (some ⟨0, 0, none⟩) 6 6) (rowA (m_ws (List.replicate 6 0)) 3 1) := by kernel_rfl
theorem oN7 : (lvlT (SC fun _ _ => none) (fun _ => none) .nil 20 3).call 6 [I 7, .slice none 0 0] emptyA finM = .ret (.slice (some ⟨0, 0, none⟩) 7 7) (rowA (m_ws (List.replicate 7 0)) 3 1) := by kernel_rfl
theorem oN8 : (lvlT (SC fun _ _ => none) (fun _ => none) .nil 20 3).call 6 [I 8, .slice none 0 0] emptyA finM = .ret (.slice (some ⟨0, 0, none⟩) 8 8) (rowA (m_ws (List.replicate 8 0)) 3 1) := by kernel_rfl
theorem oN9 : (lvlT (SC fun _ _ => none) (fun _ => none) .nil 20 3).call 6 [I 9, .slice none 0 0] emptyA finM = .ret (.slice (some ⟨0, 0, none⟩) 9 9) (rowA (m_ws (List.replicate 9 0)) 3 1) := by kernel_rfl
theorem oN10 : (lvlT (SC fun _ _ => none) (fun _ => none) .nil 20 3).call 6 [I 10, .slice none 0 0] emptyA finM = .ret (.slice (some ⟨0, 0, none⟩) 10 10) (rowA (m_ws (List.replicate 10 0)) 3 1) := by kernel_rfl
theorem oN11 : (lvlT (SC fun _ _ => none) (fun _ => none) .nil 20 3).call 6 [I 11, .slice none 0 0] emptyA finM = .ret (.slice (some ⟨0, 0, none⟩) 11 11) (rowA (m_ws (List.replicate 11 0)) 3 1) := by kernel_rfl
theorem oN12 : (lvlT (SC fun _ _ => none) (fun _ => none) .nil 20 3).call 6 [I 12, .slice none 0 0] emptyA finM = .ret (.slice (some ⟨0, 0, none⟩) 12 12) (rowA (m_ws (List.replicate 12 0)) 3 1) := by kernel_rfl
theorem oN13 : (lvlT (SC fun _ _ => none) (fun _ => none) .nil 20 3).call 6 [I 13, .slice none 0 0] emptyA finM = .ret (.slice (some ⟨0, 0, none⟩) 13 13) (rowA (m_ws (List.replicate 13 0)) 3 1) := by kernel_rfl
theorem oN14 : (lvlT (SC fun _ _ => none) (fun _ => none) .nil 20 3).call 6 [I 14, .slice none 0 0] emptyA finM = .ret (.slice (some ⟨0, 0, none⟩) 14 14) (rowA (m_ws (List.replicate 14 0)) 3 1) := by kernel_rfl
theorem oN15 : (lvlT (SC fun _ _ => none) (fun _ => none) .nil 20 3).call 6 [I 15, .slice none 0 0] emptyA finM = .ret (.slice (some ⟨0, 0, none⟩) 15 15) (rowA (m_ws (List.replicate 15 0)) 3 1) := by kernel_rfl
theorem oN16 : (lvlT (SC fun _ _ => none) (fun _ => none) .nil 20 3).call 6 [I 16, .slice none 0 0] emptyA finM = .ret (.slice (some ⟨0, 0, none⟩) 16 16) (rowA (m_ws (List.replicate 16 0)) 3 1) := by kernel_rfl
theorem ofN_ok {m : Nat} (h1 : 1 ≤ m) (h2 : m ≤ 16) : GrM Tryd.prog (fun _ _ => none) 6 [I (m : Nat), .slice none 0 0] (.slice (some ⟨0, 0, none⟩) m m) (rowA (m_ws (nbN m (zE []) 0)) 3 1) := by
 have : m = 1 ∨ m = 2 ∨ m = 3 ∨ m = 4 ∨ m = 5 ∨ m = 6 ∨ m = 7 ∨ m = 8 ∨ m = 9 ∨ m = 10 ∨ m = 11 ∨ m = 12 ∨ m = 13 ∨ m = 14 ∨ m = 15 ∨ m = 16 := by omega
 rcases this with rfl | rfl | rfl | rfl | rfl | rfl | rfl | rfl | rfl | rfl | rfl | rfl | rfl | rfl | rfl | rfl
 ·exact GrM.of (SC_ok fun _ _ => none) TOk.nil .nil ⟨20, 3, oN1⟩
 ·exact GrM.of (SC_ok fun _ _ => none) TOk.nil .nil ⟨20, 3, oN2⟩
 ·exact GrM.of (SC_ok fun _ _ => none) TOk.nil .nil ⟨20, 3, oN3⟩
 ·exact GrM.of (SC_ok fun _ _ => none) TOk.nil .nil ⟨20, 3, oN4⟩
 ·exact GrM.of (SC_ok fun _ _ => none) TOk.nil .nil ⟨20, 3, oN5⟩
 ·exact GrM.of (SC_ok fun _ _ => none) TOk.nil .nil ⟨20, 3, oN6⟩
 ·exact GrM.of (SC_ok fun _ _ => none) TOk.nil .nil ⟨20, 3, oN7⟩
 ·exact GrM.of (SC_ok fun _ _ => none) TOk.nil .nil ⟨20, 3, oN8⟩
 ·exact GrM.of (SC_ok fun _ _ => none) TOk.nil .nil ⟨20, 3, oN9⟩
 ·exact GrM.of (SC_ok fun _ _ => none) TOk.nil .nil ⟨20, 3, oN10⟩
 ·exact GrM.of (SC_ok fun _ _ => none) TOk.nil .nil ⟨20, 3, oN11⟩
 ·exact GrM.of (SC_ok fun _ _ => none) TOk.nil .nil ⟨20, 3, oN12⟩
 ·exact GrM.of (SC_ok fun _ _ => none) TOk.nil .nil ⟨20, 3, oN13⟩
 ·exact GrM.of (SC_ok fun _ _ => none) TOk.nil .nil ⟨20, 3, oN14⟩
 ·exact GrM.of (SC_ok fun _ _ => none) TOk.nil .nil ⟨20, 3, oN15⟩
 ·exact GrM.of (SC_ok fun _ _ => none) TOk.nil .nil ⟨20, 3, oN16⟩
theorem eOf0_ok (r : Mem) {m : Nat} (h1 : 1 ≤ m) (hm16 : m ≤ 16) : EOk (SC r) 6 (eOf0 m (m_ws (nbN m (zE []) 0))) := fun args A hgd F hF k γ W args' hw hR ha => by
 refine ⟨fun hcc => ?_, fun h => nomatch h⟩
 have hs := @of_decide_eq_true _ (Classical.propDecidable _) hgd
 subst hs
 have := (ofN_ok h1 hm16).ends (args := [I (m : Nat), .slice none 0 0]) (γ := γ) (A := A) (ofV_row (by omega)) (ws_gnd _) hF hw (fun b j u h => nomatch h) (k := k) (args' := args') ?_ ha
 ·exact this
 ·rw [ha.eq_of_gnds rfl]
  exact VsRel.of_gnds noG _ rfl
theorem eTm1_ok (r : Mem) {a0 : List Value} (hro : roVs a0 = true) {m : Nat} {p : Nat × Nat} {l : List (Nat × Nat)} (h : SOk (SC r) 5 a0 emptyA fun v A => v = vTa m (p :: l) ∧ A = mkA (oL (p :: l))) : EOk (SC r) 5 (eTm1 a0 m (l.length + 1) (pcE (p :: l))) := fun args A hgd F hF k γ W args' hw hR ha => by
 refine ⟨fun hcc => ?_, fun h => nomatch h⟩
 have hs := @of_decide_eq_true _ (Classical.propDecidable _) hgd
 subst hs
 have hg : GrM Tryd.prog r 5 args (vTa m (p :: l)) (rowA (pcE (p :: l)) 52 2) := GrM.ofS (C := SC r) rfl rfl h
 have hof : ofV 0 (vTa m (p :: l)) = true := by simp [vTa, vL, ofV, of1, gnd]
 exact hg.ends (γ := γ) (A := A) hof (pcE_gnd _) hF hw (hR.noG noG fun _ => rfl) (ha.of_ros hro) ha
theorem tm0_ok (r : Mem) {a0 : List Value} {m : Nat} (h : SOk (SC r) 5 a0 emptyA fun v A => v = vTa m [] ∧ A = mkA (oL [])) : GrT Tryd.prog r 5 a0 (.tuple ⟨[I (m : Nat), .slice none 0 0]⟩) :=
 GrT.ofS (C := SC r) rfl rfl rfl fun F hF k γ W args' hw hR ha => (h F hF k γ W args' hw hR ha).mono fun e W' ⟨u, B, ⟨h, _⟩, he⟩ => ⟨u, B, h, he⟩

theorem gE_len (n most : Int) (len : Nat) (z : Nat → Int) (h1 : 1 ≤ most) (h2 : most ≤ 16) : (gE n most len z).length ≤ 1000000 := by
 have hg := (gM_ok n h1 h2).2.2
 unfold gE
 have := alE_len (fun k => (tmN (gM n most) z (min 60 len)).getD k 0) (gM n most) (gM n most)
 have : gM n most * gM n most ≤ 16 * 16 := Nat.mul_le_mul hg hg
 omega


end Go.Proofs

/- What laws over graphs share: the words, the arguments as the law holds them. -/
namespace Go.Proofs
open Go Go.Ev Go.Num
set_option linter.unusedVariables false
set_option linter.unusedSimpArgs false
set_option maxRecDepth 100000

def wS (E : List (Nat × Nat)) (i : Nat) : Nat := (nbN 16 (zE E) E.length).getD i 0
theorem getD_map (ws : List Nat) (i : Nat) : (ws.map fun (w : Nat) => (w : Int)).getD i 0 = ((ws.getD i 0 : Nat) : Int) := by
 rw [List.getD_eq_getElem?_getD, List.getD_eq_getElem?_getD, List.getElem?_map]
 cases ws[i]? <;> rfl
theorem wS_lt {m : Nat} (hm16 : m ≤ 16) {E : List (Nat × Nat)} (hE : okAll (m : Int) (zE E) E.length = true) (i : Nat) : wS E i < 65536 := getD_lt (nbN_lt 16 (zE E) (n := (m : Int)) (by omega) E.length fun i hi => okAll_at hE i hi) i
def wR (m : Nat) (E : List (Nat × Nat)) (i : Nat) : Nat := (nbN m (zE E) E.length).getD i 0
theorem wR_eq {m : Nat} (hm16 : m ≤ 16) {E : List (Nat × Nat)} (hE : okAll (m : Int) (zE E) E.length = true) (i : Nat) (hi : i < m) : wS E i = wR m E i := nb_ext hm16 (zE E) E.length (fun i hi => okAll_at hE i hi) i hi

abbrev XE := Option (Nat × List Value)
noncomputable def gX (m : Nat) (x : XE) (args : List Value) (A : AW) : Bool := match args with
 | [.int .i64 n, .slice (some ⟨i, k, none⟩) l cap] => match x with
  | some (len, c) => match A.heap.get i with
   | some (.cells c' _ _ _) => m_same [.int .i64 n, .slice (some ⟨0, k, none⟩) l cap, .agg ⟨c'⟩] [I (m : Nat), .slice (some ⟨0, 0, none⟩) len unk, .agg ⟨c⟩]
   | _ => false
  | none => false
 | [.int .i64 n, .slice none 0 0] => match x with
  | none => m_same [.int .i64 n] [I (m : Nat)]
  | some _ => false
 | _ => false
noncomputable def gG (m : Nat) (g : List Value) (args : List Value) (A : AW) : Bool := match args with
 | [.slice (some ⟨i, k, none⟩) l cap] => match A.heap.get i with
  | some (.cells c' _ _ _) => m_same [.slice (some ⟨0, k, none⟩) l cap, .agg ⟨c'⟩] [.slice (some ⟨0, 0, none⟩) m m, .agg ⟨g⟩]
  | _ => false
 | _ => false
noncomputable def eIt (k : Nat) (g : List Value) : Ent := ent
 (fun args A => match args with
  | [.slice (some ⟨i, a, none⟩) l p, .slice (some ⟨j, b, none⟩) l' p'] => match A.heap.get i, A.heap.get j with
   | some (.cells ci _ _ _), some (.cells cj _ _ _) => m_same [.slice (some ⟨0, a, none⟩) l p, .agg ⟨ci⟩, .slice (some ⟨0, b, none⟩) l' p', .agg ⟨cj⟩] [.slice (some ⟨0, 0, none⟩) k k, .agg ⟨g⟩, .slice (some ⟨0, 0, none⟩) k unk, .agg ⟨g⟩]
   | _, _ => false
  | _ => false)
 (fun _ _ => .bool true)
noncomputable abbrev m_sm (l : List Value) : Bool := m_same l l

def XOk (m : Nat) (E : List (Nat × Nat)) (x : XE) : Prop := (x = none ∧ E = []) ∨ x = some (E.length, pcE E)
theorem gX_use {r : Mem} (hm : Tab r) {m : Nat} {E : List (Nat × Nat)} (hL : E.length ≤ 1000000) {x : XE} (hx : XOk m E x) {a b : Value} {l : List Value} (hl : gnds l = true) {A : AW} (hg : gX m x [a, b] A = true) {γ : Gam} {W : World} (hw : WRel γ A W) (hR : Ro r γ W) {args' : Array Value} (ha : VsRel γ (a :: b :: l) args'.toList) :
  ∃ sl, VsRel noG (I (m : Nat) :: sl :: l) args'.toList ∧ ((sl = .slice none 0 0 ∧ E = []) ∨ ∃ b0 off, sl = RS2 b0 off E.length 0 ∧ rowAt (memW W) b0 off (2 * E.length) (zE E)) := by
 unfold gX at hg
 split at hg
 ·rename_i n i k l' cap heq
  simp only [List.cons.injEq, and_true] at heq
  obtain ⟨rfl, rfl⟩ := heq
  split at hg
  ·rename_i len c
   split at hg
   ·rename_i c' e f z hget
    have hs := @of_decide_eq_true _ (Classical.propDecidable _) hg
    simp only [List.cons.injEq, Value.int.injEq, Value.slice.injEq, Option.some.injEq, Addr.mk.injEq, Value.agg.injEq, Array.mk.injEq, and_true, true_and] at hs
    obtain ⟨rfl, ⟨rfl, rfl, rfl⟩, rfl⟩ := hs
    rcases hx with ⟨h, _⟩ | h
    ·cases h
    ·simp only [Option.some.injEq, Prod.mk.injEq] at h
     obtain ⟨rfl, rfl⟩ := h
     obtain ⟨b0, k', p1, p2, p3⟩ := own_mem hw hR hget (okL2_E E hL) rfl hl ha
     exact ⟨_, p1, .inr ⟨b0, k', rfl, rowE p2⟩⟩
   ·cases hg
  ·cases hg
 ·rename_i n heq
  simp only [List.cons.injEq, and_true] at heq
  obtain ⟨rfl, rfl⟩ := heq
  split at hg
  ·have hs := @of_decide_eq_true _ (Classical.propDecidable _) hg
   simp only [List.cons.injEq, Value.int.injEq, and_true, true_and] at hs
   subst hs
   rcases hx with ⟨_, h⟩ | h
   ·refine ⟨.slice none 0 0, ?_, .inl ⟨rfl, h⟩⟩
    have hgn : gnds (I (m : Nat) :: .slice none 0 0 :: l) = true := by
     show (gnd (I (m : Nat)) && (gnd (.slice none 0 0) && gnds l)) = true
     rw [hl]; rfl
    rw [ha.eq_of_gnds hgn]
    exact VsRel.of_gnds noG _ hgn
   ·cases h
  ·cases hg
 ·cases hg

theorem gX_two {m : Nat} {x : XE} {args : List Value} {A : AW} (hg : gX m x args A = true) : ∃ a b, args = [a, b] := by
 unfold gX at hg
 split at hg
 ·exact ⟨_, _, rfl⟩
 ·exact ⟨_, _, rfl⟩
 ·cases hg
abbrev gR (m : Nat) (E : List (Nat × Nat)) : List Value := m_ws (nbN m (zE E) E.length)
theorem wR_lt {m : Nat} (hm16 : m ≤ 16) {E : List (Nat × Nat)} (hE : okAll (m : Int) (zE E) E.length = true) (k : Nat) : wR m E k < 65536 := getD_lt (nbN_lt m (zE E) (n := (m : Int)) (by omega) E.length fun i hi => okAll_at hE i hi) k
theorem gG_use {r : Mem} {m : Nat} (hm16 : m ≤ 16) {ws : List Nat} (hlw : ws.length = m) {a : Value} {l : List Value} (hl : gnds l = true) {A : AW} (hg : gG m (m_ws ws) [a] A = true) {γ : Gam} {W : World} (hw : WRel γ A W) (hR : Ro r γ W) {args' : Array Value} (ha : VsRel γ (a :: l) args'.toList) :
  ∃ b k', VsRel noG (RS b k' m 0 :: l) args'.toList ∧ ∀ k, k < m → memW W b (k' + k) = some (I (ws.getD k 0 : Nat)) := by
 unfold gG at hg
 split at hg
 ·rename_i i k l' cap heq
  simp only [List.cons.injEq, and_true] at heq
  subst heq
  split at hg
  ·rename_i c' e f z hget
   have hs := @of_decide_eq_true _ (Classical.propDecidable _) hg
   simp only [List.cons.injEq, Value.slice.injEq, Option.some.injEq, Addr.mk.injEq, Value.agg.injEq, Array.mk.injEq, and_true, true_and] at hs
   obtain ⟨⟨rfl, rfl, rfl⟩, rfl⟩ := hs
   exact own_ws hw hR hm16 hlw hget hl ha
  ·cases hg
 ·cases hg
theorem gG_one {m : Nat} {g : List Value} {args : List Value} {A : AW} (hg : gG m g args A = true) : ∃ a, args = [a] := by
 unfold gG at hg
 split at hg
 ·exact ⟨_, rfl⟩
 ·cases hg

theorem own_c {r : Mem} {γ : Gam} {A : AW} {W : World} (hw : WRel γ A W) (hR : Ro r γ W) {i len cap : Nat} (hcap : Nat.beq cap unkE = false) {c : List Value} {e f z : Nat} (hget : A.heap.get i = some (.cells c e f z)) {v' : Value} (hv : VRel γ (.slice (some ⟨i, 0, none⟩) len cap) v') :
  ∃ b k', VRel noG (RS b k' len 0) v' ∧ ∀ j u, c[j]? = some u → gnd u = true → memW W b (k' + j) = some u := by
 obtain ⟨b, k', c', rfl, hrd⟩ := rd_world hw hR hv hcap
 refine ⟨b, k', .sliceRo _ _ _ _ _ _ (by decide) (Nat.zero_le _), fun j u hu hg => hrd j u ?_ hg⟩
 simp only [AW.rd, AW.cell, hget]
 rw [Nat.add_eq, Nat.zero_add]
 exact hu

theorem own2 {r : Mem} {γ : Gam} {A : AW} {W : World} (hw : WRel γ A W) (hR : Ro r γ W) {i j n1 c1 n2 c2 : Nat} (h1 : Nat.beq c1 unkE = false) (h2 : Nat.beq c2 unkE = false) {ci cj : List Value} {e f z e' f' z' : Nat} (hi : A.heap.get i = some (.cells ci e f z)) (hj : A.heap.get j = some (.cells cj e' f' z')) {args' : Array Value} (ha : VsRel γ [.slice (some ⟨i, 0, none⟩) n1 c1, .slice (some ⟨j, 0, none⟩) n2 c2] args'.toList) :
  ∃ b k b' k', VsRel noG [RS b k n1 0, RS b' k' n2 0] args'.toList ∧ (∀ x u, ci[x]? = some u → gnd u = true → memW W b (k + x) = some u) ∧ ∀ x u, cj[x]? = some u → gnd u = true → memW W b' (k' + x) = some u := by
 obtain ⟨la⟩ := args'
 cases ha with
 | cons hv hrest =>
 cases hrest with
 | cons hv2 hrest =>
 cases hrest
 obtain ⟨b, k, p1, p2⟩ := own_c hw hR h1 hi hv
 obtain ⟨b', k', q1, q2⟩ := own_c hw hR h2 hj hv2
 exact ⟨b, k, b', k', .cons p1 (.cons q1 .nil), p2, q2⟩
end Go.Proofs

/- hue's Order and Core: run. -/
namespace Go.Proofs
open Go Go.Ev Go.Num
set_option linter.unusedVariables false
set_option linter.unusedSimpArgs false
set_option maxRecDepth 100000

noncomputable def eOd (c : List Value) (m : Nat) (d : List Value) (ls : Int) : Ent := ⟨fun args _ => m_same args [.agg ⟨c⟩], fun _ _ => true, fun _ A => .tuple ⟨[.slice (some ⟨A.next, 0, none⟩) m m, I ls]⟩, fun _ A => A.new (.cells d 3 A.next 1), fun _ _ => undef, fun _ A => A⟩
noncomputable def eCr (c : List Value) (k x : Int) : Ent := ent (fun args _ => m_same args [.agg ⟨c⟩, I k]) (fun _ _ => U x)
noncomputable abbrev eG (n : Int) (w : Nat → Int) (k : Nat) : List Value := hG n w (.slice (some ⟨1, 0, none⟩) (k + 1) unk)
noncomputable abbrev wA1 (n : Int) (w : Nat → Int) : AW := mkA [some (.cells (hG n w (.slice none 0 0)) 59 0 0)]
noncomputable abbrev wA2 (n : Int) (w : Nat → Int) (k : Nat) (c : List Value) : AW := mkA [some (.cells (eG n w k) 59 0 0), some (.cells c 80 1 2)]
noncomputable def tHo1 (n : Int) (b off cap : Nat) (w : Nat → Int) : Tbl := tcons 22 (entAt [I n, RS2 b off 0 cap] emptyA (.tuple ⟨[.agg ⟨hG n w (.slice none 0 0)⟩, I 0]⟩) (wA1 n w)) fun _ => none
noncomputable def tHo2 (n : Int) (b off cap k : Nat) (w : Nat → Int) (c : List Value) : Tbl := tcons 22 (entAt [I n, RS2 b off (k + 1) cap] emptyA (.tuple ⟨[.agg ⟨eG n w k⟩, I 0]⟩) (wA2 n w k c)) fun _ => none
noncomputable def tHoN (n : Int) (w : Nat → Int) : Tbl := tcons 22 (entV [I n, .slice none 0 0] (.tuple ⟨[.agg ⟨hG n w (.slice none 0 0)⟩, I 0]⟩)) fun _ => none
noncomputable def tOd (c : List Value) (m : Nat) (d : List Value) (ls : Int) (t : Tbl) : Tbl := tcons 31 (eOd c m d ls) t
noncomputable def tCr (c : List Value) (k x : Int) (t : Tbl) : Tbl := tcons 34 (eCr c k x) t

theorem hrN (r : Mem) (n : Int) : (lvlT (SC r) (tHc [I n, .slice none 0 0] 0) .nil 1 3).call 22 [I n, .slice none 0 0] emptyA fin =
    bif m_same [I n, .slice none 0 0] [I n, .slice none 0 0] then .ret (.tuple ⟨[.agg ⟨[I n, U (Int.ofNat 0), U (Int.ofNat 0), U (Int.ofNat 0), U (Int.ofNat 0), U (Int.ofNat 0), U (Int.ofNat 0), U (Int.ofNat 0), U (Int.ofNat 0), U (Int.ofNat 0), U (Int.ofNat 0), U (Int.ofNat 0), U (Int.ofNat 0), U (Int.ofNat 0), U (Int.ofNat 0), U (Int.ofNat 0), U (Int.ofNat 0), .slice none 0 0]⟩, I (Int.ofNat 0)]⟩) (AW.mk 0 .nil .nil) else .fail 420 := by kernel_rfl

theorem hpN (r : Mem) (n : Int) : (lvlT (SC r) (fun _ => none) .nil 2 3).call 35 [I n, .slice none 0 0] emptyA fin =
    bif decide (n < 1) then .ret (I (Int.ofNat 1)) (AW.mk 0 .nil .nil) else bif decide (n > 16) then .ret (I (Int.ofNat 1)) (AW.mk 0 .nil .nil) else .ret (I (Int.ofNat 0)) (AW.mk 0 .nil .nil) := by kernel_rfl

theorem od1 (r : Mem) (n : Int) (b off cap : Nat) (w : Nat → Int) (m : Nat) (d : List Value) (ls : Int) (K : Value → AW → CR) : (lvlT (SC r) (tOd (hG n w (.slice none 0 0)) m d ls (tHo1 n b off cap w)) .nil 1 2).call 16 [I n, RS2 b off 0 cap] emptyA K =
    bif m_at [I n, .slice (some ⟨b, off, some 0⟩) 0 cap] [I n, .slice (some ⟨b, off, some 0⟩) 0 cap] (AW.mk 0 .nil .nil) (AW.mk 0 .nil .nil) then bif m_same [.agg ⟨(hG n w (.slice none 0 0))⟩] [.agg ⟨(hG n w (.slice none 0 0))⟩] then K (.tuple ⟨[.slice (some ⟨2, 0, none⟩) m m, I ls, I (Int.ofNat 0)]⟩) (AW.mk 3 (.node (.node .nil (some (.cells (hG n w (.slice none 0 0)) 59 1 0)) .nil) (some (.cells (hG n w (.slice none 0 0)) 59 0 0)) (.node .nil (some (.cells d 3 2 1)) .nil)) .nil) else .fail 420 else .fail 420 := by kernel_rfl

theorem od2 (r : Mem) (n : Int) (b off cap k : Nat) (w : Nat → Int) (c : List Value) (m : Nat) (d : List Value) (ls : Int) (K : Value → AW → CR) : (lvlT (SC r) (tOd (eG n w k) m d ls (tHo2 n b off cap k w c)) .nil 1 2).call 16 [I n, RS2 b off (k + 1) cap] emptyA K =
    bif m_at [I n, .slice (some ⟨b, off, some 0⟩) (k + 1) cap] [I n, .slice (some ⟨b, off, some 0⟩) (k + 1) cap] (AW.mk 0 .nil .nil) (AW.mk 0 .nil .nil) then bif m_same [.agg ⟨(hG n w (.slice (some ⟨1, 0, none⟩) (k + 1) unk))⟩] [.agg ⟨(hG n w (.slice (some ⟨1, 0, none⟩) (k + 1) unk))⟩] then K (.tuple ⟨[.slice (some ⟨3, 0, none⟩) m m, I ls, I (Int.ofNat 0)]⟩) (AW.mk 4 (.node (.node (.node .nil (some (.cells d 3 3 1)) .nil) (some (.cells c 80 1 2)) .nil) (some (.cells (hG n w (.slice (some ⟨1, 0, none⟩) (k + 1) unk)) 59 0 0)) (.node .nil (some (.cells (hG n w (.slice (some ⟨1, 0, none⟩) (k + 1) unk)) 59 2 0)) .nil)) .nil) else .fail 420 else .fail 420 := by kernel_rfl

theorem odN (r : Mem) (n : Int) (w : Nat → Int) (m : Nat) (d : List Value) (ls : Int) (K : Value → AW → CR) : (lvlT (SC r) (tOd (hG n w (.slice none 0 0)) m d ls (tHoN n w)) .nil 1 2).call 16 [I n, .slice none 0 0] emptyA K =
    bif m_same [I n, .slice none 0 0] [I n, .slice none 0 0] then bif m_same [.agg ⟨(hG n w (.slice none 0 0))⟩] [.agg ⟨(hG n w (.slice none 0 0))⟩] then K (.tuple ⟨[.slice (some ⟨1, 0, none⟩) m m, I ls, I (Int.ofNat 0)]⟩) (AW.mk 2 (.node (.node .nil (some (.cells d 3 1 1)) .nil) (some (.cells (hG n w (.slice none 0 0)) 59 0 0)) .nil) .nil) else .fail 420 else .fail 420 := by kernel_rfl

theorem cr1 (r : Mem) (n : Int) (b off cap : Nat) (w : Nat → Int) (k x : Int) : (lvlT (SC r) (tCr (hG n w (.slice none 0 0)) k x (tHo1 n b off cap w)) .nil 1 2).call 19 [I n, RS2 b off 0 cap, I k] emptyA fin =
    bif m_at [I n, .slice (some ⟨b, off, some 0⟩) 0 cap] [I n, .slice (some ⟨b, off, some 0⟩) 0 cap] (AW.mk 0 .nil .nil) (AW.mk 0 .nil .nil) then bif decide (k < 0) then .ret (.tuple ⟨[I (Int.ofNat 0), I (Int.ofNat 1)]⟩) (AW.mk 0 .nil .nil) else bif decide (k > 16) then .ret (.tuple ⟨[I (Int.ofNat 0), I (Int.ofNat 1)]⟩) (AW.mk 0 .nil .nil) else bif m_same [.agg ⟨(hG n w (.slice none 0 0))⟩, I k] [.agg ⟨(hG n w (.slice none 0 0))⟩, I k] then .ret (.tuple ⟨[I (IntKind.wrap .i64 x), I (Int.ofNat 0)]⟩) (AW.mk 0 .nil .nil) else .fail 420 else .fail 420 := by kernel_rfl

theorem cr2 (r : Mem) (n : Int) (b off cap j : Nat) (w : Nat → Int) (c : List Value) (k x : Int) : (lvlT (SC r) (tCr (eG n w j) k x (tHo2 n b off cap j w c)) .nil 1 2).call 19 [I n, RS2 b off (j + 1) cap, I k] emptyA fin =
    bif m_at [I n, .slice (some ⟨b, off, some 0⟩) (j + 1) cap] [I n, .slice (some ⟨b, off, some 0⟩) (j + 1) cap] (AW.mk 0 .nil .nil) (AW.mk 0 .nil .nil) then bif decide (k < 0) then .ret (.tuple ⟨[I (Int.ofNat 0), I (Int.ofNat 1)]⟩) (AW.mk 0 .nil .nil) else bif decide (k > 16) then .ret (.tuple ⟨[I (Int.ofNat 0), I (Int.ofNat 1)]⟩) (AW.mk 0 .nil .nil) else bif m_same [.agg ⟨(hG n w (.slice (some ⟨1, 0, none⟩) (j + 1) unk))⟩, I k] [.agg ⟨(hG n w (.slice (some ⟨1, 0, none⟩) (j + 1) unk))⟩, I k] then .ret (.tuple ⟨[I (IntKind.wrap .i64 x), I (Int.ofNat 0)]⟩) (AW.mk 0 .nil .nil) else .fail 420 else .fail 420 := by kernel_rfl

theorem crN (r : Mem) (n : Int) (w : Nat → Int) (k x : Int) : (lvlT (SC r) (tCr (hG n w (.slice none 0 0)) k x (tHoN n w)) .nil 1 2).call 19 [I n, .slice none 0 0, I k] emptyA fin =
    bif m_same [I n, .slice none 0 0] [I n, .slice none 0 0] then bif decide (k < 0) then .ret (.tuple ⟨[I (Int.ofNat 0), I (Int.ofNat 1)]⟩) (AW.mk 0 .nil .nil) else bif decide (k > 16) then .ret (.tuple ⟨[I (Int.ofNat 0), I (Int.ofNat 1)]⟩) (AW.mk 0 .nil .nil) else bif m_same [.agg ⟨(hG n w (.slice none 0 0))⟩, I k] [.agg ⟨(hG n w (.slice none 0 0))⟩, I k] then .ret (.tuple ⟨[I (IntKind.wrap .i64 x), I (Int.ofNat 0)]⟩) (AW.mk 0 .nil .nil) else .fail 420 else .fail 420 := by kernel_rfl

end Go.Proofs

/- hue's Order and Core: what the calls answer. -/
namespace Go.Proofs
open Go Go.Ev Go.Num
set_option linter.unusedVariables false
set_option linter.unusedSimpArgs false
set_option maxRecDepth 100000

theorem finM_1 {A : AW} {m e x : Nat} {d : List Value} {ls : Int} (hm : m ≠ 0) (hd : gnds d = true) (h : A.heap.get 1 = some (.cells d e x 1)) : finM (.tuple ⟨[.slice (some ⟨1, 0, none⟩) m m, I ls, I 0]⟩) A = .ret (.tuple ⟨[.slice (some ⟨0, 0, none⟩) m m, I ls, I 0]⟩) (rowA d e 1) := by
 have hb : Nat.beq m 0 = false := natFK2 hm
 unfold finM rowOf rowsOf row1
 simp only [hb, Bool.and_false]
 rw [h]
 show guardK (gnds d) _ = _
 rw [hd]
 rfl
theorem finM_2 {A : AW} {m e x : Nat} {d : List Value} {ls : Int} (hm : m ≠ 0) (hd : gnds d = true) (h : A.heap.get 2 = some (.cells d e x 1)) : finM (.tuple ⟨[.slice (some ⟨2, 0, none⟩) m m, I ls, I 0]⟩) A = .ret (.tuple ⟨[.slice (some ⟨0, 0, none⟩) m m, I ls, I 0]⟩) (rowA d e 1) := by
 have hb : Nat.beq m 0 = false := natFK2 hm
 unfold finM rowOf rowsOf row1
 simp only [hb, Bool.and_false]
 rw [h]
 show guardK (gnds d) _ = _
 rw [hd]
 rfl
theorem finM_3 {A : AW} {m e x : Nat} {d : List Value} {ls : Int} (hm : m ≠ 0) (hd : gnds d = true) (h : A.heap.get 3 = some (.cells d e x 1)) : finM (.tuple ⟨[.slice (some ⟨3, 0, none⟩) m m, I ls, I 0]⟩) A = .ret (.tuple ⟨[.slice (some ⟨0, 0, none⟩) m m, I ls, I 0]⟩) (rowA d e 1) := by
 have hb : Nat.beq m 0 = false := natFK2 hm
 unfold finM rowOf rowsOf row1
 simp only [hb, Bool.and_false]
 rw [h]
 show guardK (gnds d) _ = _
 rw [hd]
 rfl

theorem hg_noH {γ : Gam} {e : Value} (he : e = .slice none 0 0 ∨ ∃ i l, e = .slice (some ⟨i, 0, none⟩) (l + 1) unk) : ∀ (zs : List Int) (l' : List Value), VsRel γ (zs.map U ++ [e]) l' → ∃ e', EdV e' ∧ VsRel noG (zs.map U ++ [e']) l'
 | [], l', h => by
  cases h with
  | cons h1 h2 =>
  cases h2
  rcases he with rfl | ⟨i, l, rfl⟩
  ·cases h1
   exact ⟨.slice none 0 0, .inl rfl, .cons .sliceNil .nil⟩
  ·cases h1 with
   | slice k l' c c' hg hc =>
    rename_i g
    exact ⟨.slice (some ⟨g.blk, g.off + 0, some 0⟩) (l + 1) 0, .inr ⟨_, _, _, _, rfl⟩, .cons (.sliceRo _ _ _ _ _ _ (by decide) (Nat.zero_le _)) .nil⟩
 | x :: zs, l', h => by
  cases h with
  | cons h1 h2 =>
  obtain ⟨e', h3, h4⟩ := hg_noH he zs _ h2
  cases h1
  exact ⟨e', h3, .cons (.int _ _) h4⟩
theorem hG_zs (n : Int) (w : Nat → Int) (e : Value) : hG n w e = I n :: ([w 0, w 1, w 2, w 3, w 4, w 5, w 6, w 7, w 8, w 9, w 10, w 11, w 12, w 13, w 14, w 15].map U ++ [e]) := rfl
theorem hG_noG {γ : Gam} {n : Int} {w : Nat → Int} {e : Value} (he : e = .slice none 0 0 ∨ ∃ i l, e = .slice (some ⟨i, 0, none⟩) (l + 1) unk) {v' : Value} (h : VRel γ (.agg ⟨hG n w e⟩) v') : ∃ e', EdV e' ∧ VRel noG (.agg ⟨hG n w e'⟩) v' := by
 cases h with
 | agg h =>
 rename_i c'
 obtain ⟨lc⟩ := c'
 rw [hG_zs] at h
 cases h with
 | cons ha hb =>
 cases ha
 obtain ⟨e', h5, h6⟩ := hg_noH he _ _ hb
 exact ⟨e', h5, .agg (by rw [hG_zs]; exact .cons (.int _ _) h6)⟩

theorem eOd_ok (r : Mem) (hm : Tab r) {m : Nat} (h1 : 1 ≤ m) (hm16 : m ≤ 16) {w : Nat → Nat} (hw : ∀ i, w i < 65536) (h16 : ∀ i, 16 ≤ i → w i = 0) {e : Value} (he : e = .slice none 0 0 ∨ ∃ i l, e = .slice (some ⟨i, 0, none⟩) (l + 1) unk) : EOk (SC r) 31 (eOd (hG (m : Nat) (wG w) e) m (m_ws (orL w m m)) (lsN w m m : Nat)) := fun args A hgd F hF kk γ W args' hwr hR ha => by
 refine ⟨fun _ => ?_, fun h => nomatch h⟩
 have hs := @of_decide_eq_true _ (Classical.propDecidable _) hgd
 subst hs
 obtain ⟨la⟩ := args'
 cases ha with
 | cons hv hrest =>
 have hv0 := hv
 cases hrest
 obtain ⟨e', h5, h6⟩ := hG_noG he hv
 have h := order_ok (memW W) (memW_tab hm hR) h1 hm16 hw h16 h5
 have hgm : GrM Tryd.prog (memW W) 31 [.agg ⟨hG (m : Nat) (wG w) e'⟩] (.tuple ⟨[.slice (some ⟨0, 0, none⟩) m m, I (lsN w m m : Nat)]⟩) (rowA (m_ws (orL w m m)) 3 1) := GrM.ofS (C := SC (memW W)) rfl rfl h
 have hof : ofV 0 (.tuple ⟨[.slice (some ⟨0, 0, none⟩) m m, I (lsN w m m : Nat)]⟩) = true := by simp [ofV, of1, gnd]
 exact hgm.ends (γ := γ) (A := A) hof (ws_gnd _) hF hwr (memW_ro W) (.cons h6 .nil) (.cons hv0 .nil)
theorem eCr_ok (r : Mem) (hm : Tab r) {m : Nat} (h1 : 1 ≤ m) (hm16 : m ≤ 16) {w : Nat → Nat} (hw : ∀ i, w i < 65536) (h16 : ∀ i, 16 ≤ i → w i = 0) {e : Value} (he : e = .slice none 0 0 ∨ ∃ i l, e = .slice (some ⟨i, 0, none⟩) (l + 1) unk) (k : Int) : EOk (SC r) 34 (eCr (hG (m : Nat) (wG w) e) k (corN w k m : Nat)) := EOk.ent fun args A hg => by
 have hs := @of_decide_eq_true _ (Classical.propDecidable _) hg
 subst hs
 refine POk.of rfl fun γ W args' hwr hR ha => ?_
 obtain ⟨la⟩ := args'
 cases ha with
 | cons hv hrest =>
 cases hrest with
 | cons hk hrest =>
 cases hrest
 cases hk
 obtain ⟨e', h5, h6⟩ := hG_noG he hv
 exact ⟨memW W, _, memW_ro W, .cons h6 (.cons (.int _ _) .nil), core_ok (memW W) (memW_tab hm hR) h1 hm16 hw h16 h5 k⟩

theorem m_hG (n : Int) {zs : List Int} (h : zs.length = 16) (e : Value) : m_hg n zs e = hG n (fun i => zs.getD i 0) e := by
 obtain ⟨z0, z1, z2, z3, z4, z5, z6, z7, z8, z9, z10, z11, z12, z13, z14, z15, rfl⟩ := list16 h
 rfl
theorem wS_16 (E : List (Nat × Nat)) (i : Nat) (h : 16 ≤ i) : wS E i = 0 := by
 unfold wS
 rw [List.getD_eq_getElem?_getD, List.getElem?_eq_none (by rw [nbN_len]; exact h)]
 rfl
theorem nbz_wS {m : Nat} (hm16 : m ≤ 16) {E : List (Nat × Nat)} (hE : okAll (m : Int) (zE E) E.length = true) : (fun i => (nbz (zE E) E.length).getD i 0) = wG (wS E) := by
 funext i
 rw [nbz_nat (zE E) (n := (m : Int)) (by omega) E.length fun i hi => okAll_at hE i hi, getD_map]
 rfl
theorem ck_ok {m : Nat} (h1 : 1 ≤ m) (hm16 : m ≤ 16) {E : List (Nat × Nat)} (hE : okAll (m : Int) (zE E) E.length = true) : ckG (m : Int) (zE E) E.length = 0 := by unfold ckG; rw [if_neg (by omega), if_pos hE]
theorem wS_nil (i : Nat) : wS [] i = 0 := by
 unfold wS
 rw [show (nbN 16 (zE []) ([] : List (Nat × Nat)).length) = List.replicate 16 0 from rfl, List.getD_eq_getElem?_getD, List.getElem?_replicate]
 split <;> rfl
theorem hreadN (r : Mem) {m : Nat} (h1 : 1 ≤ m) (hm16 : m ≤ 16) : GrT Tryd.prog r 22 [I (m : Nat), .slice none 0 0] (.tuple ⟨[.agg ⟨hG (m : Nat) (wG (wS [])) (.slice none 0 0)⟩, I 0]⟩) := by
 have hp : GrT Tryd.prog r 35 [I (m : Nat), .slice none 0 0] (I 0) := GrT.of (SC_ok r) TOk.nil .nil rfl ⟨2, 3, by
  rw [hpN, dF (show ¬ ((m : Nat) : Int) < 1 by omega), dF (show ¬ ((m : Nat) : Int) > 16 by omega), cond_false, cond_false]
  rfl⟩
 have hz : ∀ i, wG (wS []) i = 0 := fun i => by unfold wG; rw [wS_nil]; rfl
 refine GrT.of (SC_ok r) (show TOk (SC r) (tHc [I (m : Nat), .slice none 0 0] 0) from TOk.cons TOk.nil (entV_ok hp rfl)) .nil rfl ⟨1, 3, ?_⟩
 rw [hrN, show m_same [I (m : Nat), .slice none 0 0] [I (m : Nat), .slice none 0 0] = true from same_rfl _, cond_true]
 unfold hG
 simp only [hz]
 rfl

abbrev vOrd (w : Nat → Nat) (m i : Nat) : Value := .tuple ⟨[.slice (some ⟨i, 0, none⟩) m m, I (lsN w m m : Nat), I 0]⟩
theorem pordR (r : Mem) (hm : Tab r) {m : Nat} (h1 : 1 ≤ m) (hm16 : m ≤ 16) {E : List (Nat × Nat)} (hE : okAll (m : Int) (zE E) E.length = true) (hL : E.length < 1000000) (b off cap : Nat) (hz : rowAt r b off (2 * E.length) (zE E)) :
  GrM Tryd.prog r 16 [I (m : Nat), RS2 b off E.length cap] (vOrd (wS E) m 0) (rowA (m_ws (orL (wS E) m m)) 3 1) := by
 have hr := hread_ok r hm (m : Nat) b off E.length cap (zE E) hz hL (ck_ok h1 hm16 hE)
 have hw := nbz_wS hm16 hE
 have hlt := wS_lt hm16 hE
 have h16 := wS_16 E
 generalize wS E = w at *
 generalize zE E = z at *
 generalize E.length = len at *
 have sm : ∀ l : List Value, m_same l l = true := same_rfl
 cases len with
 | zero =>
  simp only [vRd, aRd, m_hG _ (nbz_len z 0), hw] at hr
  refine GrM.of (SC_ok r) (show TOk (SC r) (tOd (hG (m : Nat) (wG w) (.slice none 0 0)) m (m_ws (orL w m m)) (lsN w m m : Nat) (tHo1 (m : Nat) b off cap (wG w))) from TOk.cons (TOk.cons TOk.nil (entAt_ok hr.one)) (eOd_ok r hm h1 hm16 hlt h16 (.inl rfl))) .nil ⟨1, 2, ?_⟩
  rw [od1, show m_at _ _ _ _ = true from at_rfl _ _, sm, cond_true, cond_true]
  exact finM_2 (x := 2) (by omega) (ws_gnd _) (by kernel_rfl)
 | succ k =>
  simp only [vRd, aRd, m_hG _ (nbz_len z (k + 1)), hw] at hr
  refine GrM.of (SC_ok r) (show TOk (SC r) (tOd (eG (m : Nat) (wG w) k) m (m_ws (orL w m m)) (lsN w m m : Nat) (tHo2 (m : Nat) b off cap k (wG w) (m_ed z (k + 1)))) from TOk.cons (TOk.cons TOk.nil (entAt_ok hr.one)) (eOd_ok r hm h1 hm16 hlt h16 (.inr ⟨_, _, rfl⟩))) .nil ⟨1, 2, ?_⟩
  rw [od2, show m_at _ _ _ _ = true from at_rfl _ _, sm, cond_true, cond_true]
  exact finM_3 (x := 3) (by omega) (ws_gnd _) (by kernel_rfl)
theorem pordN (r : Mem) (hm : Tab r) {m : Nat} (h1 : 1 ≤ m) (hm16 : m ≤ 16) :
  GrM Tryd.prog r 16 [I (m : Nat), .slice none 0 0] (vOrd (wS []) m 0) (rowA (m_ws (orL (wS []) m m)) 3 1) := by
 have sm : ∀ l : List Value, m_same l l = true := same_rfl
 have hlt : ∀ i, wS [] i < 65536 := fun i => by rw [wS_nil]; decide
 refine GrM.of (SC_ok r) (show TOk (SC r) (tOd (hG (m : Nat) (wG (wS [])) (.slice none 0 0)) m (m_ws (orL (wS []) m m)) (lsN (wS []) m m : Nat) (tHoN (m : Nat) (wG (wS [])))) from TOk.cons (TOk.cons TOk.nil (entV_ok (hreadN r h1 hm16) rfl)) (eOd_ok r hm h1 hm16 hlt (wS_16 []) (.inl rfl))) .nil ⟨1, 2, ?_⟩
 rw [odN, sm, sm, cond_true, cond_true]
 exact finM_1 (x := 1) (by omega) (ws_gnd _) (by kernel_rfl)

def crV (w : Nat → Nat) (m : Nat) (k : Int) : Int := bif decide (k < 0) then 0 else bif decide (k > 16) then 0 else (corN w k m : Nat)
def crE (k : Int) : Int := bif decide (k < 0) then 1 else bif decide (k > 16) then 1 else 0
theorem crN_wr {w : Nat → Nat} {m : Nat} (hm16 : m ≤ 16) (k : Int) : IntKind.wrap .i64 ((corN w k m : Nat) : Int) = ((corN w k m : Nat) : Int) := by
 have hA : 2 ^ m ≤ 65536 := Nat.pow_le_pow_right (n := 2) (by decide) hm16
 have := cor_lt w k m
 exact wrI (by omega)
theorem cr_fin {w : Nat → Nat} {m : Nat} (k : Int) {x : CR} (h : x = bif decide (k < 0) then .ret (.tuple ⟨[I 0, I 1]⟩) emptyA else bif decide (k > 16) then .ret (.tuple ⟨[I 0, I 1]⟩) emptyA else .ret (.tuple ⟨[I (corN w k m : Nat), I 0]⟩) emptyA) : x = .ret (.tuple ⟨[I (crV w m k), I (crE k)]⟩) emptyA := by
 rw [h]
 unfold crV crE
 by_cases c : k < 0
 ·rw [dT c]; rfl
 ·rw [dF c]
  by_cases d : k > 16
  ·rw [dT d]; rfl
  ·rw [dF d]; rfl
theorem pcorR (r : Mem) (hm : Tab r) {m : Nat} (h1 : 1 ≤ m) (hm16 : m ≤ 16) {E : List (Nat × Nat)} (hE : okAll (m : Int) (zE E) E.length = true) (hL : E.length < 1000000) (b off cap : Nat) (hz : rowAt r b off (2 * E.length) (zE E)) (j : Int) :
  GrT Tryd.prog r 19 [I (m : Nat), RS2 b off E.length cap, I j] (.tuple ⟨[I (crV (wS E) m j), I (crE j)]⟩) := by
 have hr := hread_ok r hm (m : Nat) b off E.length cap (zE E) hz hL (ck_ok h1 hm16 hE)
 have hw := nbz_wS hm16 hE
 have hlt := wS_lt hm16 hE
 have h16 := wS_16 E
 generalize wS E = w at *
 generalize zE E = z at *
 generalize E.length = len at *
 have sm : ∀ l : List Value, m_same l l = true := same_rfl
 cases len with
 | zero =>
  simp only [vRd, aRd, m_hG _ (nbz_len z 0), hw] at hr
  refine GrT.of (SC_ok r) (show TOk (SC r) (tCr (hG (m : Nat) (wG w) (.slice none 0 0)) j (corN w j m : Nat) (tHo1 (m : Nat) b off cap (wG w))) from TOk.cons (TOk.cons TOk.nil (entAt_ok hr.one)) (eCr_ok r hm h1 hm16 hlt h16 (.inl rfl) j)) .nil rfl ⟨1, 2, ?_⟩
  rw [cr1, show m_at _ _ _ _ = true from at_rfl _ _, sm, cond_true, cond_true, crN_wr hm16]
  exact cr_fin j rfl
 | succ k =>
  simp only [vRd, aRd, m_hG _ (nbz_len z (k + 1)), hw] at hr
  refine GrT.of (SC_ok r) (show TOk (SC r) (tCr (eG (m : Nat) (wG w) k) j (corN w j m : Nat) (tHo2 (m : Nat) b off cap k (wG w) (m_ed z (k + 1)))) from TOk.cons (TOk.cons TOk.nil (entAt_ok hr.one)) (eCr_ok r hm h1 hm16 hlt h16 (.inr ⟨_, _, rfl⟩) j)) .nil rfl ⟨1, 2, ?_⟩
  rw [cr2, show m_at _ _ _ _ = true from at_rfl _ _, sm, cond_true, cond_true, crN_wr hm16]
  exact cr_fin j rfl
theorem pcorN (r : Mem) (hm : Tab r) {m : Nat} (h1 : 1 ≤ m) (hm16 : m ≤ 16) (j : Int) :
  GrT Tryd.prog r 19 [I (m : Nat), .slice none 0 0, I j] (.tuple ⟨[I (crV (wS []) m j), I (crE j)]⟩) := by
 have sm : ∀ l : List Value, m_same l l = true := same_rfl
 have hlt : ∀ i, wS [] i < 65536 := fun i => by rw [wS_nil]; decide
 refine GrT.of (SC_ok r) (show TOk (SC r) (tCr (hG (m : Nat) (wG (wS [])) (.slice none 0 0)) j (corN (wS []) j m : Nat) (tHoN (m : Nat) (wG (wS [])))) from TOk.cons (TOk.cons TOk.nil (entV_ok (hreadN r h1 hm16) rfl)) (eCr_ok r hm h1 hm16 hlt (wS_16 []) (.inl rfl) j)) .nil rfl ⟨1, 2, ?_⟩
 rw [crN, sm, sm, cond_true, cond_true, crN_wr hm16]
 exact cr_fin j rfl

end Go.Proofs

/- Rows of numbers compared. -/
namespace Go.Num
open Go.Proofs

def eqR (z z' : Nat → Int) : Nat → Bool
 | 0 => true
 | k + 1 => eqR z z' k && (z k == z' k)
theorem eqR_iff (z z' : Nat → Int) : ∀ k, eqR z z' k = true ↔ ∀ i, i < k → z i = z' i
 | 0 => by simp [eqR]
 | k + 1 => by
  rw [eqR, Bool.and_eq_true, eqR_iff z z' k, beq_iff_eq]
  constructor
  ·rintro ⟨h1, h2⟩ i hi
   by_cases c : i = k
   ·subst c; exact h2
   ·exact h1 i (by omega)
  ·exact fun h => ⟨fun i hi => h i (by omega), h k (by omega)⟩

end Go.Num
namespace Go.Proofs
open Go Go.Ev Go.Num
set_option linter.unusedVariables false
set_option linter.unusedSimpArgs false
set_option maxRecDepth 100000

def lvPq : List Nat := [0, 1, 5]
noncomputable def cIq : Code := bodyOf S0 18
noncomputable def Iq_0 : Code := (lc cIq)
noncomputable def Iq_1 : Code := (lc (rc cIq))
noncomputable def Iq_2 : Code := (lc (lc (rc (rc cIq))))
noncomputable def Iq_3 : Code := (ic (ic (rc (lc (rc (rc cIq))))))
noncomputable def Iq_4 : Code := (rc (rc (rc cIq)))
theorem Iq_eq : cIq = (.seq Iq_0 (.seq Iq_1 (.seq (.seq Iq_2 (.block 0 (.loop Iq_3))) Iq_4))) := by kernel_rfl

theorem inqA (r : Mem) (b off len cap b' off' len' cap' : Nat) (fs : FnsC) (K KR : OV → List Nat → OO → CR) (kx : Nat → KS) : run (SC r) 51 26 1 (.seq Iq_0 (.seq Iq_1 Iq_2)) fs none (rbK 0 lvPq [] K) kx (rbK 0 [4] [] KR) (sc0 51 [RS b off len cap, RS b' off' len' cap']) (tr0 51 [RS b off len cap, RS b' off' len' cap']) [] emptyA =
    bif Int.ofNat len != Int.ofNat len' then KR [some (.bool false)] [] [] else K [some (.slice (some ⟨b, off, some 0⟩) len cap), some (.slice (some ⟨b', off', some 0⟩) len' cap'), some (I (Int.ofNat 0))] [] [] := by kernel_rfl

theorem inqB (r : Mem) (b off len cap b' off' len' cap' : Nat) (i : Int) (fs : FnsC) (K KR : OV → List Nat → OO → CR) (KX : Nat → OV → List Nat → OO → CR) : run (SC r) 51 26 1 Iq_3 fs none (rbK 0 lvPq [] K) (fun i => rbK 0 [] [] (KX i)) (rbK 0 [4] [] KR) [] (bT lvPq [some (RS b off len cap), some (RS b' off' len' cap'), some (I i)] .nil) [] (mkA []) =
    bif decide (i < Int.ofNat len) then bif decide (0 ≤ i) then bif Nat.blt (Int.toNat i) len then Option.casesOn (r b (Nat.add off (Nat.mul (Int.toNat i) 1))) (.fail 423) fun val => bif isI IntKind.i64 val then bif decide (0 ≤ i) then bif Nat.blt (Int.toNat i) len' then Option.casesOn (r b' (Nat.add off' (Nat.mul (Int.toNat i) 1))) (.fail 423) fun val_1 => bif isI IntKind.i64 val_1 then bif ofI val != ofI val_1 then KR [some (.bool false)] [] [] else K [some (.slice (some ⟨b, off, some 0⟩) len cap), some (.slice (some ⟨b', off', some 0⟩) len' cap'), some (I (IntKind.wrap .i64 (i + Int.ofNat 1)))] [] [] else .fail 420 else .fail 420 else .fail 420 else .fail 420 else .fail 420 else .fail 420 else KX 0 [] [] [] := by kernel_rfl

theorem inqC (r : Mem) (fs : FnsC) (K KR : OV → List Nat → OO → CR) (kx : Nat → KS) : run (SC r) 51 26 1 Iq_4 fs none (rbK 0 [4] [] K) kx (rbK 0 [4] [] KR) [] (bT [] [] .nil) [] (mkA []) =
    KR [some (.bool true)] [] [] := by kernel_rfl

theorem iInc {a : Nat} (h : a < 1000000) : IntKind.wrap IntKind.i64 (((a : Nat) : Int) + Int.ofNat 1) = ((a + 1 : Nat) : Int) := by rw [wrI (by simp; omega)]; simp
theorem ints_ok (r : Mem) (b off len cap b' off' len' cap' : Nat) (hl : len < 1000000) (z z' : Nat → Int) (hz : ∀ k, k < len → r b (off + k) = some (I (z k))) (hz' : ∀ k, k < len' → r b' (off' + k) = some (I (z' k))) :
  GrT Tryd.prog r 18 [RS b off len cap, RS b' off' len' cap'] (.bool ((len == len') && eqR z z' len)) := by
 refine GrT.ofS (C := SC r) rfl rfl rfl (callL (SC_ok r) (by kernel_rfl) ((bodySC r _).trans Iq_eq) (nt := 26) (by kernel_rfl) (rs := [.tmp 4]) (by kernel_rfl) 51 rfl (.step (.step .base)) TOk.nil (tm := .nil) (L := 1) (d := 1) lvPq []
  (fun j vs ms os => len = len' ∧ ∃ k, k ≤ len ∧ j = len - k ∧ eqR z z' k = true ∧ vs = [some (RS b off len cap), some (RS b' off' len' cap'), some (I (k : Nat))] ∧ ms = [] ∧ os = [])
  ⟨[], [], fun vs ms os => len = len' ∧ eqR z z' len = true ∧ vs = [] ∧ ms = [] ∧ os = []⟩
  ⟨[4], [], fun vs ms os => vs = [some (.bool ((len == len') && eqR z z' len))] ∧ ms = [] ∧ os = []⟩ ?_ ?_ ?_ ?_)
 ·have hn := inqA r b off len cap b' off' len' cap'
  by_cases c : len = len'
  ·subst c
   simp only [show (Int.ofNat len != Int.ofNat len) = false by simp, cond_false] at hn
   exact (hn _ _ _ _).trans (qq_ok ⟨len, rfl, 0, Nat.zero_le _, rfl, rfl, rfl, rfl, rfl⟩)
  ·simp only [show (Int.ofNat len != Int.ofNat len') = true by simp; exact fun h => c (Int.ofNat_inj.1 h), cond_true] at hn
   exact (hn _ _ _ _).trans (qq_ok ⟨by rw [show (len == len') = false by simp [c]]; rfl, rfl, rfl⟩)
 ·rintro j vs ms os ⟨rfl, k, hk, rfl, hq, rfl, rfl, rfl⟩
  refine ⟨_, TOk.nil, .nil, 1, 1, 1, ?_⟩
  have hn := inqB r b off len cap b' off' len cap' k
  by_cases c : k < len
  ·have e1 : r b (Nat.add off (Nat.mul k 1)) = some (I (z k)) := by rw [Nat.mul_eq, Nat.mul_one]; exact hz k c
   have e2 : r b' (Nat.add off' (Nat.mul k 1)) = some (I (z' k)) := by rw [Nat.mul_eq, Nat.mul_one]; exact hz' k c
   simp only [dT (show (k : Int) < Int.ofNat len by simp; omega), dT (show 0 ≤ (k : Int) by omega), show Nat.blt k len = true from Nat.ble_eq_true_of_le c, Int.toNat_natCast, e1, e2, show ∀ x, isI IntKind.i64 (I x) = true from fun _ => rfl, show ∀ x, ofI (I x) = x from fun _ => rfl, iInc (show k < 1000000 by omega), cond_true] at hn
   by_cases d : z k = z' k
   ·simp only [d, show (z' k != z' k) = false by simp, cond_false] at hn
    exact (hn _ _ _ _).trans (qq_ok ⟨len - (k + 1), by omega, rfl, k + 1, c, rfl, by rw [eqR, hq, d]; simp, rfl, rfl, rfl⟩)
   ·simp only [show (z k != z' k) = true by simp [d], cond_true] at hn
    have hf : eqR z z' len = false := by
     cases h : eqR z z' len with
     | false => rfl
     | true => exact absurd ((eqR_iff z z' len).1 h k c) d
    exact (hn _ _ _ _).trans (qq_ok ⟨by rw [hf, Bool.and_false], rfl, rfl⟩)
  ·obtain rfl : k = len := by omega
   simp only [dF (show ¬ (k : Int) < Int.ofNat k by simp), cond_false] at hn
   exact (hn _ _ _ _).trans (qq_ok ⟨rfl, hq, rfl, rfl, rfl⟩)
 ·rintro vs ms os ⟨h1, h2, rfl, rfl, rfl⟩
  exact ⟨_, TOk.nil, .nil, 1, 1, 1, (inqC r _ _ _ _).trans (qq_ok ⟨by rw [h2, h1]; simp, rfl, rfl⟩)⟩
 ·rintro vs ms os ⟨rfl, rfl, rfl⟩
  exact ⟨_, mkA [], by kernel_rfl, rfl⟩

theorem eqR_self (z : Nat → Int) (k : Nat) : eqR z z k = true := (eqR_iff z z k).2 fun _ _ => rfl
theorem eIt_ok (r : Mem) {ws : List Nat} (hl : ws.length < 1000000) : EOk (SC r) 18 (eIt ws.length (m_ws ws)) := EOk.ent fun args A hg => by
 split at hg
 ·rename_i i a l p j b l' p'
  split at hg
  ·rename_i ci e f z cj e' f' z' hi hj
   have hs := @of_decide_eq_true _ (Classical.propDecidable _) hg
   simp only [List.cons.injEq, Value.slice.injEq, Option.some.injEq, Addr.mk.injEq, Value.agg.injEq, Array.mk.injEq, and_true, true_and] at hs
   obtain ⟨⟨rfl, rfl, rfl⟩, rfl, ⟨rfl, rfl, rfl⟩, rfl⟩ := hs
   refine POk.of rfl fun γ W args' hw hR ha => ?_
   obtain ⟨b1, k1, b2, k2, p1, p2, p3⟩ := own2 hw hR (natFK2 (by unfold unkE; omega)) rfl hi hj ha
   have gk : ∀ k, k < ws.length → (m_ws ws)[k]? = some (I (ws.getD k 0 : Nat)) := fun k hk => by
    unfold m_ws
    rw [List.getElem?_map, List.getElem?_eq_getElem hk, List.getD_eq_getElem?_getD, List.getElem?_eq_getElem hk]
    rfl
   have := ints_ok (memW W) b1 k1 ws.length 0 b2 k2 ws.length 0 hl (fun k => ((ws.getD k 0 : Nat) : Int)) (fun k => ((ws.getD k 0 : Nat) : Int)) (fun k hk => p2 k _ (gk k hk) rfl) (fun k hk => p3 k _ (gk k hk) rfl)
   rw [eqR_self, show (ws.length == ws.length) = true by simp] at this
   exact ⟨memW W, _, memW_ro W, p1, this⟩
  ·cases hg
 ·cases hg

end Go.Proofs

/- The reference's order and core, run. -/
namespace Go.Proofs
open Go Go.Ev Go.Num
set_option linter.unusedVariables false
set_option linter.unusedSimpArgs false
set_option maxRecDepth 100000

def tSzE : Tbl := tcons 33 (eI1 m_popG fun x => I (m_pop x)) fun _ => none
noncomputable def tAlE (b off len cap : Nat) (a : Int) : Tbl := tcons 32 (entV [RS b off len cap] (I a)) fun _ => none
noncomputable def cRO : Code := bodyOf S0 17
noncomputable def RO_0 : Code := (lc cRO)
noncomputable def RO_1 : Code := (lc (rc cRO))
noncomputable def RO_2 : Code := (lc (rc (rc cRO)))
noncomputable def RO_3 : Code := (lc (rc (rc (rc cRO))))
noncomputable def RO_4 : Code := (lc (ic (ic (lc (rc (rc (rc (rc cRO))))))))
noncomputable def RO_5 : Code := (lc (ic (rc (ic (ic (lc (rc (rc (rc (rc cRO))))))))))
noncomputable def RO_6 : Code := (lc (lc (rc (ic (rc (ic (ic (lc (rc (rc (rc (rc cRO))))))))))))
noncomputable def RO_7 : Code := (ic (ic (rc (lc (rc (ic (rc (ic (ic (lc (rc (rc (rc (rc cRO))))))))))))))
noncomputable def RO_8 : Code := (rc (rc (ic (rc (ic (ic (lc (rc (rc (rc (rc cRO)))))))))))
noncomputable def RO_9 : Code := (rc (rc (rc (rc (rc cRO)))))
theorem RO_eq : cRO = (.seq RO_0 (.seq RO_1 (.seq RO_2 (.seq RO_3 (.seq (.block 0 (.loop (.seq RO_4 (.block 1 (.seq RO_5 (.seq (.seq RO_6 (.block 2 (.loop RO_7))) RO_8)))))) RO_9))))) := by kernel_rfl
def lvRO : List Nat := [0, 4, 5, 6]
def vRO (b off len cap : Nat) (left : Int) (out : Value) (most : Int) : OV := [some (RS b off len cap), some (I left), some out, some (I most)]
def lvRP : List Nat := [0, 4, 5, 6, 7, 8, 9]
def vRP (b off len cap : Nat) (left : Int) (out : Value) (most best few i : Int) : OV := vRO b off len cap left out most ++ [some (I best), some (I few), some (I i)]
abbrev rowR (i k : Nat) : Value := .slice (some ⟨i, 0, none⟩) k unk
def oRR (c : List Value) (i : Nat) : Option AObj := some (.cells c 3 i 1)
noncomputable def cRC : Code := bodyOf S0 20
noncomputable def RC_0 : Code := (lc cRC)
noncomputable def RC_1 : Code := (lc (rc cRC))
noncomputable def RC_2 : Code := (lc (lc (rc (rc cRC))))
noncomputable def RC_3 : Code := (lc (ic (ic (rc (lc (rc (rc cRC)))))))
noncomputable def RC_4 : Code := (lc (ic (rc (ic (ic (rc (lc (rc (rc cRC)))))))))
noncomputable def RC_5 : Code := (lc (rc (ic (rc (ic (ic (rc (lc (rc (rc cRC))))))))))
noncomputable def RC_6 : Code := (ic (ic (rc (rc (ic (rc (ic (ic (rc (lc (rc (rc cRC))))))))))))
noncomputable def RC_7 : Code := (rc (rc (rc cRC)))
theorem RC_eq : cRC = (.seq RC_0 (.seq RC_1 (.seq (.seq RC_2 (.block 0 (.loop (.seq RC_3 (.block 1 (.seq RC_4 (.seq RC_5 (.block 2 (.loop RC_6))))))))) RC_7))) := by kernel_rfl
def lvRC : List Nat := [0, 1, 5, 6]
def vRC (b off len cap : Nat) (k left : Int) (again : Bool) : OV := [some (RS b off len cap), some (I k), some (I left), some (.bool again)]
def lvRD : List Nat := [0, 1, 5, 6, 7]
def vRD (b off len cap : Nat) (k left : Int) (again : Bool) (i : Int) : OV := vRC b off len cap k left again ++ [some (I i)]

theorem ralA (r : Mem) (b off len cap : Nat) : (lvlT (SC r) (fun _ => none) .nil 1 1).call 32 [RS b off len cap] emptyA fin =
    .ret (I (IntKind.wrap .i64 (IntKind.wrap .i64 (Int.ofNat 1 * Int.ofNat 2 ^ min (Int.toNat (Int.ofNat len)) 64) - Int.ofNat 1))) (AW.mk 0 .nil .nil) := by kernel_rfl

theorem roA (r : Mem) (b off len cap : Nat) (a : Int) (K : OV → List Nat → OO → CR) (kx : Nat → KS) (kr : KS) : run (SC r) 4093 57 1 (.seq RO_0 (.seq RO_1 (.seq RO_2 RO_3))) (lvlT (SC r) (tAlE b off len cap a) .nil 1 2) none (rbK 0 lvRO [] K) kx kr (sc0 4093 [RS b off len cap]) (tr0 4093 [RS b off len cap]) [] emptyA =
    bif m_same [.slice (some ⟨b, off, some 0⟩) len cap] [.slice (some ⟨b, off, some 0⟩) len cap] then K [some (.slice (some ⟨b, off, some 0⟩) len cap), some (I a), some (.slice none 0 0), some (I (Int.ofNat 0))] [] [] else .fail 420 := by kernel_rfl

theorem roB1 (r : Mem) (b off len cap : Nat) (left most : Int) (fs : FnsC) (K : OV → List Nat → OO → CR) (KX : Nat → OV → List Nat → OO → CR) (kr : KS) : run (SC r) 4093 57 1 RO_4 fs none (rbK 0 lvRO [] K) (fun i => rbK 0 [5, 6] [] (KX i)) kr [] (bT lvRO (vRO b off len cap left (.slice none 0 0) most) .nil) [] (mkA []) =
    bif left != Int.ofNat 0 then K [some (.slice (some ⟨b, off, some 0⟩) len cap), some (I left), some (.slice none 0 0), some (I most)] [] [] else KX 0 [some (.slice none 0 0), some (I most)] [] [] := by kernel_rfl

theorem roB2 (r : Mem) (b off len cap : Nat) (left most : Int) (k : Nat) (c : List Value) (fs : FnsC) (K : OV → List Nat → OO → CR) (KX : Nat → OV → List Nat → OO → CR) (kr : KS) : run (SC r) 4093 57 1 RO_4 fs none (rbK 0 lvRO [] K) (fun i => rbK 0 [5, 6] [] (KX i)) kr [] (bT lvRO (vRO b off len cap left (rowR 0 k) most) .nil) [] (mkA [oRR c 0]) =
    bif left != Int.ofNat 0 then bif m_nns c && true then K [some (.slice (some ⟨b, off, some 0⟩) len cap), some (I left), some (.slice (some ⟨0, 0, none⟩) k unk), some (I most)] [] [some (.cells c 3 0 1)] else .fail 420 else bif m_nns c && true then KX 0 [some (.slice (some ⟨0, 0, none⟩) k unk), some (I most)] [] [some (.cells c 3 0 1)] else .fail 420 := by kernel_rfl

theorem roC1 (r : Mem) (b off len cap : Nat) (left most : Int) (fs : FnsC) (K : OV → List Nat → OO → CR) (kx : Nat → KS) (kr : KS) : run (SC r) 4093 57 1 (.seq RO_5 RO_6) fs none (rbK 0 lvRP [] K) kx kr [] (bT lvRO (vRO b off len cap left (.slice none 0 0) most) .nil) [] (mkA []) =
    K [some (.slice (some ⟨b, off, some 0⟩) len cap), some (I left), some (.slice none 0 0), some (I most), some (I (Int.negSucc 0)), some (I (Int.ofNat 100)), some (I (Int.ofNat 0))] [] [] := by kernel_rfl

theorem roC2 (r : Mem) (b off len cap : Nat) (left most : Int) (k : Nat) (c : List Value) (fs : FnsC) (K : OV → List Nat → OO → CR) (kx : Nat → KS) (kr : KS) : run (SC r) 4093 57 1 (.seq RO_5 RO_6) fs none (rbK 0 lvRP [] K) kx kr [] (bT lvRO (vRO b off len cap left (rowR 0 k) most) .nil) [] (mkA [oRR c 0]) =
    bif m_nns c && true then K [some (.slice (some ⟨b, off, some 0⟩) len cap), some (I left), some (.slice (some ⟨0, 0, none⟩) k unk), some (I most), some (I (Int.negSucc 0)), some (I (Int.ofNat 100)), some (I (Int.ofNat 0))] [] [some (.cells c 3 0 1)] else .fail 420 := by kernel_rfl

theorem roD1 (r : Mem) (b off len cap : Nat) (left most best few i : Int) (K : OV → List Nat → OO → CR) (KX : Nat → OV → List Nat → OO → CR) (kr : KS) : run (SC r) 4093 57 1 RO_7 (lvlT (SC r) tSzE .nil 1 1) none (rbK 0 lvRP [] K) (fun i => rbK 0 lvRP [] (KX i)) kr [] (bT lvRP (vRP b off len cap left (.slice none 0 0) most best few i) .nil) [] (mkA []) =
    bif decide (i < Int.ofNat len) then bif decide (0 ≤ i) then bif Nat.blt (Int.toNat i) len then Option.casesOn (r b (Nat.add off (Nat.mul (Int.toNat i) 1))) (.fail 423) fun val => bif isI IntKind.i64 val then bif m_popG (ibits BinOp.and IntKind.i64 (ofI val) left) then bif !decide (i < 0) then bif Int.tmod (Int.fdiv left (Int.ofNat 2 ^ min (Int.toNat i) 64)) (Int.ofNat 2) == Int.ofNat 1 then bif decide (m_pop (ibits BinOp.and IntKind.i64 (ofI val) left) ≤ few) then K [some (.slice (some ⟨b, off, some 0⟩) len cap), some (I left), some (.slice none 0 0), some (I most), some (I i), some (I (m_pop (ibits BinOp.and IntKind.i64 (ofI val) left))), some (I (IntKind.wrap .i64 (i + Int.ofNat 1)))] [] [] else K [some (.slice (some ⟨b, off, some 0⟩) len cap), some (I left), some (.slice none 0 0), some (I most), some (I best), some (I few), some (I (IntKind.wrap .i64 (i + Int.ofNat 1)))] [] [] else K [some (.slice (some ⟨b, off, some 0⟩) len cap), some (I left), some (.slice none 0 0), some (I most), some (I best), some (I few), some (I (IntKind.wrap .i64 (i + Int.ofNat 1)))] [] [] else .fail 420 else .fail 420 else .fail 420 else .fail 420 else .fail 420 else KX 2 [some (.slice (some ⟨b, off, some 0⟩) len cap), some (I left), some (.slice none 0 0), some (I most), some (I best), some (I few), some (I i)] [] [] := by kernel_rfl

theorem roD2 (r : Mem) (b off len cap : Nat) (left most best few i : Int) (k : Nat) (c : List Value) (K : OV → List Nat → OO → CR) (KX : Nat → OV → List Nat → OO → CR) (kr : KS) : run (SC r) 4093 57 1 RO_7 (lvlT (SC r) tSzE .nil 1 1) none (rbK 0 lvRP [] K) (fun i => rbK 0 lvRP [] (KX i)) kr [] (bT lvRP (vRP b off len cap left (rowR 0 k) most best few i) .nil) [] (mkA [oRR c 0]) =
    bif decide (i < Int.ofNat len) then bif decide (0 ≤ i) then bif Nat.blt (Int.toNat i) len then Option.casesOn (r b (Nat.add off (Nat.mul (Int.toNat i) 1))) (.fail 423) fun val => bif isI IntKind.i64 val then bif m_popG (ibits BinOp.and IntKind.i64 (ofI val) left) then bif !decide (i < 0) then bif Int.tmod (Int.fdiv left (Int.ofNat 2 ^ min (Int.toNat i) 64)) (Int.ofNat 2) == Int.ofNat 1 then bif decide (m_pop (ibits BinOp.and IntKind.i64 (ofI val) left) ≤ few) then bif m_nns c && true then K [some (.slice (some ⟨b, off, some 0⟩) len cap), some (I left), some (.slice (some ⟨0, 0, none⟩) k unk), some (I most), some (I i), some (I (m_pop (ibits BinOp.and IntKind.i64 (ofI val) left))), some (I (IntKind.wrap .i64 (i + Int.ofNat 1)))] [] [some (.cells c 3 0 1)] else .fail 420 else bif m_nns c && true then K [some (.slice (some ⟨b, off, some 0⟩) len cap), some (I left), some (.slice (some ⟨0, 0, none⟩) k unk), some (I most), some (I best), some (I few), some (I (IntKind.wrap .i64 (i + Int.ofNat 1)))] [] [some (.cells c 3 0 1)] else .fail 420 else bif m_nns c && true then K [some (.slice (some ⟨b, off, some 0⟩) len cap), some (I left), some (.slice (some ⟨0, 0, none⟩) k unk), some (I most), some (I best), some (I few), some (I (IntKind.wrap .i64 (i + Int.ofNat 1)))] [] [some (.cells c 3 0 1)] else .fail 420 else .fail 420 else .fail 420 else .fail 420 else .fail 420 else .fail 420 else bif m_nns c && true then KX 2 [some (.slice (some ⟨b, off, some 0⟩) len cap), some (I left), some (.slice (some ⟨0, 0, none⟩) k unk), some (I most), some (I best), some (I few), some (I i)] [] [some (.cells c 3 0 1)] else .fail 420 := by kernel_rfl

theorem roE1 (r : Mem) (b off len cap : Nat) (left most best few i : Int) (fs : FnsC) (K : OV → List Nat → OO → CR) (kx : Nat → KS) (kr : KS) : run (SC r) 4093 57 1 RO_8 fs none (rbK 0 lvRO [] K) kx kr [] (bT lvRP (vRP b off len cap left (.slice none 0 0) most best few i) .nil) [] (mkA []) =
    bif !decide (best < 0) then K [some (.slice (some ⟨b, off, some 0⟩) len cap), some (I (ibits BinOp.andNot IntKind.i64 left (IntKind.wrap .i64 (Int.ofNat 1 * Int.ofNat 2 ^ min (Int.toNat best) 64)))), some (.slice (some ⟨0, 0, none⟩) 1 unk), some (I (bif decide (few > most) then few else most))] [] [some (.cells [I best] 3 0 1)] else .fail 420 := by kernel_rfl

theorem roE2 (r : Mem) (b off len cap : Nat) (left most best few i : Int) (k : Nat) (c : List Value) (fs : FnsC) (K : OV → List Nat → OO → CR) (kx : Nat → KS) (kr : KS) : run (SC r) 4093 57 1 RO_8 fs none (rbK 0 lvRO [] K) kx kr [] (bT lvRP (vRP b off len cap left (rowR 0 k) most best few i) .nil) [] (mkA [oRR c 0]) =
    bif Nat.ble (Nat.add 1 k) 1000000 then Option.casesOn (takeAt c 0 (Nat.mul k 1)) (.fail 443) fun val => bif Nat.beq (List.length val) (Nat.mul k 1) then bif Nat.beq k 0 then bif !decide (best < 0) then K [some (.slice (some ⟨b, off, some 0⟩) len cap), some (I (ibits BinOp.andNot IntKind.i64 left (IntKind.wrap .i64 (Int.ofNat 1 * Int.ofNat 2 ^ min (Int.toNat best) 64)))), some (.slice (some ⟨0, 0, none⟩) 1 unk), some (I (bif decide (few > most) then few else most))] [] [some (.cells [I best] 3 0 1)] else .fail 420 else bif ones val then bif !decide (best < 0) then bif m_nns (I best :: val) && true then K [some (.slice (some ⟨b, off, some 0⟩) len cap), some (I (ibits BinOp.andNot IntKind.i64 left (IntKind.wrap .i64 (Int.ofNat 1 * Int.ofNat 2 ^ min (Int.toNat best) 64)))), some (.slice (some ⟨0, 0, none⟩) (Nat.add 1 k) unk), some (I (bif decide (few > most) then few else most))] [] [some (.cells (I best :: val) 3 0 1)] else .fail 420 else .fail 420 else .fail 420 else .fail 420 else .fail 420 := by kernel_rfl

theorem roF (r : Mem) (k : Nat) (c : List Value) (most : Int) (fs : FnsC) (K KR : OV → List Nat → OO → CR) (kx : Nat → KS) : run (SC r) 4093 57 1 RO_9 fs none (rbK 0 [2, 3] [] K) kx (rbK 0 [2, 3] [] KR) [] (bT [5, 6] [some (rowR 0 k), some (I most)] .nil) [] (mkA [oRR c 0]) =
    bif m_nns c && true then KR [some (.slice (some ⟨0, 0, none⟩) k unk), some (I most)] [] [some (.cells c 3 0 1)] else .fail 420 := by kernel_rfl

theorem rqA (r : Mem) (b off len cap : Nat) (k a : Int) (K : OV → List Nat → OO → CR) (kx : Nat → KS) (kr : KS) : run (SC r) 243 38 1 (.seq RC_0 (.seq RC_1 RC_2)) (lvlT (SC r) (tAlE b off len cap a) .nil 1 2) none (rbK 0 lvRC [] K) kx kr (sc0 243 [RS b off len cap, I k]) (tr0 243 [RS b off len cap, I k]) [] emptyA =
    bif m_same [.slice (some ⟨b, off, some 0⟩) len cap] [.slice (some ⟨b, off, some 0⟩) len cap] then K [some (.slice (some ⟨b, off, some 0⟩) len cap), some (I k), some (I a), some (.bool true)] [] [] else .fail 420 := by kernel_rfl

theorem rqB (r : Mem) (b off len cap : Nat) (k left : Int) (again : Bool) (fs : FnsC) (K : OV → List Nat → OO → CR) (KX : Nat → OV → List Nat → OO → CR) (kr : KS) : run (SC r) 243 38 1 RC_3 fs none (rbK 0 lvRC [] K) (fun i => rbK 0 [5] [] (KX i)) kr [] (bT lvRC (vRC b off len cap k left again) .nil) [] (mkA []) =
    bif again then K [some (.slice (some ⟨b, off, some 0⟩) len cap), some (I k), some (I left), some (.bool again)] [] [] else KX 0 [some (I left)] [] [] := by kernel_rfl

theorem rqC (r : Mem) (b off len cap : Nat) (k left : Int) (again : Bool) (fs : FnsC) (K : OV → List Nat → OO → CR) (kx : Nat → KS) (kr : KS) : run (SC r) 243 38 1 (.seq RC_4 RC_5) fs none (rbK 0 lvRD [] K) kx kr [] (bT lvRC (vRC b off len cap k left again) .nil) [] (mkA []) =
    K [some (.slice (some ⟨b, off, some 0⟩) len cap), some (I k), some (I left), some (.bool false), some (I (Int.ofNat 0))] [] [] := by kernel_rfl

theorem rqD (r : Mem) (b off len cap : Nat) (k left : Int) (again : Bool) (i : Int) (K : OV → List Nat → OO → CR) (KX : Nat → OV → List Nat → OO → CR) (kr : KS) : run (SC r) 243 38 1 RC_6 (lvlT (SC r) tSzE .nil 1 1) none (rbK 0 lvRD [] K) (fun i => rbK 0 lvRC [] (KX i)) kr [] (bT lvRD (vRD b off len cap k left again i) .nil) [] (mkA []) =
    bif decide (i < Int.ofNat len) then bif !decide (i < 0) then bif Int.tmod (Int.fdiv left (Int.ofNat 2 ^ min (Int.toNat i) 64)) (Int.ofNat 2) == Int.ofNat 1 then bif decide (0 ≤ i) then bif Nat.blt (Int.toNat i) len then Option.casesOn (r b (Nat.add off (Nat.mul (Int.toNat i) 1))) (.fail 423) fun val => bif isI IntKind.i64 val then bif m_popG (ibits BinOp.and IntKind.i64 (ofI val) left) then bif decide (m_pop (ibits BinOp.and IntKind.i64 (ofI val) left) < k) then bif !decide (i < 0) then K [some (.slice (some ⟨b, off, some 0⟩) len cap), some (I k), some (I (ibits BinOp.andNot IntKind.i64 left (IntKind.wrap .i64 (Int.ofNat 1 * Int.ofNat 2 ^ min (Int.toNat i) 64)))), some (.bool true), some (I (IntKind.wrap .i64 (i + Int.ofNat 1)))] [] [] else .fail 420 else K [some (.slice (some ⟨b, off, some 0⟩) len cap), some (I k), some (I left), some (.bool again), some (I (IntKind.wrap .i64 (i + Int.ofNat 1)))] [] [] else .fail 420 else .fail 420 else .fail 420 else .fail 420 else K [some (.slice (some ⟨b, off, some 0⟩) len cap), some (I k), some (I left), some (.bool again), some (I (IntKind.wrap .i64 (i + Int.ofNat 1)))] [] [] else .fail 420 else KX 2 [some (.slice (some ⟨b, off, some 0⟩) len cap), some (I k), some (I left), some (.bool again)] [] [] := by kernel_rfl

theorem rqE (r : Mem) (left : Int) (fs : FnsC) (K KR : OV → List Nat → OO → CR) (kx : Nat → KS) : run (SC r) 243 38 1 RC_7 fs none (rbK 0 [4] [] K) kx (rbK 0 [4] [] KR) [] (bT [5] [some (I left)] .nil) [] (mkA []) =
    KR [some (I left)] [] [] := by kernel_rfl

end Go.Proofs

