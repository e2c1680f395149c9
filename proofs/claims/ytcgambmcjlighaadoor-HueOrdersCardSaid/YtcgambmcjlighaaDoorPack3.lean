/- What the claim is proved with, part 3: the evaluator and the contracts of the calls. -/
import Derived.Test.YtcgambmcjlighaaDoorPack2
import Derived.Test.YtcgambmcjlighaaDoorPack1
import Derived.Test.YtcgambmcjlighaaDoorEvRd
import Derived.Test.YtcgambmcjlighaaDoorEvCanP
/- The reference's order and core: what the calls answer. -/
namespace Go.Proofs
open Go Go.Ev Go.Num
set_option linter.unusedVariables false
set_option linter.unusedSimpArgs false
set_option maxRecDepth 100000

theorem shlI {b : Nat} (h : b < 17) : IntKind.wrap IntKind.i64 (Int.ofNat 1 * Int.ofNat 2 ^ min b 64) = ((2 ^ b : Nat) : Int) := by
 have h1 : 2 ^ b ≤ 65536 := Nat.pow_le_pow_right (n := 2) (by decide) (show b ≤ 16 by omega)
 rw [Nat.min_eq_left (by omega), show (Int.ofNat 1 * Int.ofNat 2 ^ b : Int) = ((2 ^ b : Nat) : Int) by simp]
 generalize 2 ^ b = x at *
 exact wrI (by omega)
theorem bitR {x k : Nat} (hk : k ≤ 16) : (Int.tmod (Int.fdiv ((x : Nat) : Int) (Int.ofNat 2 ^ min k 64)) (Int.ofNat 2) == Int.ofNat 1) = x.testBit k := by
 rw [shr_nat x k (by omega), ← bt_bit]
 unfold btN
 have : ∀ x : Nat, Int.tmod (x : Int) (Int.ofNat 2) = ((x % 2 : Nat) : Int) := fun x => by
  show Int.tmod (x : Int) 2 = _
  rw [Int.tmod_eq_emod_of_nonneg (by omega)]
  omega
 rw [this]
 rcases Nat.mod_two_eq_zero_or_one (x / 2 ^ k) with h | h <;> rw [h] <;> rfl
theorem inc1 {a : Nat} (h : a < 1000000) : IntKind.wrap IntKind.i64 (((a : Nat) : Int) + Int.ofNat 1) = ((a + 1 : Nat) : Int) := by rw [wrI (by simp; omega)]; simp
theorem tSzE_ok (r : Mem) : TOk (SC r) tSzE := TOk.cons TOk.nil (eI1_ok fun a ha => by
 have h := of_decide_eq_true ha
 have := size_ok r a.toNat (by omega)
 rw [show ((a.toNat : Nat) : Int) = a by omega] at this
 exact this)
theorem ral_ok (r : Mem) (b off m cap : Nat) (hm : m ≤ 16) : GrT Tryd.prog r 32 [RS b off m cap] (I (2 ^ m - 1 : Nat)) :=
 GrT.of (SC_ok r) TOk.nil .nil rfl ⟨1, 1, by
  have h1 : 2 ^ m ≤ 65536 := Nat.pow_le_pow_right (n := 2) (by decide) hm
  have h2 := Nat.two_pow_pos m
  rw [ralA, show Int.toNat (Int.ofNat m) = m from rfl, shlI (by omega)]
  have : IntKind.wrap .i64 (((2 ^ m : Nat) : Int) - Int.ofNat 1) = ((2 ^ m - 1 : Nat) : Int) := by
   generalize 2 ^ m = x at *
   rw [show (Int.ofNat 1 : Int) = 1 from rfl, wrI (by omega)]
   omega
  rw [this]
  rfl⟩
theorem tAlE_ok (r : Mem) (b off m cap : Nat) (hm : m ≤ 16) : TOk (SC r) (tAlE b off m cap (2 ^ m - 1 : Nat)) := TOk.cons TOk.nil (entV_ok (ral_ok r b off m cap hm) rfl)

theorem ws_ones (ws : List Nat) : ones (m_ws ws) = true := by
 induction ws with
 | nil => rfl
 | cons w l ih => exact ih

def BF (w : Nat → Nat) (s i : Nat) (best few : Int) : Prop := (i ≤ tzN 64 s ∧ best = Int.negSucc 0 ∧ few = 100) ∨ (tzN 64 s < i ∧ best = (bsN w s i : Nat) ∧ few = (eN w s (bsN w s i) : Nat))
theorem bf_out {w : Nat → Nat} {s : Nat} (hs : s < 65536) (h0 : s ≠ 0) {i : Nat} {best few : Int} (h : BF w s i best few) (hb : s.testBit i = false) : BF w s (i + 1) best few := by
 have hbs : bsN w s (i + 1) = bsN w s i := by rw [bsN, if_neg (fun c => by rw [hb] at c; exact nomatch c.1)]
 have ht := (tz_bit 64 s (by omega) h0).2.1
 rcases h with ⟨h1, h2, h3⟩ | ⟨h1, h2, h3⟩
 ·refine .inl ⟨?_, h2, h3⟩
  rcases Nat.lt_or_ge i (tzN 64 s) with c | c
  ·exact c
  ·obtain rfl : i = tzN 64 s := by omega
   rw [hb] at ht
   exact nomatch ht
 ·exact .inr ⟨by omega, by rw [hbs]; exact h2, by rw [hbs]; exact h3⟩
theorem bf_in {w : Nat → Nat} {s : Nat} (hs : s < 65536) (h0 : s ≠ 0) {i : Nat} {best few : Int} (h : BF w s i best few) (hb : s.testBit i = true) (hc : ((eN w s i : Nat) : Int) ≤ few) : BF w s (i + 1) (i : Nat) (eN w s i : Nat) := by
 have hz := (tz_bit 64 s (by omega) h0).2.2
 have hle : tzN 64 s ≤ i := by
  rcases Nat.lt_or_ge i (tzN 64 s) with c | c
  ·rw [hz i c] at hb; exact nomatch hb
  ·exact c
 have e : bsN w s (i + 1) = i := by
  rcases h with ⟨h1, h2, h3⟩ | ⟨h1, h2, h3⟩
  ·obtain rfl : i = tzN 64 s := by omega
   exact bs_tz1 hs h0
  ·rw [bsN, if_pos ⟨hb, by omega⟩]
 exact .inr ⟨by omega, by rw [e], by rw [e]⟩
theorem bf_no {w : Nat → Nat} {s : Nat} {i : Nat} {best few : Int} (h : BF w s i best few) (hc : ¬ ((eN w s i : Nat) : Int) ≤ few) : BF w s (i + 1) best few := by
 have := eN_le w s i
 rcases h with ⟨h1, h2, h3⟩ | ⟨h1, h2, h3⟩
 ·omega
 ·have e : bsN w s (i + 1) = bsN w s i := by rw [bsN, if_neg fun c => by have := c.2; omega]
  exact .inr ⟨by omega, by rw [e]; exact h2, by rw [e]; exact h3⟩
theorem bf_end {w : Nat → Nat} {s m : Nat} (hm16 : m ≤ 16) (hs : s < 2 ^ m) (h0 : s ≠ 0) {best few : Int} (h : BF w s m best few) : best = (loN w s : Nat) ∧ few = (eN w s (loN w s) : Nat) := by
 have hA : 2 ^ m ≤ 65536 := Nat.pow_le_pow_right (n := 2) (by decide) hm16
 have ht := (tz_bit 64 s (by omega) h0).2.1
 have e : loN w s = bsN w s m := by
  have := bs_end (w := w) hs (16 - m)
  rwa [show m + (16 - m) = 16 by omega] at this
 rcases h with ⟨h1, h2, h3⟩ | ⟨h1, h2, h3⟩
 ·rw [high hs (by omega)] at ht
  exact nomatch ht
 ·rw [e]; exact ⟨h2, h3⟩

def outV : List Nat → Value
 | [] => .slice none 0 0
 | x :: l => rowR 0 (l.length + 1)
def outO : List Nat → OO
 | [] => []
 | x :: l => [oRR (m_ws (x :: l)) 0]

section
variable (r : Mem) (b off m cap : Nat) (hm16 : m ≤ 16) (w : Nat → Nat) (hr : ∀ k, k < m → r b (off + k) = some (I (w k : Nat))) (hw : ∀ k, k < m → w k < 65536)
include hm16 hr hw

theorem ro_rnd {s : Nat} (hs : s < 65536) (h0 : s ≠ 0) (most : Int) (L : List Nat) {i : Nat} (hi : i < m) {best few : Int} (h : BF w s i best few) (K : OV → List Nat → OO → CR) (KX : Nat → OV → List Nat → OO → CR) (kr : KS) :
  ∃ best' few', BF w s (i + 1) best' few' ∧ run (SC r) 4093 57 1 RO_7 (lvlT (SC r) tSzE .nil 1 1) none (rbK 0 lvRP [] K) (fun i => rbK 0 lvRP [] (KX i)) kr [] (bT lvRP (vRP b off m cap (s : Nat) (outV L) most best few (i : Nat)) .nil) [] (mkA (outO L)) = K (vRP b off m cap (s : Nat) (outV L) most best' few' ((i + 1 : Nat) : Int)) [] (outO L) := by
 have e1 : r b (Nat.add off (Nat.mul i 1)) = some (I (w i : Nat)) := by rw [Nat.mul_eq, Nat.mul_one]; exact hr i hi
 have a1 : ibits .and .i64 ((w i : Nat) : Int) ((s : Nat) : Int) = ((w i &&& s : Nat) : Int) := (iO (hw i hi) hs).2.1
 have b1 : w i &&& s < 65536 := Nat.and_lt_two_pow (n := 16) _ hs
 have g : m_popG ((w i &&& s : Nat) : Int) = true := decide_eq_true ⟨by omega, by omega⟩
 have e2 : m_pop ((w i &&& s : Nat) : Int) = (eN w s i : Nat) := by unfold m_pop eN; rw [Int.toNat_natCast]
 have e3 : (Int.tmod (Int.fdiv ((s : Nat) : Int) (Int.ofNat 2 ^ min i 64)) (Int.ofNat 2) == Int.ofNat 1) = s.testBit i := bitR (by omega)
 have c1 : (i : Int) < Int.ofNat m := by simp; omega
 have fin : ∀ best' few' : Int, BF w s (i + 1) best' few' → run (SC r) 4093 57 1 RO_7 (lvlT (SC r) tSzE .nil 1 1) none (rbK 0 lvRP [] K) (fun i => rbK 0 lvRP [] (KX i)) kr [] (bT lvRP (vRP b off m cap (s : Nat) (outV L) most best few (i : Nat)) .nil) [] (mkA (outO L)) = K (vRP b off m cap (s : Nat) (outV L) most best' few' ((i + 1 : Nat) : Int)) [] (outO L) → ∃ best' few', BF w s (i + 1) best' few' ∧ run (SC r) 4093 57 1 RO_7 (lvlT (SC r) tSzE .nil 1 1) none (rbK 0 lvRP [] K) (fun i => rbK 0 lvRP [] (KX i)) kr [] (bT lvRP (vRP b off m cap (s : Nat) (outV L) most best few (i : Nat)) .nil) [] (mkA (outO L)) = K (vRP b off m cap (s : Nat) (outV L) most best' few' ((i + 1 : Nat) : Int)) [] (outO L) := fun _ _ h1 h2 => ⟨_, _, h1, h2⟩
 cases L with
 | nil =>
  have hn := roD1 r b off m cap (s : Nat) most best few (i : Nat) K KX kr
  simp only [dT c1, dT (show 0 ≤ (i : Int) by omega), dF (show ¬ (i : Int) < 0 by omega), Int.toNat_natCast, show Nat.blt i m = true from Nat.ble_eq_true_of_le hi, e1, show ∀ x, isI IntKind.i64 (I x) = true from fun _ => rfl, show ∀ x, ofI (I x) = x from fun _ => rfl, a1, g, e2, e3, inc1 (show i < 1000000 by omega), Bool.not_false, cond_true] at hn
  cases hb : s.testBit i with
  | false => rw [hb, cond_false] at hn; exact fin _ _ (bf_out hs h0 h hb) hn
  | true =>
   rw [hb, cond_true] at hn
   by_cases c : ((eN w s i : Nat) : Int) ≤ few
   ·rw [dT c, cond_true] at hn; exact fin _ _ (bf_in hs h0 h hb c) hn
   ·rw [dF c, cond_false] at hn; exact fin _ _ (bf_no h c) hn
 | cons x l =>
  have hn := roD2 r b off m cap (s : Nat) most best few (i : Nat) (l.length + 1) (m_ws (x :: l)) K KX kr
  simp only [dT c1, dT (show 0 ≤ (i : Int) by omega), dF (show ¬ (i : Int) < 0 by omega), Int.toNat_natCast, show Nat.blt i m = true from Nat.ble_eq_true_of_le hi, e1, show ∀ x, isI IntKind.i64 (I x) = true from fun _ => rfl, show ∀ x, ofI (I x) = x from fun _ => rfl, a1, g, e2, e3, inc1 (show i < 1000000 by omega), ws_nn, Bool.and_self, Bool.not_false, cond_true] at hn
  cases hb : s.testBit i with
  | false => rw [hb, cond_false] at hn; exact fin _ _ (bf_out hs h0 h hb) hn
  | true =>
   rw [hb, cond_true] at hn
   by_cases c : ((eN w s i : Nat) : Int) ≤ few
   ·rw [dT c, cond_true] at hn; exact fin _ _ (bf_in hs h0 h hb c) hn
   ·rw [dF c, cond_false] at hn; exact fin _ _ (bf_no h c) hn

theorem rorder_ok (h1 : 1 ≤ m) : SOk (SC r) 17 [RS b off m cap] emptyA fun v A => v = .tuple ⟨[rowR 0 m, I (lsN w m m : Nat)]⟩ ∧ A = mkA [oRR (m_ws (orL w m m)) 0] := by
 have hA : 2 ^ m ≤ 65536 := Nat.pow_le_pow_right (n := 2) (by decide) hm16
 have hne : ∀ k, 1 ≤ k → ∃ x l, orL w m k = x :: l ∧ l.length + 1 = k := fun k hk => by
  have := orL_len w m k
  cases hl : orL w m k with
  | nil => rw [hl] at this; simp at this; omega
  | cons x l => rw [hl] at this; exact ⟨x, l, rfl, this⟩
 have hen := le_end (w := w) hm16
 refine callO (SC_ok r) (by kernel_rfl) ((bodySC r _).trans RO_eq) (nt := 57) (by kernel_rfl) (rs := [.tmp 2, .tmp 3]) (by kernel_rfl) 4093 rfl
  ⟨[2, 3], [], fun vs ms os => vs = [some (rowR 0 m), some (I (lsN w m m : Nat))] ∧ ms = [] ∧ os = [oRR (m_ws (orL w m m)) 0]⟩ ?_ fun γ W F kk hwr hF hro h0' => ?_
 ·rintro vs ms os ⟨rfl, rfl, rfl⟩
  exact ⟨_, mkA [some (.cells (m_ws (orL w m m)) 3 0 1)], by kernel_rfl, rfl, rfl⟩
 have h0' : ∀ i, 0 ≤ i → γ i = none := h0'
 let Z : Outs := ⟨[5, 6], [], fun vs ms os => vs = [some (rowR 0 m), some (I (lsN w m m : Nat))] ∧ ms = [] ∧ os = [oRR (m_ws (orL w m m)) 0]⟩
 refine Go.Ev.Reach.after3R (SC_ok r) (tAlE_ok r b off m cap hm16) (tm := .nil) (L := 1) (L' := 1) (d := 2) hF hro h0' (.step (.step (.step .flat)))
  (o1 := ⟨lvRO, [], fun vs ms os => vs = vRO b off m cap (2 ^ m - 1 : Nat) (.slice none 0 0) 0 ∧ ms = [] ∧ os = []⟩) (o2 := Z) [] (fun p hp => nomatch hp) ?_ ?_ ?_
 ·rintro vs ms os ⟨rfl, rfl, rfl⟩
  refine Go.Ev.Reach.blockC (Go.Ev.Reach.loopC (j := m) (lv := lvRO) (fl := []) (I := fun j vs ms os => ∃ k : Nat, k ≤ m ∧ j = m - k ∧ vs = vRO b off m cap (leN w m k : Nat) (outV (orL w m k)) (lsN w m k : Nat) ∧ ms = [] ∧ os = outO (orL w m k)) (fun j vs ms os hI => ?_) ⟨0, Nat.zero_le _, rfl, rfl, rfl, rfl⟩)
  obtain ⟨k, hk, rfl, rfl, rfl, rfl⟩ := hI
  have hs := le_lt (w := w) hm16 k
  refine Go.Ev.Reach.afterR (SC_ok r) TOk.nil (tm := .nil) (L := 1) (L' := 1) (d := 1) hF hro h0' .base (o1 := ⟨lvRO, [], fun vs ms os => k < m ∧ vs = vRO b off m cap (leN w m k : Nat) (outV (orL w m k)) (lsN w m k : Nat) ∧ ms = [] ∧ os = outO (orL w m k)⟩) [(0, Z)] (fun p hp => by simp only [List.mem_cons, List.not_mem_nil, or_false] at hp; subst hp; rfl) ?_ ?_
  ·rintro vs ms os ⟨hkm, rfl, rfl, rfl⟩
   have h0 := le_ne (w := w) hm16 hkm
   have hlo := lo_m (w := w) hm16 hkm
   have hs6 : leN w m k < 65536 := by omega
   refine Go.Ev.Reach.blockC (Go.Ev.Reach.after3R (SC_ok r) TOk.nil (tm := .nil) (L := 1) (L' := 1) (d := 1) hF hro h0' (.step .base)
    (o1 := ⟨lvRP, [], fun vs ms os => vs = vRP b off m cap (leN w m k : Nat) (outV (orL w m k)) (lsN w m k : Nat) (Int.negSucc 0) 100 (0 : Nat) ∧ ms = [] ∧ os = outO (orL w m k)⟩)
    (o2 := ⟨lvRP, [], fun vs ms os => vs = vRP b off m cap (leN w m k : Nat) (outV (orL w m k)) (lsN w m k : Nat) (loN w (leN w m k) : Nat) (eN w (leN w m k) (loN w (leN w m k)) : Nat) (m : Nat) ∧ ms = [] ∧ os = outO (orL w m k)⟩) [] (fun p hp => nomatch hp) ?_ ?_ ?_)
   ·rintro vs ms os ⟨rfl, rfl, rfl⟩
    refine Go.Ev.Reach.blockC (Go.Ev.Reach.loopC (j := m) (lv := lvRP) (fl := []) (I := fun j vs ms os => ∃ (i : Nat) (best few : Int), i ≤ m ∧ j = m - i ∧ BF w (leN w m k) i best few ∧ vs = vRP b off m cap (leN w m k : Nat) (outV (orL w m k)) (lsN w m k : Nat) best few (i : Nat) ∧ ms = [] ∧ os = outO (orL w m k)) (fun j vs ms os hI => ?_) ⟨0, _, _, Nat.zero_le _, rfl, .inl ⟨Nat.zero_le _, rfl, rfl⟩, rfl, rfl, rfl⟩)
    obtain ⟨i, best, few, hi, rfl, hbf, rfl, rfl, rfl⟩ := hI
    refine Go.Ev.Reach.segR (SC_ok r) (tSzE_ok r) (tm := .nil) (L := 1) (L' := 1) (d := 1) hF hro h0' [(2, ⟨lvRP, [], fun vs ms os => vs = vRP b off m cap (leN w m k : Nat) (outV (orL w m k)) (lsN w m k : Nat) (loN w (leN w m k) : Nat) (eN w (leN w m k) (loN w (leN w m k)) : Nat) (m : Nat) ∧ ms = [] ∧ os = outO (orL w m k)⟩)] (fun p hp => by simp only [List.mem_cons, List.not_mem_nil, or_false] at hp; subst hp; rfl) ?_
    by_cases c : i < m
    ·obtain ⟨best', few', hb', hn⟩ := ro_rnd r b off m cap hm16 w hr hw hs6 h0 (lsN w m k : Nat) (orL w m k) c hbf (fun vs ms os => qq (∃ j', j' < m - i ∧ ∃ (i : Nat) (best few : Int), i ≤ m ∧ j' = m - i ∧ BF w (leN w m k) i best few ∧ vs = vRP b off m cap (leN w m k : Nat) (outV (orL w m k)) (lsN w m k : Nat) best few (i : Nat) ∧ ms = [] ∧ os = outO (orL w m k))) (fun i vs ms os => match Nat.beq i 2 with | true => qq (vs = vRP b off m cap (leN w m k : Nat) (outV (orL w m k)) (lsN w m k : Nat) (loN w (leN w m k) : Nat) (eN w (leN w m k) (loN w (leN w m k)) : Nat) (m : Nat) ∧ ms = [] ∧ os = outO (orL w m k)) | false => .fail 0) (Outs.no.ask 0)
     exact hn.trans (qq_ok ⟨m - (i + 1), by omega, i + 1, best', few', c, rfl, hb', rfl, rfl, rfl⟩)
    ·obtain rfl : i = m := by omega
     obtain ⟨rfl, rfl⟩ := bf_end hm16 hs h0 hbf
     have c1 : ¬ (i : Int) < Int.ofNat i := by simp
     generalize orL w i k = L
     cases L with
     | nil =>
      have hn := roD1 r b off i cap (leN w i k : Nat) (lsN w i k : Nat) (loN w (leN w i k) : Nat) (eN w (leN w i k) (loN w (leN w i k)) : Nat) (i : Nat)
      simp only [dF c1, cond_false] at hn
      exact (hn _ _ _).trans (qq_ok ⟨rfl, rfl, rfl⟩)
     | cons x l =>
      have hn := roD2 r b off i cap (leN w i k : Nat) (lsN w i k : Nat) (loN w (leN w i k) : Nat) (eN w (leN w i k) (loN w (leN w i k)) : Nat) (i : Nat) (l.length + 1) (m_ws (x :: l))
      simp only [dF c1, ws_nn, Bool.and_self, cond_true, cond_false] at hn
      exact (hn _ _ _).trans (qq_ok ⟨rfl, rfl, rfl⟩)
   ·rintro vs ms os ⟨rfl, rfl, rfl⟩
    refine Go.Ev.Reach.segR (SC_ok r) TOk.nil (tm := .nil) (L := 1) (L' := 1) (d := 1) hF hro h0' [] (fun p hp => nomatch hp) ?_
    have p1 : 2 ^ loN w (leN w m k) < 65536 := Nat.pow_lt_pow_right (n := 16) (by decide) (by omega)
    have an : ibits .andNot .i64 ((leN w m k : Nat) : Int) ((2 ^ loN w (leN w m k) : Nat) : Int) = (leN w m (k + 1) : Nat) := (iO hs6 p1).2.2
    have mx : (bif decide (((eN w (leN w m k) (loN w (leN w m k)) : Nat) : Int) > ((lsN w m k : Nat) : Int)) then ((eN w (leN w m k) (loN w (leN w m k)) : Nat) : Int) else ((lsN w m k : Nat) : Int)) = ((lsN w m (k + 1) : Nat) : Int) := by
     rw [lsN]
     by_cases h : ((eN w (leN w m k) (loN w (leN w m k)) : Nat) : Int) > ((lsN w m k : Nat) : Int)
     ·rw [dT h, cond_true, Nat.max_eq_right (by omega)]
     ·rw [dF h, cond_false, Nat.max_eq_left (by omega)]
    have hor : orL w m (k + 1) = loN w (leN w m k) :: orL w m k := rfl
    have hlen := orL_len w m k
    generalize hL : orL w m k = L at *
    cases L with
    | nil =>
     have hn := roE1 r b off m cap (leN w m k : Nat) (lsN w m k : Nat) (loN w (leN w m k) : Nat) (eN w (leN w m k) (loN w (leN w m k)) : Nat) (m : Nat)
     simp only [dF (show ¬ ((loN w (leN w m k) : Nat) : Int) < 0 by omega), Int.toNat_natCast, shlI (show loN w (leN w m k) < 17 by omega), an, mx, Bool.not_false, cond_true] at hn
     exact (hn _ _ _ _).trans (qq_ok ⟨m - (k + 1), by omega, k + 1, hkm, rfl, by rw [hor]; rfl, rfl, by rw [hor]; rfl⟩)
    | cons x l =>
     have hn := roE2 r b off m cap (leN w m k : Nat) (lsN w m k : Nat) (loN w (leN w m k) : Nat) (eN w (leN w m k) (loN w (leN w m k)) : Nat) (m : Nat) (l.length + 1) (m_ws (x :: l))
     have hl' : l.length + 1 = k := hlen
     have m1 : Nat.ble (Nat.add 1 (l.length + 1)) 1000000 = true := Nat.ble_eq_true_of_le (by simp only [Nat.add_eq]; omega)
     have tk : takeAt (m_ws (x :: l)) 0 (Nat.mul (l.length + 1) 1) = some (m_ws (x :: l)) := takeL_all _ _ (by rw [ws_len]; simp)
     have on : ones (m_ws (x :: l)) = true := ws_ones _
     have nk : m_nns (I ((loN w (leN w m k) : Nat) : Int) :: m_ws (x :: l)) = true := ws_nn (loN w (leN w m k) :: x :: l)
     have bl : Nat.beq (List.length (m_ws (x :: l))) (Nat.mul (l.length + 1) 1) = true := by rw [ws_len]; simp
     have ad : Nat.add 1 (l.length + 1) = (x :: l).length + 1 := by simp [Nat.add_comm]
     simp only [m1, tk, bl, show Nat.beq (l.length + 1) 0 = false from rfl, on, nk, dF (show ¬ ((loN w (leN w m k) : Nat) : Int) < 0 by omega), Int.toNat_natCast, shlI (show loN w (leN w m k) < 17 by omega), an, mx, Bool.and_self, Bool.not_false, cond_true, cond_false] at hn
     refine (hn _ _ _ _).trans (qq_ok ⟨m - (k + 1), by omega, k + 1, hkm, rfl, ?_, rfl, by rw [hor]; rfl⟩)
     rw [hor, ad]
     rfl
   ·generalize orL w m k = L
    cases L with
    | nil => exact (roC1 r b off m cap (leN w m k : Nat) (lsN w m k : Nat) _ _ _ _).trans (qq_ok ⟨rfl, rfl, rfl⟩)
    | cons x l =>
     have hn := roC2 r b off m cap (leN w m k : Nat) (lsN w m k : Nat) (l.length + 1) (m_ws (x :: l))
     simp only [ws_nn, Bool.and_self, cond_true] at hn
     exact (hn _ _ _ _).trans (qq_ok ⟨rfl, rfl, rfl⟩)
  ·by_cases c : k < m
   ·have h0 := le_ne (w := w) hm16 c
    have ne : (((leN w m k : Nat) : Int) != Int.ofNat 0) = true := by simp [h0]
    generalize hL : orL w m k = L
    cases L with
    | nil =>
     have hn := roB1 r b off m cap (leN w m k : Nat) (lsN w m k : Nat)
     simp only [ne, cond_true] at hn
     exact (hn _ _ _ _).trans (qq_ok ⟨c, rfl, rfl, rfl⟩)
    | cons x l =>
     have hn := roB2 r b off m cap (leN w m k : Nat) (lsN w m k : Nat) (l.length + 1) (m_ws (x :: l))
     simp only [ne, ws_nn, Bool.and_self, cond_true] at hn
     exact (hn _ _ _ _).trans (qq_ok ⟨c, rfl, rfl, rfl⟩)
   ·obtain rfl : k = m := by omega
    obtain ⟨x, l, hL, hl⟩ := hne k h1
    have hn := roB2 r b off k cap (leN w k k : Nat) (lsN w k k : Nat) (l.length + 1) (m_ws (x :: l))
    have ne : (((leN w k k : Nat) : Int) != Int.ofNat 0) = false := by simp [hen]
    simp only [ne, ws_nn, Bool.and_self, cond_true, cond_false] at hn
    simp only [hL]
    exact (hn _ _ _ _).trans (qq_ok ⟨by rw [hl], rfl, by rw [hL]; rfl⟩)
 ·rintro vs ms os ⟨rfl, rfl, rfl⟩
  have hn := roF r m (m_ws (orL w m m)) (lsN w m m : Nat)
  simp only [ws_nn, Bool.and_self, cond_true] at hn
  exact Go.Ev.Reach.segR (SC_ok r) TOk.nil (tm := .nil) (L := 1) (L' := 1) (d := 1) hF hro h0' [] (fun p hp => nomatch hp) ((hn _ _ _ _).trans (qq_ok ⟨rfl, rfl, rfl⟩))
 ·have hn := roA r b off m cap (2 ^ m - 1 : Nat)
  simp only [show ∀ l : List Value, m_same l l = true from same_rfl, cond_true] at hn
  exact (hn _ _ _).trans (qq_ok ⟨rfl, rfl, rfl⟩)

theorem rcore_ok (k : Int) : GrT Tryd.prog r 20 [RS b off m cap, I k] (I (corN w k m : Nat)) := by
 have hA : 2 ^ m ≤ 65536 := Nat.pow_le_pow_right (n := 2) (by decide) hm16
 refine GrT.ofS (C := SC r) rfl rfl rfl (callO (SC_ok r) (by kernel_rfl) ((bodySC r _).trans RC_eq) (nt := 38) (by kernel_rfl) (rs := [.tmp 4]) (by kernel_rfl) 243 rfl
  ⟨[4], [], fun vs ms os => vs = [some (I (corN w k m : Nat))] ∧ ms = [] ∧ os = []⟩ ?_ fun γ W F kk hwr hF hro h0' => ?_)
 ·rintro vs ms os ⟨rfl, rfl, rfl⟩
  exact ⟨_, mkA [], by kernel_rfl, rfl⟩
 have h0' : ∀ i, 0 ≤ i → γ i = none := h0'
 let Z : Outs := ⟨[5], [], fun vs ms os => vs = [some (I (corN w k m : Nat))] ∧ ms = [] ∧ os = []⟩
 refine Go.Ev.Reach.after3R (SC_ok r) (tAlE_ok r b off m cap hm16) (tm := .nil) (L := 1) (L' := 1) (d := 2) hF hro h0' (.step (.step .base))
  (o1 := ⟨lvRC, [], fun vs ms os => vs = vRC b off m cap k (2 ^ m - 1 : Nat) true ∧ ms = [] ∧ os = []⟩) (o2 := Z) [] (fun p hp => nomatch hp) ?_ ?_ ?_
 ·rintro vs ms os ⟨rfl, rfl, rfl⟩
  refine Go.Ev.Reach.blockC (Go.Ev.Reach.loopC (j := 2 ^ m - 1 + 1) (lv := lvRC) (fl := []) (I := fun j vs ms os => ∃ (s : Nat) (ag : Bool), vs = vRC b off m cap k (s : Nat) ag ∧ ms = [] ∧ os = [] ∧ CoAt w k m s ∧ (ag = false → psN w k s m = s) ∧ j = if ag = true then s + 1 else 0) (fun j vs ms os hI => ?_) ⟨2 ^ m - 1, true, rfl, rfl, rfl, co_at w k m, (fun h => nomatch h), rfl⟩)
  obtain ⟨s, ag, rfl, rfl, rfl, hat, hst, rfl⟩ := hI
  have hs : s < 2 ^ m := hat.1
  refine Go.Ev.Reach.afterR (SC_ok r) TOk.nil (tm := .nil) (L := 1) (L' := 1) (d := 1) hF hro h0' .base (o1 := ⟨lvRC, [], fun vs ms os => ag = true ∧ vs = vRC b off m cap k (s : Nat) true ∧ ms = [] ∧ os = []⟩) [(0, Z)] (fun p hp => by simp only [List.mem_cons, List.not_mem_nil, or_false] at hp; subst hp; rfl) ?_ ?_
  ·rintro vs ms os ⟨rfl, rfl, rfl, rfl⟩
   rw [if_pos rfl]
   refine Go.Ev.Reach.blockC (Go.Ev.Reach.afterR (SC_ok r) TOk.nil (tm := .nil) (L := 1) (L' := 1) (d := 1) hF hro h0' (.step .base)
    (o1 := ⟨lvRD, [], fun vs ms os => vs = vRD b off m cap k (s : Nat) false (0 : Nat) ∧ ms = [] ∧ os = []⟩) [] (fun p hp => nomatch hp) ?_ ?_)
   ·rintro vs ms os ⟨rfl, rfl, rfl⟩
    refine Go.Ev.Reach.blockC (Go.Ev.Reach.loopC (j := m) (lv := lvRD) (fl := []) (I := fun j vs ms os => ∃ i : Nat, i ≤ m ∧ j = m - i ∧ vs = vRD b off m cap k (psN w k s i : Nat) (decide (psN w k s i ≠ s)) (i : Nat) ∧ ms = [] ∧ os = []) (fun j vs ms os hI => ?_) ⟨0, Nat.zero_le _, rfl, by rw [decide_eq_false (show ¬ psN w k s 0 ≠ s from fun h => h rfl)]; rfl, rfl, rfl⟩)
    obtain ⟨i, hi, rfl, rfl, rfl, rfl⟩ := hI
    refine Go.Ev.Reach.segR (SC_ok r) (tSzE_ok r) (tm := .nil) (L := 1) (L' := 1) (d := 1) hF hro h0' [(2, ⟨lvRC, [], fun vs ms os => ∃ j', j' < s + 1 ∧ ∃ (s : Nat) (ag : Bool), vs = vRC b off m cap k (s : Nat) ag ∧ ms = [] ∧ os = [] ∧ CoAt w k m s ∧ (ag = false → psN w k s m = s) ∧ j' = if ag = true then s + 1 else 0⟩)] (fun p hp => by simp only [List.mem_cons, List.not_mem_nil, or_false] at hp; subst hp; rfl) ?_
    have hp := ps_sub w k s i
    have hn := rqD r b off m cap k (psN w k s i : Nat) (decide (psN w k s i ≠ s)) (i : Nat)
    by_cases c : i < m
    ·have e1 : r b (Nat.add off (Nat.mul i 1)) = some (I (w i : Nat)) := by rw [Nat.mul_eq, Nat.mul_one]; exact hr i c
     have a1 : ibits .and .i64 ((w i : Nat) : Int) ((psN w k s i : Nat) : Int) = ((w i &&& psN w k s i : Nat) : Int) := (iO (hw i c) (by omega)).2.1
     have b1 : w i &&& psN w k s i < 65536 := Nat.and_lt_two_pow (n := 16) _ (by omega)
     have g : m_popG ((w i &&& psN w k s i : Nat) : Int) = true := decide_eq_true ⟨by omega, by omega⟩
     have e2 : m_pop ((w i &&& psN w k s i : Nat) : Int) = (eN w (psN w k s i) i : Nat) := by unfold m_pop eN; rw [Int.toNat_natCast]
     have e3 : (Int.tmod (Int.fdiv ((psN w k s i : Nat) : Int) (Int.ofNat 2 ^ min i 64)) (Int.ofNat 2) == Int.ofNat 1) = (psN w k s i).testBit i := bitR (by omega)
     have p1 : 2 ^ i < 65536 := Nat.pow_lt_pow_right (n := 16) (by decide) (by omega)
     have an : ibits .andNot .i64 ((psN w k s i : Nat) : Int) ((2 ^ i : Nat) : Int) = (anN (psN w k s i) (2 ^ i) : Nat) := (iO (by omega) p1).2.2
     simp only [dT (show (i : Int) < Int.ofNat m by simp; omega), dT (show 0 ≤ (i : Int) by omega), dF (show ¬ (i : Int) < 0 by omega), Int.toNat_natCast, show Nat.blt i m = true from Nat.ble_eq_true_of_le c, e1, show ∀ x, isI IntKind.i64 (I x) = true from fun _ => rfl, show ∀ x, ofI (I x) = x from fun _ => rfl, a1, g, e2, e3, shlI (show i < 17 by omega), an, inc1 (show i < 1000000 by omega), Bool.not_false, cond_true] at hn
     have keep : psN w k s (i + 1) = psN w k s i → ∃ j', j' < m - i ∧ ∃ i' : Nat, i' ≤ m ∧ j' = m - i' ∧ vRD b off m cap k (psN w k s i : Nat) (decide (psN w k s i ≠ s)) ((i + 1 : Nat) : Int) = vRD b off m cap k (psN w k s i' : Nat) (decide (psN w k s i' ≠ s)) (i' : Nat) ∧ ([] : List Nat) = [] ∧ ([] : OO) = [] := fun e => ⟨m - (i + 1), by omega, i + 1, c, rfl, by rw [e], rfl, rfl⟩
     cases hb : (psN w k s i).testBit i with
     | false =>
      rw [hb] at hn
      simp only [cond_false] at hn
      exact (hn _ _ _).trans (qq_ok (keep (by rw [psN, if_neg (fun h => by rw [hb] at h; exact nomatch h.1)])))
     | true =>
      rw [hb] at hn
      by_cases d : ((eN w (psN w k s i) i : Nat) : Int) < k
      ·simp only [dT d, cond_true] at hn
       have e : psN w k s (i + 1) = anN (psN w k s i) (2 ^ i) := by rw [psN, if_pos ⟨hb, d⟩]
       have l1 := sub_le (an_sub (psN w k s i) (2 ^ i))
       have l2 := an_ne hb
       exact (hn _ _ _).trans (qq_ok ⟨m - (i + 1), by omega, i + 1, c, rfl, by rw [e, decide_eq_true (show anN (psN w k s i) (2 ^ i) ≠ s by omega)]; rfl, rfl, rfl⟩)
      ·simp only [dF d, cond_true, cond_false] at hn
       exact (hn _ _ _).trans (qq_ok (keep (by rw [psN, if_neg fun h => d h.2])))
    ·obtain rfl : i = m := by omega
     simp only [dF (show ¬ (i : Int) < Int.ofNat i by simp), cond_false] at hn
     refine (hn _ _ _).trans (qq_ok ?_)
     by_cases d : psN w k s i = s
     ·exact ⟨0, by omega, s, false, by rw [d, decide_eq_false (fun h => h rfl)]; rfl, rfl, rfl, hat, fun _ => d, rfl⟩
     ·exact ⟨psN w k s i + 1, by omega, psN w k s i, true, by rw [decide_eq_true d]; rfl, rfl, rfl, co_next hat d, (fun h => nomatch h), rfl⟩
   ·exact (rqC r b off m cap k s true _ _ _ _).trans (qq_ok ⟨rfl, rfl, rfl⟩)
  ·have hn := rqB r b off m cap k s ag
   cases ag with
   | true =>
    simp only [cond_true] at hn
    exact (hn _ _ _ _).trans (qq_ok ⟨rfl, rfl, rfl, rfl⟩)
   | false =>
    simp only [cond_false] at hn
    exact (hn _ _ _ _).trans (qq_ok ⟨by rw [co_stop hat (hst rfl)], rfl, rfl⟩)
 ·rintro vs ms os ⟨rfl, rfl, rfl⟩
  exact Go.Ev.Reach.segR (SC_ok r) TOk.nil (tm := .nil) (L := 1) (L' := 1) (d := 1) hF hro h0' [] (fun p hp => nomatch hp) ((rqE r (corN w k m : Nat) _ _ _ _).trans (qq_ok ⟨rfl, rfl, rfl⟩))
 ·have hn := rqA r b off m cap k (2 ^ m - 1 : Nat)
  simp only [show ∀ l : List Value, m_same l l = true from same_rfl, cond_true] at hn
  exact (hn _ _ _).trans (qq_ok ⟨rfl, rfl, rfl⟩)
end

end Go.Proofs

