/- What the claim is proved with, part 6: the evaluator and the contracts of the calls. -/
import Derived.Test.YtpcofojbkahfbaaGreatDoorPack5
import Derived.Test.YtpcofojbkahfbaaGreatDoorPack1
import Derived.Test.YtpcofojbkahfbaaGreatDoorPack2
import Derived.Test.YtpcofojbkahfbaaGreatDoorPack3
import Derived.Test.YtpcofojbkahfbaaGreatDoorPack4
/- The law of modules holds. -/
namespace Go.Proofs
open Go Go.Ev Go.Num
set_option linter.unusedVariables false
set_option linter.unusedSimpArgs false
set_option maxRecDepth 100000

section
variable {m : Nat} (h1 : 1 ≤ m) (hm16 : m ≤ 16) {E : List (Nat × Nat)} (hE : okAll (m : Int) (zE E) E.length = true)
include hm16 hE

theorem co_eq : alE (fun k => (wcL (wR m E) m m).getD k 0) m m = coE (wS E) m := by
 refine alE_congr (fun k hk => ?_) m (Nat.le_refl _)
 rw [List.getD_eq_getElem?_getD, wcL_get _ hk]
 show wcK (wR m E) m m k = wcK (wS E) m m k
 unfold wcK wcN
 rw [if_pos hk, if_pos hk, wR_eq hm16 hE k hk]
theorem tw_eq : alP (twN (wR m E)) m m = twE (wS E) m := by
 refine alP_congr (fun i j hi hj hij => ?_) m (Nat.le_refl _)
 have h := tw_im (w := wS E) hm16 (nb_nbs hm16 (zE E) E.length fun i hi => okAll_at hE i hi) (nb_irr hm16 (zE E) E.length fun i hi => okAll_at hE i hi) hi hj (by omega)
 refine Eq.trans ?_ h.symm
 unfold twN
 rw [wR_eq hm16 hE i hi, wR_eq hm16 hE j hj]
theorem mo_eq : moL (isM (wR m E) m) (2 ^ m) = moL (imN (wS E) m) (2 ^ m) := moL_congr fun s _ => (im_is hm16 (wR_eq hm16 hE) s).symm
end
theorem mod_ne {m : Nat} (h : m ≤ 16) : (!decide (IntKind.wrap IntKind.u64 (IntKind.wrap IntKind.i64 (Int.ofNat (2 ^ m - 1) + Int.ofNat 1)) = 0)) = true := by
 have hA : 2 ^ m ≤ 65536 := Nat.pow_le_pow_right (n := 2) (by decide) h
 have hp := Nat.two_pow_pos m
 have e2 : (Int.ofNat (2 ^ m - 1) + Int.ofNat 1 : Int) = ((2 ^ m : Nat) : Int) := by
  generalize 2 ^ m = q at *
  simp
  omega
 rw [e2]
 generalize 2 ^ m = q at *
 rw [wrI (by omega), wrapU' (by omega), decide_eq_false (by omega)]
 rfl
abbrev oTr : Outs := ⟨[6], [], fun vs ms os => vs = [some (.bool true)] ∧ ms = [] ∧ os = []⟩
theorem small (m : Nat) (hm16 : m ≤ 16) : m * m < 1000000 := by
 have : m * m ≤ 16 * 16 := Nat.mul_le_mul hm16 hm16
 omega

noncomputable abbrev tLw (m : Nat) (x : XE) (E : List (Nat × Nat)) (t : Tbl) : Tbl := tPl m x (gR m E) (m_ws (wcL (wR m E) m m)) (!(coE (wS E) m).isEmpty) (coE (wS E) m).length (pcE (coE (wS E) m)) (!(twE (wS E) m).isEmpty) (twE (wS E) m).length (pcE (twE (wS E) m)) (isF (2 ^ m - 1) (imN (wS E) m)) (erF (2 ^ m - 1)) (fun s => isM (wR m E) m s.toNat) (decide (m ≤ 10)) (moL (imN (wS E) m) (2 ^ m)).length (m_ws (moL (imN (wS E) m) (2 ^ m))) t
theorem tLw_ok (r : Mem) (hm : Tab r) {m : Nat} (h1 : 1 ≤ m) (hm16 : m ≤ 16) {E : List (Nat × Nat)} (hE : okAll (m : Int) (zE E) E.length = true) (hL : E.length ≤ 1000000) {x : XE} (hx : XOk m E x) {t : Tbl} (ht : TOk (SC r) t) : TOk (SC r) (tLw m x E t) := by
 have hC : (coE (wS E) m).length < 1000000 := by
  have := alE_len (wcK (wS E) m m) m m
  have := small m hm16
  unfold coE
  omega
 have hT : (twE (wS E) m).length < 1000000 := by
  have := alP_len (fun i j => imN (wS E) m (2 ^ i ||| 2 ^ j)) m m
  have := small m hm16
  unfold twE
  omega
 have hlt : ∀ k, (wcL (wR m E) m m).getD k 0 < 65536 := fun k => by
  by_cases c : k < m
  ·rw [List.getD_eq_getElem?_getD, wcL_get _ c]
   exact wcK_lt (w := wR m E) hm16 k
  ·rw [List.getD_eq_getElem?_getD, List.getElem?_eq_none (by rw [wcL_len]; omega)]
   decide
 have e1 := eLiL_ok r hm16 (wcL_len (wR m E) m m) hlt
 rw [co_eq hm16 hE] at e1
 have e2 := eLiT_ok r hm16 (nbN_len m (zE E) E.length) (wR_lt hm16 hE)
 change EOk _ _ (eLi m (gR m E) (!(alP (twN (wR m E)) m m).isEmpty) (alP (twN (wR m E)) m m).length (pcE (alP (twN (wR m E)) m m))) at e2
 rw [tw_eq hm16 hE] at e2
 have hA2 : 2 ≤ 2 ^ m := by
  have := Nat.pow_le_pow_right (n := 2) (by decide) h1
  omega
 have hne := moL_two (im_one (wS E) m) (2 ^ m) hA2
 have hml := moL_len (imN (wS E) m) (2 ^ m)
 have hA : 2 ^ m ≤ 65536 := Nat.pow_le_pow_right (n := 2) (by decide) hm16
 have hmo := mo_eq hm16 hE
 unfold tLw tPl
 cases hl : moL (imN (wS E) m) (2 ^ m) with
 | nil => exact absurd hl hne
 | cons p l =>
  rw [hl] at hml hmo
  exact TOk.cons (TOk.cons (TOk.cons (TOk.cons (TOk.cons (TOk.cons (TOk.cons (TOk.cons (TOk.cons (TOk.cons (TOk.cons (TOk.cons (TOk.cons ht (eIt_ok r (ws := p :: l) (by omega))) (ePr_ok r hC hT)) (eRi_ok r hm16 hE)) (eAm_ok r hm16 E)) (eRl_ok r hm16 hE hmo)) e2) e1) (eRc_ok r hm16 hE)) (eMd_ok r hm h1 hm16 hE hL hx hl)) (eIs_ok r hm h1 hm16 hE hL hx)) (eCoT_ok r hm h1 hm16 hE hL hx)) (eCoC_ok r hm h1 hm16 hE hL hx)) (e0_ok (awake4.less hm))

theorem lw1 (r : Mem) (hm : Tab r) {m : Nat} (h1 : 1 ≤ m) (hm16 : m ≤ 16) {E : List (Nat × Nat)} (hE : okAll (m : Int) (zE E) E.length = true) (hL : E.length ≤ 1000000) (hx : XOk m E (some (E.length, pcE E))) {t : Tbl} (htm : TOk (SC r) (tLw m (some (E.length, pcE E)) E t)) (args : List Value) (hle : Nat.ble args.length 130 = true)
  (hpre : run (SC r) 262087 130 1 (.seq La_0 (.seq La_1 (.seq La_2 (.seq La_3 (.seq La_4 (.seq La_5 La_6)))))) (lvlT (SC r) (tLw m (some (E.length, pcE E)) E t) .nil 1 1) none (Outs.ask 0 ⟨lvLa, [], fun vs ms os => ∃ j i : Nat, i ≤ 2 ∧ j = 2 - i ∧ ∃ set : Int, vs = vLa1 m E.length set (i : Nat) ∧ ms = [] ∧ os = oLa1 (pcE E) (gR m E)⟩) (fun _ => Outs.no.ask 0) (oTr.ask 0) (sc0 262087 args) (tr0 262087 args) [] emptyA = okR) :
  SOk (SC r) 3 args emptyA fun v _ => v = .bool true := by
 have sm : ∀ l : List Value, m_same l l = true := same_rfl
 have hA := all16 hm16
 have hmo := mo_eq hm16 hE
 have ht0 := tLw_ok r hm h1 hm16 hE hL hx (t := fun _ => none) TOk.nil
 refine callL (SC_ok r) (by kernel_rfl) ((bodySC r _).trans La_eq) (nt := 130) (by kernel_rfl) (rs := [.tmp 6]) (by kernel_rfl) 262087 hle (.step (.step (.step (.step (.step (.step .base)))))) htm (tm := .nil) (L := 1) (d := 1) lvLa []
  (fun j vs ms os => ∃ i : Nat, i ≤ 2 ∧ j = 2 - i ∧ ∃ set : Int, vs = vLa1 m E.length set (i : Nat) ∧ ms = [] ∧ os = oLa1 (pcE E) (gR m E))
  ⟨[0, 7, 8], [], fun vs ms os => vs = [some (I (m : Nat)), some (.slice (some ⟨0, 0, none⟩) E.length unk), some (.slice (some ⟨1, 0, none⟩) m m)] ∧ ms = [] ∧ os = oLa1 (pcE E) (gR m E)⟩ oTr hpre ?_ ?_ ?_
 ·rintro j vs ms os ⟨i, hi, rfl, set, rfl, rfl, rfl⟩
  refine ⟨_, ht0, .nil, 1, 1, 1, ?_⟩
  have hn := plB1 r set i E.length (pcE E) m (gR m E) (m_ws (wcL (wR m E) m m)) (!(coE (wS E) m).isEmpty) (coE (wS E) m).length (pcE (coE (wS E) m)) (!(twE (wS E) m).isEmpty) (twE (wS E) m).length (pcE (twE (wS E) m)) (isF (2 ^ m - 1) (imN (wS E) m)) (erF (2 ^ m - 1)) (fun s => isM (wR m E) m s.toNat) (decide (m ≤ 10)) (moL (imN (wS E) m) (2 ^ m)).length (m_ws (moL (imN (wS E) m) (2 ^ m)))
  by_cases c : i < 2
  ·have e3 : IntKind.wrap IntKind.i64 ((i : Int) + Int.ofNat 1) = ((i + 1 : Nat) : Int) := by rw [wrI (by simp; omega)]; simp
   simp only [dT (show (i : Int) < 2 by omega), m_sm, sm, mod_ne hm16, e3, pcE_nn, ws_nn, Bool.and_self, Bool.true_and, cond_true] at hn
   by_cases c1 : set < 0
   ·have q1 : inW (2 ^ m - 1) set = false := by unfold inW; rw [dF (show ¬ 0 ≤ set by omega)]; rfl
    have q2 : isF (2 ^ m - 1) (imN (wS E) m) set = false := by unfold isF; rw [q1]; rfl
    have q3 : (erF (2 ^ m - 1) set != Int.ofNat 1) = false := by unfold erF; rw [q1]; rfl
    simp only [q2, dT c1, q3, cond_true, cond_false] at hn
    exact (hn _ _ _).trans (qq_ok ⟨2 - (i + 1), by omega, i + 1, c, rfl, _, rfl, rfl, rfl⟩)
   ·by_cases c2 : set > ((2 ^ m - 1 : Nat) : Int)
    ·have q1 : inW (2 ^ m - 1) set = false := by unfold inW; rw [dF (show ¬ set ≤ ((2 ^ m - 1 : Nat) : Int) by omega), Bool.and_false]
     have q2 : isF (2 ^ m - 1) (imN (wS E) m) set = false := by unfold isF; rw [q1]; rfl
     have q3 : (erF (2 ^ m - 1) set != Int.ofNat 1) = false := by unfold erF; rw [q1]; rfl
     have c2' : decide (set > Int.ofNat (2 ^ m - 1)) = true := decide_eq_true c2
     simp only [q2, dF c1, c2', q3, cond_true, cond_false] at hn
     exact (hn _ _ _).trans (qq_ok ⟨2 - (i + 1), by omega, i + 1, c, rfl, _, rfl, rfl, rfl⟩)
    ·have q1 : inW (2 ^ m - 1) set = true := by unfold inW; rw [dT (show 0 ≤ set by omega), dT (show set ≤ ((2 ^ m - 1 : Nat) : Int) by omega)]; rfl
     have q2 : isF (2 ^ m - 1) (imN (wS E) m) set = isM (wR m E) m set.toNat := by unfold isF; rw [q1, Bool.true_and]; exact im_is hm16 (wR_eq hm16 hE) _
     have q3 : (erF (2 ^ m - 1) set != Int.ofNat 0) = false := by unfold erF; rw [q1]; rfl
     have c2' : decide (set > Int.ofNat (2 ^ m - 1)) = false := decide_eq_false c2
     have w6 : m_w16 set = true := decide_eq_true ⟨by omega, by omega⟩
     cases hb : isM (wR m E) m set.toNat with
     | true =>
      simp only [q2, hb, dF c1, c2', q3, w6, cond_true, cond_false] at hn
      exact (hn _ _ _).trans (qq_ok ⟨2 - (i + 1), by omega, i + 1, c, rfl, _, rfl, rfl, rfl⟩)
     | false =>
      simp only [q2, hb, dF c1, c2', q3, w6, cond_true, cond_false] at hn
      exact (hn _ _ _).trans (qq_ok ⟨2 - (i + 1), by omega, i + 1, c, rfl, _, rfl, rfl, rfl⟩)
  ·obtain rfl : i = 2 := by omega
   simp only [dF (show ¬ ((2 : Nat) : Int) < 2 by omega), pcE_nn, ws_nn, Bool.and_self, cond_true, cond_false] at hn
   exact (hn _ _ _).trans (qq_ok ⟨rfl, rfl, rfl⟩)
 ·rintro vs ms os ⟨rfl, rfl, rfl⟩
  refine ⟨_, ht0, .nil, 1, 1, 1, ?_⟩
  obtain ⟨c3, hc3⟩ : ∃ c3, decide (m ≤ 10) = c3 := ⟨_, rfl⟩
  unfold tLw
  rw [hc3]
  have hn := plC1 r E.length (pcE E) m (gR m E) (m_ws (wcL (wR m E) m m)) (!(coE (wS E) m).isEmpty) (coE (wS E) m).length (pcE (coE (wS E) m)) (!(twE (wS E) m).isEmpty) (twE (wS E) m).length (pcE (twE (wS E) m)) (isF (2 ^ m - 1) (imN (wS E) m)) (erF (2 ^ m - 1)) (fun s => isM (wR m E) m s.toNat) c3 (moL (imN (wS E) m) (2 ^ m)).length (m_ws (moL (imN (wS E) m) (2 ^ m)))
  have hTr : [some (Value.bool true)] = [some (Value.bool true)] ∧ ([] : List Nat) = [] ∧ ([] : OO) = [] := ⟨rfl, rfl, rfl⟩
  by_cases c : m ≤ 10
  ·obtain rfl : c3 = true := hc3.symm.trans (decide_eq_true c)
   simp only [m_sm, sm, dF (show ¬ Int.ofNat m > 10 by simp; omega), cond_true, cond_false] at hn
   exact (hn _ _ _).trans (qq_ok hTr)
  ·obtain rfl : c3 = false := hc3.symm.trans (decide_eq_false c)
   simp only [m_sm, sm, dT (show Int.ofNat m > 10 by simp; omega), cond_true, cond_false] at hn
   exact (hn _ _ _).trans (qq_ok hTr)
 ·rintro vs ms os ⟨rfl, rfl, rfl⟩
  exact ⟨_, mkA [], by kernel_rfl, rfl⟩
theorem lw0 (r : Mem) (hm : Tab r) {m : Nat} (h1 : 1 ≤ m) (hm16 : m ≤ 16) {E : List (Nat × Nat)} (hE : okAll (m : Int) (zE E) E.length = true) (hL : E.length ≤ 1000000) (hx : XOk m E none) {t : Tbl} (htm : TOk (SC r) (tLw m none E t)) (args : List Value) (hle : Nat.ble args.length 130 = true)
  (hpre : run (SC r) 262087 130 1 (.seq La_0 (.seq La_1 (.seq La_2 (.seq La_3 (.seq La_4 (.seq La_5 La_6)))))) (lvlT (SC r) (tLw m none E t) .nil 1 1) none (Outs.ask 0 ⟨lvLa, [], fun vs ms os => ∃ j i : Nat, i ≤ 2 ∧ j = 2 - i ∧ ∃ set : Int, vs = vLa0 m set (i : Nat) ∧ ms = [] ∧ os = oLa0 (gR m E)⟩) (fun _ => Outs.no.ask 0) (oTr.ask 0) (sc0 262087 args) (tr0 262087 args) [] emptyA = okR) :
  SOk (SC r) 3 args emptyA fun v _ => v = .bool true := by
 have sm : ∀ l : List Value, m_same l l = true := same_rfl
 have hA := all16 hm16
 have hmo := mo_eq hm16 hE
 have ht0 := tLw_ok r hm h1 hm16 hE hL hx (t := fun _ => none) TOk.nil
 refine callL (SC_ok r) (by kernel_rfl) ((bodySC r _).trans La_eq) (nt := 130) (by kernel_rfl) (rs := [.tmp 6]) (by kernel_rfl) 262087 hle (.step (.step (.step (.step (.step (.step .base)))))) htm (tm := .nil) (L := 1) (d := 1) lvLa []
  (fun j vs ms os => ∃ i : Nat, i ≤ 2 ∧ j = 2 - i ∧ ∃ set : Int, vs = vLa0 m set (i : Nat) ∧ ms = [] ∧ os = oLa0 (gR m E))
  ⟨[0, 7, 8], [], fun vs ms os => vs = [some (I (m : Nat)), some (.slice none 0 0), some (.slice (some ⟨0, 0, none⟩) m m)] ∧ ms = [] ∧ os = oLa0 (gR m E)⟩ oTr hpre ?_ ?_ ?_
 ·rintro j vs ms os ⟨i, hi, rfl, set, rfl, rfl, rfl⟩
  refine ⟨_, ht0, .nil, 1, 1, 1, ?_⟩
  have hn := plB0 r set i  m (gR m E) (m_ws (wcL (wR m E) m m)) (!(coE (wS E) m).isEmpty) (coE (wS E) m).length (pcE (coE (wS E) m)) (!(twE (wS E) m).isEmpty) (twE (wS E) m).length (pcE (twE (wS E) m)) (isF (2 ^ m - 1) (imN (wS E) m)) (erF (2 ^ m - 1)) (fun s => isM (wR m E) m s.toNat) (decide (m ≤ 10)) (moL (imN (wS E) m) (2 ^ m)).length (m_ws (moL (imN (wS E) m) (2 ^ m)))
  by_cases c : i < 2
  ·have e3 : IntKind.wrap IntKind.i64 ((i : Int) + Int.ofNat 1) = ((i + 1 : Nat) : Int) := by rw [wrI (by simp; omega)]; simp
   simp only [dT (show (i : Int) < 2 by omega), m_sm, sm, mod_ne hm16, e3, pcE_nn, ws_nn, Bool.and_self, Bool.true_and, cond_true] at hn
   by_cases c1 : set < 0
   ·have q1 : inW (2 ^ m - 1) set = false := by unfold inW; rw [dF (show ¬ 0 ≤ set by omega)]; rfl
    have q2 : isF (2 ^ m - 1) (imN (wS E) m) set = false := by unfold isF; rw [q1]; rfl
    have q3 : (erF (2 ^ m - 1) set != Int.ofNat 1) = false := by unfold erF; rw [q1]; rfl
    simp only [q2, dT c1, q3, cond_true, cond_false] at hn
    exact (hn _ _ _).trans (qq_ok ⟨2 - (i + 1), by omega, i + 1, c, rfl, _, rfl, rfl, rfl⟩)
   ·by_cases c2 : set > ((2 ^ m - 1 : Nat) : Int)
    ·have q1 : inW (2 ^ m - 1) set = false := by unfold inW; rw [dF (show ¬ set ≤ ((2 ^ m - 1 : Nat) : Int) by omega), Bool.and_false]
     have q2 : isF (2 ^ m - 1) (imN (wS E) m) set = false := by unfold isF; rw [q1]; rfl
     have q3 : (erF (2 ^ m - 1) set != Int.ofNat 1) = false := by unfold erF; rw [q1]; rfl
     have c2' : decide (set > Int.ofNat (2 ^ m - 1)) = true := decide_eq_true c2
     simp only [q2, dF c1, c2', q3, cond_true, cond_false] at hn
     exact (hn _ _ _).trans (qq_ok ⟨2 - (i + 1), by omega, i + 1, c, rfl, _, rfl, rfl, rfl⟩)
    ·have q1 : inW (2 ^ m - 1) set = true := by unfold inW; rw [dT (show 0 ≤ set by omega), dT (show set ≤ ((2 ^ m - 1 : Nat) : Int) by omega)]; rfl
     have q2 : isF (2 ^ m - 1) (imN (wS E) m) set = isM (wR m E) m set.toNat := by unfold isF; rw [q1, Bool.true_and]; exact im_is hm16 (wR_eq hm16 hE) _
     have q3 : (erF (2 ^ m - 1) set != Int.ofNat 0) = false := by unfold erF; rw [q1]; rfl
     have c2' : decide (set > Int.ofNat (2 ^ m - 1)) = false := decide_eq_false c2
     have w6 : m_w16 set = true := decide_eq_true ⟨by omega, by omega⟩
     cases hb : isM (wR m E) m set.toNat with
     | true =>
      simp only [q2, hb, dF c1, c2', q3, w6, cond_true, cond_false] at hn
      exact (hn _ _ _).trans (qq_ok ⟨2 - (i + 1), by omega, i + 1, c, rfl, _, rfl, rfl, rfl⟩)
     | false =>
      simp only [q2, hb, dF c1, c2', q3, w6, cond_true, cond_false] at hn
      exact (hn _ _ _).trans (qq_ok ⟨2 - (i + 1), by omega, i + 1, c, rfl, _, rfl, rfl, rfl⟩)
  ·obtain rfl : i = 2 := by omega
   simp only [dF (show ¬ ((2 : Nat) : Int) < 2 by omega), pcE_nn, ws_nn, Bool.and_self, cond_true, cond_false] at hn
   exact (hn _ _ _).trans (qq_ok ⟨rfl, rfl, rfl⟩)
 ·rintro vs ms os ⟨rfl, rfl, rfl⟩
  refine ⟨_, ht0, .nil, 1, 1, 1, ?_⟩
  obtain ⟨c3, hc3⟩ : ∃ c3, decide (m ≤ 10) = c3 := ⟨_, rfl⟩
  unfold tLw
  rw [hc3]
  have hn := plC0 r  m (gR m E) (m_ws (wcL (wR m E) m m)) (!(coE (wS E) m).isEmpty) (coE (wS E) m).length (pcE (coE (wS E) m)) (!(twE (wS E) m).isEmpty) (twE (wS E) m).length (pcE (twE (wS E) m)) (isF (2 ^ m - 1) (imN (wS E) m)) (erF (2 ^ m - 1)) (fun s => isM (wR m E) m s.toNat) c3 (moL (imN (wS E) m) (2 ^ m)).length (m_ws (moL (imN (wS E) m) (2 ^ m)))
  have hTr : [some (Value.bool true)] = [some (Value.bool true)] ∧ ([] : List Nat) = [] ∧ ([] : OO) = [] := ⟨rfl, rfl, rfl⟩
  by_cases c : m ≤ 10
  ·obtain rfl : c3 = true := hc3.symm.trans (decide_eq_true c)
   simp only [m_sm, sm, dF (show ¬ Int.ofNat m > 10 by simp; omega), cond_true, cond_false] at hn
   exact (hn _ _ _).trans (qq_ok hTr)
  ·obtain rfl : c3 = false := hc3.symm.trans (decide_eq_false c)
   simp only [m_sm, sm, dT (show Int.ofNat m > 10 by simp; omega), cond_true, cond_false] at hn
   exact (hn _ _ _).trans (qq_ok hTr)
 ·rintro vs ms os ⟨rfl, rfl, rfl⟩
  exact ⟨_, mkA [], by kernel_rfl, rfl⟩

theorem modsR (r : Mem) (hm : Tab r) (n set : Int) (b off len cap : Nat) (z : Nat → Int) (hz : rowAt r b off (2 * len) z) : GrT Tryz.prog r 3 [I n, RS2 b off len cap, I set] (.bool true) := by
 have ht := tame_row r n 16 (by decide) (by decide) b off len cap z hz
 have sm : ∀ l : List Value, m_same l l = true := same_rfl
 have hg := gM_ok n (most := 16) (by decide) (by decide)
 have hE := gE_ok n 16 len z
 have hL := gE_len n 16 len z (by decide) (by decide)
 generalize gE n 16 len z = E at ht hE hL
 generalize gM n 16 = m at ht hE hg
 have h1 := hg.1
 have hm16 : m ≤ 16 := by omega
 cases E with
 | nil =>
  have htm := tLw_ok r hm h1 hm16 hE hL (x := none) (.inl ⟨rfl, rfl⟩) (t := tPl0 [I n, RS2 b off len cap, I 16] m (gR m [])) (TOk.cons (TOk.cons TOk.nil (eOf0_ok r h1 hm16)) (entV_ok (tm0_ok r ht) rfl))
  refine GrT.ofS (C := SC r) rfl rfl rfl (lw0 r hm h1 hm16 hE hL (.inl ⟨rfl, rfl⟩) htm [I n, RS2 b off len cap, I set] rfl ?_)
  obtain ⟨cb, hcb⟩ : ∃ cb, (!(coE (wS []) m).isEmpty) = cb := ⟨_, rfl⟩
  obtain ⟨cb', hcb'⟩ : ∃ cb, (!(twE (wS []) m).isEmpty) = cb := ⟨_, rfl⟩
  clear htm
  unfold tLw
  rw [hcb, hcb']
  have hn := plAR0 r n set b off len cap m (gR m []) (m_ws (wcL (wR m []) m m)) cb (coE (wS []) m).length (pcE (coE (wS []) m)) cb' (twE (wS []) m).length (pcE (twE (wS []) m)) (isF (2 ^ m - 1) (imN (wS []) m)) (erF (2 ^ m - 1)) (fun s => isM (wR m []) m s.toNat) (decide (m ≤ 10)) (moL (imN (wS []) m) (2 ^ m)).length (m_ws (moL (imN (wS []) m) (2 ^ m)))
  cases cb <;> cases cb' <;>
  ·simp only [m_sm, sm, pcE_nn, ws_nn, Bool.true_or, Bool.or_true, Bool.and_self, Bool.and_true, cond_true, cond_false] at hn
   exact (hn _ _ _).trans (qq_ok ⟨2, 0, by omega, rfl, set, rfl, rfl, rfl⟩)
 | cons p l =>
  have htm := tLw_ok r hm h1 hm16 hE hL (x := some ((p :: l).length, pcE (p :: l))) (.inr rfl) (t := tPl1 [I n, RS2 b off len cap, I 16] m (l.length + 1) (pcE (p :: l)) (gR m (p :: l))) (TOk.cons (TOk.cons TOk.nil (eOf1_ok r h1 hm16 hE hL)) (eTm1_ok r rfl ht))
  refine GrT.ofS (C := SC r) rfl rfl rfl (lw1 r hm h1 hm16 hE hL (.inr rfl) htm [I n, RS2 b off len cap, I set] rfl ?_)
  obtain ⟨cb, hcb⟩ : ∃ cb, (!(coE (wS (p :: l)) m).isEmpty) = cb := ⟨_, rfl⟩
  obtain ⟨cb', hcb'⟩ : ∃ cb, (!(twE (wS (p :: l)) m).isEmpty) = cb := ⟨_, rfl⟩
  clear htm
  unfold tLw
  rw [hcb, hcb']
  have hn := plAR1 r n set b off len cap (l.length + 1) (pcE (p :: l)) m (gR m (p :: l)) (m_ws (wcL (wR m (p :: l)) m m)) cb (coE (wS (p :: l)) m).length (pcE (coE (wS (p :: l)) m)) cb' (twE (wS (p :: l)) m).length (pcE (twE (wS (p :: l)) m)) (isF (2 ^ m - 1) (imN (wS (p :: l)) m)) (erF (2 ^ m - 1)) (fun s => isM (wR m (p :: l)) m s.toNat) (decide (m ≤ 10)) (moL (imN (wS (p :: l)) m) (2 ^ m)).length (m_ws (moL (imN (wS (p :: l)) m) (2 ^ m)))
  cases cb <;> cases cb' <;>
  ·simp only [m_sm, sm, pcE_nn, ws_nn, Bool.true_or, Bool.or_true, Bool.and_self, Bool.and_true, cond_true, cond_false] at hn
   exact (hn _ _ _).trans (qq_ok ⟨2, 0, by omega, rfl, set, rfl, rfl, rfl⟩)
theorem modsN (r : Mem) (hm : Tab r) (n set : Int) : GrT Tryz.prog r 3 [I n, .slice none 0 0, I set] (.bool true) := by
 have ht := tame_nil r n 16 (by decide) (by decide) fun _ => 0
 have sm : ∀ l : List Value, m_same l l = true := same_rfl
 have hg := gM_ok n (most := 16) (by decide) (by decide)
 have hE := gE_ok n 16 0 (fun _ => 0)
 have hL := gE_len n 16 0 (fun _ => 0) (by decide) (by decide)
 generalize gE n 16 0 (fun _ => 0) = E at ht hE hL
 generalize gM n 16 = m at ht hE hg
 have h1 := hg.1
 have hm16 : m ≤ 16 := by omega
 cases E with
 | nil =>
  have htm := tLw_ok r hm h1 hm16 hE hL (x := none) (.inl ⟨rfl, rfl⟩) (t := tPl0 [I n, .slice none 0 0, I 16] m (gR m [])) (TOk.cons (TOk.cons TOk.nil (eOf0_ok r h1 hm16)) (entV_ok (tm0_ok r ht) rfl))
  refine GrT.ofS (C := SC r) rfl rfl rfl (lw0 r hm h1 hm16 hE hL (.inl ⟨rfl, rfl⟩) htm [I n, .slice none 0 0, I set] rfl ?_)
  obtain ⟨cb, hcb⟩ : ∃ cb, (!(coE (wS []) m).isEmpty) = cb := ⟨_, rfl⟩
  obtain ⟨cb', hcb'⟩ : ∃ cb, (!(twE (wS []) m).isEmpty) = cb := ⟨_, rfl⟩
  clear htm
  unfold tLw
  rw [hcb, hcb']
  have hn := plAN0 r n set m (gR m []) (m_ws (wcL (wR m []) m m)) cb (coE (wS []) m).length (pcE (coE (wS []) m)) cb' (twE (wS []) m).length (pcE (twE (wS []) m)) (isF (2 ^ m - 1) (imN (wS []) m)) (erF (2 ^ m - 1)) (fun s => isM (wR m []) m s.toNat) (decide (m ≤ 10)) (moL (imN (wS []) m) (2 ^ m)).length (m_ws (moL (imN (wS []) m) (2 ^ m)))
  cases cb <;> cases cb' <;>
  ·simp only [m_sm, sm, pcE_nn, ws_nn, Bool.true_or, Bool.or_true, Bool.and_self, Bool.and_true, cond_true, cond_false] at hn
   exact (hn _ _ _).trans (qq_ok ⟨2, 0, by omega, rfl, set, rfl, rfl, rfl⟩)
 | cons p l =>
  have htm := tLw_ok r hm h1 hm16 hE hL (x := some ((p :: l).length, pcE (p :: l))) (.inr rfl) (t := tPl1 [I n, .slice none 0 0, I 16] m (l.length + 1) (pcE (p :: l)) (gR m (p :: l))) (TOk.cons (TOk.cons TOk.nil (eOf1_ok r h1 hm16 hE hL)) (eTm1_ok r rfl ht))
  refine GrT.ofS (C := SC r) rfl rfl rfl (lw1 r hm h1 hm16 hE hL (.inr rfl) htm [I n, .slice none 0 0, I set] rfl ?_)
  obtain ⟨cb, hcb⟩ : ∃ cb, (!(coE (wS (p :: l)) m).isEmpty) = cb := ⟨_, rfl⟩
  obtain ⟨cb', hcb'⟩ : ∃ cb, (!(twE (wS (p :: l)) m).isEmpty) = cb := ⟨_, rfl⟩
  clear htm
  unfold tLw
  rw [hcb, hcb']
  have hn := plAN1 r n set (l.length + 1) (pcE (p :: l)) m (gR m (p :: l)) (m_ws (wcL (wR m (p :: l)) m m)) cb (coE (wS (p :: l)) m).length (pcE (coE (wS (p :: l)) m)) cb' (twE (wS (p :: l)) m).length (pcE (twE (wS (p :: l)) m)) (isF (2 ^ m - 1) (imN (wS (p :: l)) m)) (erF (2 ^ m - 1)) (fun s => isM (wR m (p :: l)) m s.toNat) (decide (m ≤ 10)) (moL (imN (wS (p :: l)) m) (2 ^ m)).length (m_ws (moL (imN (wS (p :: l)) m) (2 ^ m)))
  cases cb <;> cases cb' <;>
  ·simp only [m_sm, sm, pcE_nn, ws_nn, Bool.true_or, Bool.or_true, Bool.and_self, Bool.and_true, cond_true, cond_false] at hn
   exact (hn _ _ _).trans (qq_ok ⟨2, 0, by omega, rfl, set, rfl, rfl, rfl⟩)

theorem law_modules (r : Mem) (hm : ∀ b j u, tabM b j = some u → r b j = some u) (u0 u1 u2 : Value) (s0 : ArgInt .i64 u0) (s1 : ArgRowT r 2 (ArgInt .i64) u1) (s2 : ArgInt .i64 u2) : GrT Tryz.prog r 3 [u0, u1, u2] (.bool true) := by
 obtain ⟨n, rfl, _⟩ := s0
 obtain ⟨set, rfl, _⟩ := s2
 cases s1 with
 | nil => exact modsN r hm n set
 | row b off len cap hl hc h =>
  refine modsR r hm n set b off len cap (fun j => ofI ((r b (off + j)).getD undef)) fun j hj => ?_
  obtain ⟨u, hu, z, rfl, _⟩ := h j (by omega)
  show r b (off + j) = some (I (ofI ((r b (off + j)).getD undef)))
  rw [hu]
  rfl

end Go.Proofs

