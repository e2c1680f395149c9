/- What the claim is proved with, part 3: the evaluator and the contracts of the calls. -/
import Derived.Test.YtjlijogjddebjaaDoorPack2
import Derived.Test.YtjlijogjddebjaaDoorPack1
/- The law of structures judged holds. -/
namespace Go.Proofs
open Go Go.Ev Go.Num
set_option linter.unusedVariables false
set_option linter.unusedSimpArgs false
set_option maxRecDepth 100000

theorem equ_rfl (z : Int) : m_eqv (.int .u64 z) (.int .u64 z) = true := by simp [m_eqv, veq]
theorem nn5 (x0 x1 x2 x3 x4 : Int) : m_nns [Value.int IntKind.i64 x0, Value.int IntKind.i64 x1, Value.int IntKind.i64 x2, Value.int IntKind.i64 x3, Value.int IntKind.i64 x4] = true := rfl
theorem mod_ne {m : Nat} (h : m ≤ 10) : (!decide (IntKind.wrap IntKind.u64 (IntKind.wrap IntKind.i64 (m_all (Int.ofNat m) + Int.ofNat 1)) = 0)) = true := by
  have e := all_eq (m := m) (by omega)
  have hA : 2 ^ m ≤ 1024 := Nat.pow_le_pow_right (n := 2) (by decide) h
  have hp := Nat.two_pow_pos m
  rw [show m_all (Int.ofNat m) = ((2 ^ m - 1 : Nat) : Int) from e]
  have e2 : ((2 ^ m - 1 : Nat) : Int) + Int.ofNat 1 = ((2 ^ m : Nat) : Int) := by
    obtain ⟨q, hq⟩ : ∃ q, 2 ^ m = q + 1 := ⟨2 ^ m - 1, by omega⟩
    rw [hq]
    simp
  rw [e2, wrI (by omega), wrapU' (by omega), decide_eq_false (by omega)]
  rfl
def oTrue : Outs := ⟨[6], [], fun vs ms os => vs = [some (.bool true)] ∧ ms = [] ∧ os = []⟩
def oNone : Outs := ⟨[], [], fun vs ms os => vs = [] ∧ ms = [] ∧ os = []⟩

def iQ1 (m : Nat) (p : Nat × Nat) (l : List (Nat × Nat)) (i : Nat) : OV → List Nat → OO → Prop := fun vs ms os => ∃ x0 x1 x2 x3 x4 : Int, vs = vF1 m (l.length + 1) (i : Nat) ∧ ms = [] ∧ os = oF1 (pcE (p :: l)) (m_ws (nbN m (zE (p :: l)) (p :: l).length)) x0 x1 x2 x3 x4 ∧ rng x0 ∧ rng x1 ∧ rng x2 ∧ rng x3 ∧ rng x4
def iJ1 (m : Nat) (p : Nat × Nat) (l : List (Nat × Nat)) (i s : Nat) : OV → List Nat → OO → Prop := fun vs ms os => ∃ x0 x1 x2 x3 x4 : Int, vs = vF1 m (l.length + 1) (i : Nat) ++ [some (I (s : Nat))] ∧ ms = [] ∧ os = oF1 (pcE (p :: l)) (m_ws (nbN m (zE (p :: l)) (p :: l).length)) x0 x1 x2 x3 x4 ∧ rng x0 ∧ rng x1 ∧ rng x2 ∧ rng x3 ∧ rng x4
def iF1 (m : Nat) (p : Nat × Nat) (l : List (Nat × Nat)) (j : Nat) : OV → List Nat → OO → Prop := fun vs ms os => ∃ i : Nat, i ≤ 2 ∧ j = 2 - i ∧ iQ1 m p l i vs ms os
theorem law1 (r : Mem) (hm : Tab r) (m : Nat) (h1 : 1 ≤ m) (hm10 : m ≤ 10) (p : Nat × Nat) (l : List (Nat × Nat)) (hE : okAll (m : Int) (zE (p :: l)) (p :: l).length = true) (hl : (p :: l).length ≤ 1000000) (a0 args : List Value) (hle : Nat.ble args.length 90 = true)
    (htm : TOk (SC r) (tFf1 a0 m (l.length + 1) (pcE (p :: l)) (m_ws (nbN m (zE (p :: l)) (p :: l).length)) (stF m (p :: l))))
    (hpre : run (SC r) 8167 90 1 (.seq Ff_0 (.seq Ff_1 (.seq Ff_2 Ff_3))) (lvlT (SC r) (tFf1 a0 m (l.length + 1) (pcE (p :: l)) (m_ws (nbN m (zE (p :: l)) (p :: l).length)) (stF m (p :: l))) .nil 1 1) none (Outs.ask 0 ⟨lvFf, [], fun vs ms os => ∃ j, iF1 m p l j vs ms os⟩) (fun _ => Outs.no.ask 0) (oTrue.ask 0) (sc0 8167 args) (tr0 8167 args) [] emptyA = okR) :
    SOk (SC r) 6 args emptyA fun v _ => v = .bool true := by
  have sm : ∀ l : List Value, m_same l l = true := same_rfl
  refine callLM (SC_ok r) (by kernel_rfl) ((bodySC r _).trans Ff_eq) (nt := 90) (by kernel_rfl) (rs := [.tmp 6]) (by kernel_rfl) 8167 hle (.step (.step (.step .base))) htm (tm := .nil) (L := 1) (d := 1) lvFf []
    (iF1 m p l) oNone oTrue (fun j => ⟨lvFf, [], fun vs ms os => ∃ i : Nat, i < 2 ∧ j = 2 - i ∧ iQ1 m p l i vs ms os⟩) lvFj [] (fun j k vs ms os => ∃ i s : Nat, i < 2 ∧ j = 2 - i ∧ s ≤ 5 ∧ k = 5 - s ∧ iJ1 m p l i s vs ms os)
    (fun j => ⟨lvFf, [], fun vs ms os => ∃ i : Nat, i < 2 ∧ j = 2 - i ∧ iQ1 m p l i vs ms os⟩) (fun j => ⟨lvFf, [], fun vs ms os => ∃ i : Nat, i < 2 ∧ j = 2 - i ∧ iQ1 m p l i vs ms os⟩) hpre ?_ ?_ ?_ ?_ ?_ ?_ ?_
  · rintro j vs ms os ⟨i, hi, rfl, x0, x1, x2, x3, x4, rfl, rfl, rfl, hr⟩
    refine ⟨_, TOk.nil, .nil, 1, 1, 1, ?_⟩
    have hn := fa1 r i m (l.length + 1) (pcE (p :: l)) (m_ws (nbN m (zE (p :: l)) (p :: l).length)) x0 x1 x2 x3 x4
    by_cases c : i < 2
    · simp only [dT (show (i : Int) < 2 by omega), cond_true, nn5, pcE_nn, ws_nn, Bool.and_true] at hn
      exact (hn _ _ _ _).trans (qq_ok ⟨i, c, rfl, x0, x1, x2, x3, x4, rfl, rfl, rfl, hr⟩)
    · simp only [dF (show ¬ (i : Int) < 2 by omega), cond_false] at hn
      exact (hn _ _ _ _).trans (qq_ok ⟨rfl, rfl, rfl⟩)
  · rintro j vs ms os ⟨i, hi, rfl, x0, x1, x2, x3, x4, rfl, rfl, rfl, hr⟩
    refine ⟨_, TOk.nil, .nil, 1, 1, 1, ?_⟩
    have hn := fb1 r i m (l.length + 1) (pcE (p :: l)) (m_ws (nbN m (zE (p :: l)) (p :: l).length)) x0 x1 x2 x3 x4
    simp only [cond_true, nn5, pcE_nn, ws_nn, Bool.and_true] at hn
    exact (hn _ _ _ _).trans (qq_ok ⟨5, i, 0, hi, rfl, by omega, rfl, x0, x1, x2, x3, x4, rfl, rfl, rfl, hr⟩)
  · rintro j k vs ms os ⟨i, s, hi, rfl, hs, rfl, x0, x1, x2, x3, x4, rfl, rfl, rfl, hr⟩
    refine ⟨_, htm, .nil, 1, 1, 1, ?_⟩
    obtain ⟨r0, r1, r2, r3, r4⟩ := hr
    have hn := fc1 r a0 i s m (l.length + 1) (pcE (p :: l)) (m_ws (nbN m (zE (p :: l)) (p :: l).length)) (stF m (p :: l)) x0 x1 x2 x3 x4
    by_cases c : s < 5
    · have e3 : IntKind.wrap IntKind.i64 ((s : Int) + Int.ofNat 1) = ((s + 1 : Nat) : Int) := by rw [wrI (by simp; omega)]; simp
      have hQ : ∃ k', k' < 5 - s ∧ ∃ i' s' : Nat, i' < 2 ∧ 2 - i = 2 - i' ∧ s' ≤ 5 ∧ k' = 5 - s' ∧ iJ1 m p l i' s' (vF1 m (l.length + 1) (i : Nat) ++ [some (I ((s + 1 : Nat) : Int))]) [] (oF1 (pcE (p :: l)) (m_ws (nbN m (zE (p :: l)) (p :: l).length)) x0 x1 x2 x3 x4) := ⟨5 - (s + 1), by omega, i, s + 1, hi, rfl, by omega, rfl, x0, x1, x2, x3, x4, rfl, rfl, rfl, r0, r1, r2, r3, r4⟩
      simp only [dT (show (s : Int) < 5 by omega), sm, rg_of r0, rg_of r1, rg_of r2, rg_of r3, rg_of r4, Bool.and_self, nn5, pcE_nn, ws_nn, Bool.and_true, cond_true, e3] at hn
      by_cases z : s = 0
      · have e : stF m (p :: l) (s : Nat) x0 x1 x2 x3 x4 = false := by subst z; exact st0 hm10 _ x0 x1 x2 x3 x4
        simp only [e, cond_false, dF (show ¬ (s : Int) ≥ 1 by omega)] at hn
        exact (hn _ _ _).trans (qq_ok hQ)
      · simp only [dT (show (s : Int) ≥ 1 by omega), cond_true] at hn
        cases e : stF m (p :: l) (s : Nat) x0 x1 x2 x3 x4 with
        | true =>
          simp only [e, cond_true] at hn
          exact (hn _ _ _).trans (qq_ok hQ)
        | false =>
          simp only [e, cond_false] at hn
          exact (hn _ _ _).trans (qq_ok hQ)
    · simp only [dF (show ¬ (s : Int) < 5 by omega), cond_false, nn5, pcE_nn, ws_nn, Bool.and_true, cond_true] at hn
      exact (hn _ _ _).trans (qq_ok ⟨i, hi, rfl, x0, x1, x2, x3, x4, rfl, rfl, rfl, r0, r1, r2, r3, r4⟩)
  · rintro j vs ms os ⟨i, hi, rfl, x0, x1, x2, x3, x4, rfl, rfl, rfl, hr⟩
    refine ⟨_, htm, .nil, 6, 6, 1, ?_⟩
    have hn := fd1 r a0 i m (l.length + 1) (pcE (p :: l)) (m_ws (nbN m (zE (p :: l)) (p :: l).length)) (stF m (p :: l)) x0 x1 x2 x3 x4
    simp only [sm, mod_ne hm10, eqv_rfl, equ_rfl, Bool.and_self, cond_true, nn5, pcE_nn, ws_nn, Bool.and_true] at hn
    exact (hn _ _ _).trans (qq_ok ⟨i, hi, rfl, _, _, _, _, _, rfl, rfl, rfl, rng_wrap _, rng_wrap _, rng_wrap _, rng_wrap _, rng_wrap _⟩)
  · rintro j vs ms os ⟨i, hi, rfl, x0, x1, x2, x3, x4, rfl, rfl, rfl, hr⟩
    refine ⟨_, TOk.nil, .nil, 1, 1, 1, ?_⟩
    have hn := fe1 r i m (l.length + 1) (pcE (p :: l)) (m_ws (nbN m (zE (p :: l)) (p :: l).length)) x0 x1 x2 x3 x4
    have e3 : IntKind.wrap IntKind.i64 ((i : Int) + Int.ofNat 1) = ((i + 1 : Nat) : Int) := by rw [wrI (by simp; omega)]; simp
    simp only [cond_true, nn5, pcE_nn, ws_nn, Bool.and_true, e3] at hn
    exact (hn _ _ _ _).trans (qq_ok ⟨2 - (i + 1), by omega, i + 1, by omega, rfl, x0, x1, x2, x3, x4, rfl, rfl, rfl, hr⟩)
  · rintro vs ms os ⟨rfl, rfl, rfl⟩
    exact ⟨_, TOk.cons TOk.nil (e0_ok (awake8.less hm)), .nil, 1, 1, 1, (fz r _ _ _).trans (qq_ok ⟨rfl, rfl, rfl⟩)⟩
  · rintro vs ms os ⟨rfl, rfl, rfl⟩
    exact ⟨_, mkA [], by kernel_rfl, rfl⟩

def iQ0 (m : Nat)  (i : Nat) : OV → List Nat → OO → Prop := fun vs ms os => ∃ x0 x1 x2 x3 x4 : Int, vs = vF0 m (i : Nat) ∧ ms = [] ∧ os = oF0 (m_ws (nbN m (zE []) 0)) x0 x1 x2 x3 x4 ∧ rng x0 ∧ rng x1 ∧ rng x2 ∧ rng x3 ∧ rng x4
def iJ0 (m : Nat)  (i s : Nat) : OV → List Nat → OO → Prop := fun vs ms os => ∃ x0 x1 x2 x3 x4 : Int, vs = vF0 m (i : Nat) ++ [some (I (s : Nat))] ∧ ms = [] ∧ os = oF0 (m_ws (nbN m (zE []) 0)) x0 x1 x2 x3 x4 ∧ rng x0 ∧ rng x1 ∧ rng x2 ∧ rng x3 ∧ rng x4
def iF0 (m : Nat)  (j : Nat) : OV → List Nat → OO → Prop := fun vs ms os => ∃ i : Nat, i ≤ 2 ∧ j = 2 - i ∧ iQ0 m i vs ms os
theorem law0 (r : Mem) (hm : Tab r) (m : Nat) (h1 : 1 ≤ m) (hm10 : m ≤ 10)  (hE : okAll (m : Int) (zE ([] : List (Nat × Nat))) ([] : List (Nat × Nat)).length = true) (hl : ([] : List (Nat × Nat)).length ≤ 1000000) (a0 args : List Value) (hle : Nat.ble args.length 90 = true)
    (htm : TOk (SC r) (tFf0 a0 m (m_ws (nbN m (zE []) 0)) (stF m [])))
    (hpre : run (SC r) 8167 90 1 (.seq Ff_0 (.seq Ff_1 (.seq Ff_2 Ff_3))) (lvlT (SC r) (tFf0 a0 m (m_ws (nbN m (zE []) 0)) (stF m [])) .nil 1 1) none (Outs.ask 0 ⟨lvFf, [], fun vs ms os => ∃ j, iF0 m j vs ms os⟩) (fun _ => Outs.no.ask 0) (oTrue.ask 0) (sc0 8167 args) (tr0 8167 args) [] emptyA = okR) :
    SOk (SC r) 6 args emptyA fun v _ => v = .bool true := by
  have sm : ∀ l : List Value, m_same l l = true := same_rfl
  refine callLM (SC_ok r) (by kernel_rfl) ((bodySC r _).trans Ff_eq) (nt := 90) (by kernel_rfl) (rs := [.tmp 6]) (by kernel_rfl) 8167 hle (.step (.step (.step .base))) htm (tm := .nil) (L := 1) (d := 1) lvFf []
    (iF0 m) oNone oTrue (fun j => ⟨lvFf, [], fun vs ms os => ∃ i : Nat, i < 2 ∧ j = 2 - i ∧ iQ0 m i vs ms os⟩) lvFj [] (fun j k vs ms os => ∃ i s : Nat, i < 2 ∧ j = 2 - i ∧ s ≤ 5 ∧ k = 5 - s ∧ iJ0 m i s vs ms os)
    (fun j => ⟨lvFf, [], fun vs ms os => ∃ i : Nat, i < 2 ∧ j = 2 - i ∧ iQ0 m i vs ms os⟩) (fun j => ⟨lvFf, [], fun vs ms os => ∃ i : Nat, i < 2 ∧ j = 2 - i ∧ iQ0 m i vs ms os⟩) hpre ?_ ?_ ?_ ?_ ?_ ?_ ?_
  · rintro j vs ms os ⟨i, hi, rfl, x0, x1, x2, x3, x4, rfl, rfl, rfl, hr⟩
    refine ⟨_, TOk.nil, .nil, 1, 1, 1, ?_⟩
    have hn := fa0 r i m (m_ws (nbN m (zE []) 0)) x0 x1 x2 x3 x4
    by_cases c : i < 2
    · simp only [dT (show (i : Int) < 2 by omega), cond_true, nn5, nn5, ws_nn, Bool.and_true] at hn
      exact (hn _ _ _ _).trans (qq_ok ⟨i, c, rfl, x0, x1, x2, x3, x4, rfl, rfl, rfl, hr⟩)
    · simp only [dF (show ¬ (i : Int) < 2 by omega), cond_false] at hn
      exact (hn _ _ _ _).trans (qq_ok ⟨rfl, rfl, rfl⟩)
  · rintro j vs ms os ⟨i, hi, rfl, x0, x1, x2, x3, x4, rfl, rfl, rfl, hr⟩
    refine ⟨_, TOk.nil, .nil, 1, 1, 1, ?_⟩
    have hn := fb0 r i m (m_ws (nbN m (zE []) 0)) x0 x1 x2 x3 x4
    simp only [cond_true, nn5, nn5, ws_nn, Bool.and_true] at hn
    exact (hn _ _ _ _).trans (qq_ok ⟨5, i, 0, hi, rfl, by omega, rfl, x0, x1, x2, x3, x4, rfl, rfl, rfl, hr⟩)
  · rintro j k vs ms os ⟨i, s, hi, rfl, hs, rfl, x0, x1, x2, x3, x4, rfl, rfl, rfl, hr⟩
    refine ⟨_, htm, .nil, 1, 1, 1, ?_⟩
    obtain ⟨r0, r1, r2, r3, r4⟩ := hr
    have hn := fc0 r a0 i s m (m_ws (nbN m (zE []) 0)) (stF m ([] : List (Nat × Nat))) x0 x1 x2 x3 x4
    by_cases c : s < 5
    · have e3 : IntKind.wrap IntKind.i64 ((s : Int) + Int.ofNat 1) = ((s + 1 : Nat) : Int) := by rw [wrI (by simp; omega)]; simp
      have hQ : ∃ k', k' < 5 - s ∧ ∃ i' s' : Nat, i' < 2 ∧ 2 - i = 2 - i' ∧ s' ≤ 5 ∧ k' = 5 - s' ∧ iJ0 m i' s' (vF0 m (i : Nat) ++ [some (I ((s + 1 : Nat) : Int))]) [] (oF0 (m_ws (nbN m (zE []) 0)) x0 x1 x2 x3 x4) := ⟨5 - (s + 1), by omega, i, s + 1, hi, rfl, by omega, rfl, x0, x1, x2, x3, x4, rfl, rfl, rfl, r0, r1, r2, r3, r4⟩
      simp only [dT (show (s : Int) < 5 by omega), sm, rg_of r0, rg_of r1, rg_of r2, rg_of r3, rg_of r4, Bool.and_self, nn5, nn5, ws_nn, Bool.and_true, cond_true, e3] at hn
      by_cases z : s = 0
      · have e : stF m ([] : List (Nat × Nat)) (s : Nat) x0 x1 x2 x3 x4 = false := by subst z; exact st0 hm10 _ x0 x1 x2 x3 x4
        simp only [e, cond_false, dF (show ¬ (s : Int) ≥ 1 by omega)] at hn
        exact (hn _ _ _).trans (qq_ok hQ)
      · simp only [dT (show (s : Int) ≥ 1 by omega), cond_true] at hn
        cases e : stF m ([] : List (Nat × Nat)) (s : Nat) x0 x1 x2 x3 x4 with
        | true =>
          simp only [e, cond_true] at hn
          exact (hn _ _ _).trans (qq_ok hQ)
        | false =>
          simp only [e, cond_false] at hn
          exact (hn _ _ _).trans (qq_ok hQ)
    · simp only [dF (show ¬ (s : Int) < 5 by omega), cond_false, nn5, nn5, ws_nn, Bool.and_true, cond_true] at hn
      exact (hn _ _ _).trans (qq_ok ⟨i, hi, rfl, x0, x1, x2, x3, x4, rfl, rfl, rfl, r0, r1, r2, r3, r4⟩)
  · rintro j vs ms os ⟨i, hi, rfl, x0, x1, x2, x3, x4, rfl, rfl, rfl, hr⟩
    refine ⟨_, htm, .nil, 6, 6, 1, ?_⟩
    have hn := fd0 r a0 i m (m_ws (nbN m (zE []) 0)) (stF m ([] : List (Nat × Nat))) x0 x1 x2 x3 x4
    simp only [sm, mod_ne hm10, eqv_rfl, equ_rfl, Bool.and_self, cond_true, nn5, nn5, ws_nn, Bool.and_true] at hn
    exact (hn _ _ _).trans (qq_ok ⟨i, hi, rfl, _, _, _, _, _, rfl, rfl, rfl, rng_wrap _, rng_wrap _, rng_wrap _, rng_wrap _, rng_wrap _⟩)
  · rintro j vs ms os ⟨i, hi, rfl, x0, x1, x2, x3, x4, rfl, rfl, rfl, hr⟩
    refine ⟨_, TOk.nil, .nil, 1, 1, 1, ?_⟩
    have hn := fe0 r i m (m_ws (nbN m (zE []) 0)) x0 x1 x2 x3 x4
    have e3 : IntKind.wrap IntKind.i64 ((i : Int) + Int.ofNat 1) = ((i + 1 : Nat) : Int) := by rw [wrI (by simp; omega)]; simp
    simp only [cond_true, nn5, nn5, ws_nn, Bool.and_true, e3] at hn
    exact (hn _ _ _ _).trans (qq_ok ⟨2 - (i + 1), by omega, i + 1, by omega, rfl, x0, x1, x2, x3, x4, rfl, rfl, rfl, hr⟩)
  · rintro vs ms os ⟨rfl, rfl, rfl⟩
    exact ⟨_, TOk.cons TOk.nil (e0_ok (awake8.less hm)), .nil, 1, 1, 1, (fz r _ _ _).trans (qq_ok ⟨rfl, rfl, rfl⟩)⟩
  · rintro vs ms os ⟨rfl, rfl, rfl⟩
    exact ⟨_, mkA [], by kernel_rfl, rfl⟩

theorem tF1_ok (r : Mem) (hm : Tab r) (m : Nat) (h1 : 1 ≤ m) (hm10 : m ≤ 10) (p : Nat × Nat) (l : List (Nat × Nat)) (hE : okAll (m : Int) (zE (p :: l)) (p :: l).length = true) (hl : (p :: l).length ≤ 1000000) {a0 : List Value} (hro : roVs a0 = true) (h : SOk (SC r) 7 a0 emptyA fun v A => v = vTa m (p :: l) ∧ A = mkA (oL (p :: l))) :
    TOk (SC r) (tFf1 a0 m (l.length + 1) (pcE (p :: l)) (m_ws (nbN m (zE (p :: l)) (p :: l).length)) (stF m (p :: l))) :=
  TOk.cons (TOk.cons (TOk.cons (TOk.cons (TOk.cons (TOk.cons TOk.nil (eAl_ok r (by omega))) (eRI_ok r hm10 hE)) (eIS1_ok r hm h1 hm10 hE hl)) (eOf1_ok r h1 hm10 hE hl)) (eTm1_ok r hro h)) (e0_ok (awake8.less hm))
theorem tF0_ok (r : Mem) (hm : Tab r) (m : Nat) (h1 : 1 ≤ m) (hm10 : m ≤ 10) {a0 : List Value} (hro : roVs a0 = true) (h : SOk (SC r) 7 a0 emptyA fun v A => v = vTa m [] ∧ A = mkA (oL [])) :
    TOk (SC r) (tFf0 a0 m (m_ws (nbN m (zE []) 0)) (stF m [])) :=
  TOk.cons (TOk.cons (TOk.cons (TOk.cons (TOk.cons (TOk.cons TOk.nil (eAl_ok r (by omega))) (eRI_ok r hm10 (E := []) rfl)) (eIS0_ok r hm h1 hm10)) (eOf0_ok r h1 hm10)) (entV_ok (tm0_ok r h) hro)) (e0_ok (awake8.less hm))

theorem gE_len (n most : Int) (len : Nat) (z : Nat → Int) (h1 : 1 ≤ most) (h2 : most ≤ 16) : (gE n most len z).length ≤ 1000000 := by
  have hg := (gM_ok n h1 h2).2.2
  unfold gE
  have := alE_len (fun k => (tmN (gM n most) z (min 40 len)).getD k 0) (gM n most) (gM n most)
  have : gM n most * gM n most ≤ 16 * 16 := Nat.mul_le_mul hg hg
  omega
theorem fivesR (r : Mem) (hm : Tab r) (n : Int) (b off len cap : Nat) (z : Nat → Int) (hz : rowAt r b off (2 * len) z) (x0 x1 x2 x3 x4 : Int) (r0 : rng x0) (r1 : rng x1) (r2 : rng x2) (r3 : rng x3) (r4 : rng x4) : GrT Tryd.prog r 6 [I n, RS2 b off len cap, .agg ⟨[I x0, I x1, I x2, I x3, I x4]⟩] (.bool true) := by
  have sm : ∀ l : List Value, m_same l l = true := same_rfl
  have hg := gM_ok n (most := 10) (by decide) (by decide)
  have ht := tame_row r n 10 (by decide) (by decide) b off len cap z hz
  have hE := gE_ok n 10 len z
  have hL := gE_len n 10 len z (by decide) (by decide)
  generalize gE n 10 len z = E at ht hE hL
  generalize gM n 10 = m at ht hE hg
  cases E with
  | nil =>
    refine GrT.ofS (C := SC r) rfl rfl rfl (law0 r hm m hg.1 (by omega) hE hL [I n, RS2 b off len cap, I 10] _ rfl (tF0_ok r hm m hg.1 (by omega) rfl ht) ?_)
    have hn := fpR0 r n b off len cap m (m_ws (nbN m (zE []) 0)) (stF m []) x0 x1 x2 x3 x4
    simp only [sm, nn5, ws_nn, Bool.and_true, cond_true] at hn
    exact (hn _ _ _).trans (qq_ok ⟨2, 0, by omega, rfl, x0, x1, x2, x3, x4, rfl, rfl, rfl, r0, r1, r2, r3, r4⟩)
  | cons p l =>
    refine GrT.ofS (C := SC r) rfl rfl rfl (law1 r hm m hg.1 (by omega) p l hE hL [I n, RS2 b off len cap, I 10] _ rfl (tF1_ok r hm m hg.1 (by omega) p l hE hL rfl ht) ?_)
    have hn := fpR1 r n b off len cap m (l.length + 1) (pcE (p :: l)) (m_ws (nbN m (zE (p :: l)) (p :: l).length)) (stF m (p :: l)) x0 x1 x2 x3 x4
    simp only [sm, nn5, pcE_nn, ws_nn, Bool.and_true, cond_true] at hn
    exact (hn _ _ _).trans (qq_ok ⟨2, 0, by omega, rfl, x0, x1, x2, x3, x4, rfl, rfl, rfl, r0, r1, r2, r3, r4⟩)
theorem fivesN (r : Mem) (hm : Tab r) (n : Int) (x0 x1 x2 x3 x4 : Int) (r0 : rng x0) (r1 : rng x1) (r2 : rng x2) (r3 : rng x3) (r4 : rng x4) : GrT Tryd.prog r 6 [I n, .slice none 0 0, .agg ⟨[I x0, I x1, I x2, I x3, I x4]⟩] (.bool true) := by
  have sm : ∀ l : List Value, m_same l l = true := same_rfl
  have hg := gM_ok n (most := 10) (by decide) (by decide)
  have ht := tame_nil r n 10 (by decide) (by decide) fun _ => 0
  have hE := gE_ok n 10 0 (fun _ => 0)
  have hL := gE_len n 10 0 (fun _ => 0) (by decide) (by decide)
  generalize gE n 10 0 (fun _ => 0) = E at ht hE hL
  generalize gM n 10 = m at ht hE hg
  cases E with
  | nil =>
    refine GrT.ofS (C := SC r) rfl rfl rfl (law0 r hm m hg.1 (by omega) hE hL [I n, .slice none 0 0, I 10] _ rfl (tF0_ok r hm m hg.1 (by omega) rfl ht) ?_)
    have hn := fpN0 r n m (m_ws (nbN m (zE []) 0)) (stF m []) x0 x1 x2 x3 x4
    simp only [sm, nn5, ws_nn, Bool.and_true, cond_true] at hn
    exact (hn _ _ _).trans (qq_ok ⟨2, 0, by omega, rfl, x0, x1, x2, x3, x4, rfl, rfl, rfl, r0, r1, r2, r3, r4⟩)
  | cons p l =>
    refine GrT.ofS (C := SC r) rfl rfl rfl (law1 r hm m hg.1 (by omega) p l hE hL [I n, .slice none 0 0, I 10] _ rfl (tF1_ok r hm m hg.1 (by omega) p l hE hL rfl ht) ?_)
    have hn := fpN1 r n m (l.length + 1) (pcE (p :: l)) (m_ws (nbN m (zE (p :: l)) (p :: l).length)) (stF m (p :: l)) x0 x1 x2 x3 x4
    simp only [sm, nn5, pcE_nn, ws_nn, Bool.and_true, cond_true] at hn
    exact (hn _ _ _).trans (qq_ok ⟨2, 0, by omega, rfl, x0, x1, x2, x3, x4, rfl, rfl, rfl, r0, r1, r2, r3, r4⟩)

theorem rng_lit {u : Value} (h : ArgInt .i64 u) : ∃ z, u = I z ∧ rng z := by
  obtain ⟨z, rfl, hz⟩ := h
  refine ⟨z, rfl, ?_⟩
  simp [Lit.wf, IntKind.max, IntKind.min, IntKind.signed, IntKind.bits] at hz
  unfold rng
  omega
theorem law_fives (r : Mem) (hm : ∀ b j u, tabM b j = some u → r b j = some u) (u0 u1 u2 : Value) (s0 : ArgInt .i64 u0) (s1 : ArgRowT r 2 (ArgInt .i64) u1) (s2 : ArgArr 5 (ArgInt .i64) u2) : GrT Tryd.prog r 6 [u0, u1, u2] (.bool true) := by
  obtain ⟨n, rfl, _⟩ := s0
  obtain ⟨la, rfl, hl, hx⟩ := s2
  match la, hl with
  | [a, b, c, d, e], _ =>
    obtain ⟨x0, rfl, r0⟩ := rng_lit (hx a (by simp))
    obtain ⟨x1, rfl, r1⟩ := rng_lit (hx b (by simp))
    obtain ⟨x2, rfl, r2⟩ := rng_lit (hx c (by simp))
    obtain ⟨x3, rfl, r3⟩ := rng_lit (hx d (by simp))
    obtain ⟨x4, rfl, r4⟩ := rng_lit (hx e (by simp))
    cases s1 with
    | nil => exact fivesN r hm n x0 x1 x2 x3 x4 r0 r1 r2 r3 r4
    | row b off len cap hl hc h =>
      refine fivesR r hm n b off len cap (fun j => ofI ((r b (off + j)).getD undef)) (fun j hj => ?_) x0 x1 x2 x3 x4 r0 r1 r2 r3 r4
      obtain ⟨u, hu, z, rfl, _⟩ := h j (by omega)
      show r b (off + j) = some (I (ofI ((r b (off + j)).getD undef)))
      rw [hu]
      rfl

end Go.Proofs

