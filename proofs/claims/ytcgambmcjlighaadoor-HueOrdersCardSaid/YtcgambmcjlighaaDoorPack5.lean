/- What the claim is proved with, part 5: the evaluator and the contracts of the calls. -/
import Derived.Test.YtcgambmcjlighaaDoorPack1
import Derived.Test.YtcgambmcjlighaaDoorPack4
import Derived.Test.YtcgambmcjlighaaDoorPack2
import Derived.Test.YtcgambmcjlighaaDoorPack3
/- Chapter 7: the example calls, run. -/
namespace Go.Proofs
open Go Go.Ev
set_option linter.unusedVariables false
set_option linter.unusedSimpArgs false
set_option maxRecDepth 100000

def mskV : Tr Nat := (.node (.node (.node (.node (.node (.node (.node .nil (some 11) .nil) (some 511) (.node .nil (some 5) .nil)) (some 196607) (.node (.node .nil (some 2035) .nil) (some 79) (.node .nil (some 0) .nil))) (some 51) (.node (.node (.node .nil (some 69) .nil) none (.node .nil (some 0) .nil)) (some 5) (.node (.node .nil (some 31) .nil) (some 7) (.node .nil (some 0) .nil)))) (some 4194247) (.node (.node (.node (.node .nil (some 1097975) .nil) (some 83) (.node .nil (some 443) .nil)) (some 967) (.node (.node .nil (some 5) .nil) (some 19) (.node .nil (some 0) .nil))) (some 2035) (.node (.node (.node .nil (some 63) .nil) (some 15) (.node .nil (some 0) .nil)) (some 1573343) (.node (.node .nil (some 27) .nil) (some 233455) (.node .nil (some 0) .nil))))) none (.node (.node (.node (.node (.node .nil (some 16778495) .nil) (some 29) (.node .nil (some 5) .nil)) (some 4093) (.node (.node .nil (some 23) .nil) none (.node .nil (some 0) .nil))) (some 51) (.node (.node (.node .nil (some 493) .nil) (some 13) (.node .nil (some 0) .nil)) (some 7347703) (.node .nil (some 223) (.node .nil (some 0) .nil)))) (some 4039) (.node (.node (.node .nil (some 435) (.node .nil (some 5) .nil)) (some 61) (.node (.node .nil (some 115) .nil) (some 15) (.node .nil (some 0) .nil))) (some 509) (.node (.node (.node .nil (some 95) .nil) (some 7) (.node .nil (some 0) .nil)) (some 243) (.node (.node .nil (some 59) .nil) (some 5) .nil))))) none (.node (.node (.node (.node (.node (.node .nil (some 4083) .nil) (some 5) (.node .nil (some 11) .nil)) (some 2035) (.node (.node .nil (some 435) .nil) (some 7) (.node .nil (some 0) .nil))) (some 1991) (.node (.node (.node .nil (some 23) .nil) none (.node .nil (some 0) .nil)) (some 19) (.node .nil none (.node .nil (some 0) .nil)))) (some 131015) (.node (.node (.node (.node .nil (some 31) .nil) (some 5) (.node .nil (some 435) .nil)) (some 243) (.node (.node .nil (some 5) .nil) (some 435) (.node .nil (some 0) .nil))) (some 2035) (.node (.node (.node .nil (some 963012398791) .nil) (some 786943) (.node .nil (some 0) .nil)) (some 2047) (.node (.node .nil (some 95) .nil) (some 48) (.node .nil (some 0) .nil))))) none (.node (.node (.node (.node (.node .nil (some 5) .nil) (some 65791) (.node .nil (some 1055) .nil)) (some 51) (.node (.node .nil (some 8389107) .nil) (some 23) (.node .nil (some 0) .nil))) (some 115) (.node (.node (.node .nil (some 72057602627870719) .nil) (some 234884973) (.node .nil (some 0) .nil)) (some 31) (.node (.node .nil (some 31) .nil) (some 917565) (.node .nil (some 0) .nil)))) (some 499) (.node (.node (.node (.node .nil (some 23) .nil) (some 31) (.node .nil (some 5) .nil)) none (.node (.node .nil (some 7) .nil) (some 19) (.node .nil (some 0) .nil))) (some 243) (.node (.node (.node .nil (some 66043) .nil) (some 2175) (.node .nil (some 0) .nil)) (some 2035) (.node (.node .nil (some 19) .nil) (some 5) .nil))))))
noncomputable abbrev CC (r : Mem) : Cfg := Cfg.ofRo Tryd.prog r
theorem CC_ok (r : Mem) : (CC r).Ok := Cfg.ofRo_ok evMixed evNames r

end Go.Proofs

/- Chapter 7: the example calls answer true. -/
namespace Go.Proofs
open Go Go.Ev
set_option linter.unusedVariables false
set_option linter.unusedSimpArgs false
set_option maxRecDepth 100000

theorem awake7 : GrT Tryd.prog tabM 15 [] (.bool true) := GrT.of (CC_ok tabM) TOk.nil .nil rfl ⟨1000, 40, by kernel_rfl⟩

end Go.Proofs

/- The law of orders holds. -/
namespace Go.Proofs
open Go Go.Ev Go.Num
set_option linter.unusedVariables false
set_option linter.unusedSimpArgs false
set_option maxRecDepth 100000

section
variable (r : Mem) (hm : Tab r) {m : Nat} (h1 : 1 ≤ m) (hm16 : m ≤ 16) {E : List (Nat × Nat)} (hE : okAll (m : Int) (zE E) E.length = true) (hL : E.length < 1000000) {x : XE} (hx : XOk m E x)
include hm h1 hm16 hE hL hx
theorem eHO_ok : EOk (SC r) 16 (eHO m x (m_ws (orL (wS E) m m)) (lsN (wS E) m m : Nat)) := fun args A hgd F hF kk γ W args' hw hR ha => by
 have hgd : gX m x args A = true := hgd
 obtain ⟨a, b, rfl⟩ := gX_two hgd
 refine ⟨fun hc => ?_, fun hc => nomatch hc⟩
 obtain ⟨sl, p1, h⟩ := gX_use hm (by omega) hx (l := []) rfl hgd hw hR ha
 have hof : ofV 0 (vOrd (wS E) m 0) = true := by simp [ofV, of1, gnd]
 rcases h with ⟨rfl, rfl⟩ | ⟨b0, off, rfl, hz⟩
 ·exact (pordN (memW W) (memW_tab hm hR) h1 hm16).ends (γ := γ) (A := A) hof (ws_gnd _) hF hw (memW_ro W) p1 ha
 ·exact (pordR (memW W) (memW_tab hm hR) h1 hm16 hE hL b0 off 0 hz).ends (γ := γ) (A := A) hof (ws_gnd _) hF hw (memW_ro W) p1 ha
theorem eHC_ok : EOk (SC r) 19 (eHC m x (crV (wS E) m) crE) := EOk.ent fun args A hg => by
 split at hg
 ·rename_i a b s
  refine POk.of rfl fun γ W args' hw hR ha => ?_
  obtain ⟨sl, p1, h⟩ := gX_use hm (by omega) hx (l := [I s]) rfl hg hw hR ha
  refine ⟨memW W, _, memW_ro W, p1, ?_⟩
  rcases h with ⟨rfl, rfl⟩ | ⟨b0, off, rfl, hz⟩
  ·exact pcorN (memW W) (memW_tab hm hR) h1 hm16 s
  ·exact pcorR (memW W) (memW_tab hm hR) h1 hm16 hE hL b0 off 0 hz s
 ·cases hg
end

theorem eQO_ok (r : Mem) {m : Nat} (h1 : 1 ≤ m) (hm16 : m ≤ 16) {E : List (Nat × Nat)} (hE : okAll (m : Int) (zE E) E.length = true) : EOk (SC r) 17 (eQO m (gR m E) (m_ws (orL (wS E) m m)) (lsN (wS E) m m : Nat)) := fun args A hgd F hF kk γ W args' hw hR ha => by
 have hgd : gG m (gR m E) args A = true := hgd
 obtain ⟨a, rfl⟩ := gG_one hgd
 refine ⟨fun hc => ?_, fun hc => nomatch hc⟩
 obtain ⟨b, k', p1, p2⟩ := gG_use hm16 (nbN_len m (zE E) E.length) (l := []) rfl hgd hw hR ha
 have h := rorder_ok (memW W) b k' m 0 hm16 (wS E) (fun k hk => by rw [wR_eq hm16 hE k hk]; exact p2 k hk) (fun k _ => wS_lt hm16 hE k) h1
 have hgm : GrM Tryd.prog (memW W) 17 [RS b k' m 0] (.tuple ⟨[rowR 0 m, I (lsN (wS E) m m : Nat)]⟩) (rowA (m_ws (orL (wS E) m m)) 3 1) := GrM.ofS (C := SC (memW W)) rfl rfl h
 have hof : ofV 0 (.tuple ⟨[rowR 0 m, I (lsN (wS E) m m : Nat)]⟩) = true := by simp [ofV, of1, gnd]
 exact hgm.ends (γ := γ) (A := A) hof (ws_gnd _) hF hw (memW_ro W) p1 ha
theorem eQC_ok (r : Mem) {m : Nat} (hm16 : m ≤ 16) {E : List (Nat × Nat)} (hE : okAll (m : Int) (zE E) E.length = true) : EOk (SC r) 20 (eQC m (gR m E) fun k => (corN (wS E) k m : Nat)) := EOk.ent fun args A hg => by
 split at hg
 ·rename_i a s
  refine POk.of rfl fun γ W args' hw hR ha => ?_
  obtain ⟨b, k', p1, p2⟩ := gG_use hm16 (nbN_len m (zE E) E.length) (l := [I s]) rfl hg hw hR ha
  exact ⟨memW W, _, memW_ro W, p1, rcore_ok (memW W) b k' m 0 hm16 (wS E) (fun k hk => by rw [wR_eq hm16 hE k hk]; exact p2 k hk) (fun k _ => wS_lt hm16 hE k) s⟩
 ·cases hg

noncomputable abbrev tLw (m : Nat) (x : XE) (E : List (Nat × Nat)) (t : Tbl) : Tbl := tPl m x (gR m E) (m_ws (orL (wS E) m m)) (lsN (wS E) m m : Nat) (crV (wS E) m) crE (fun k => (corN (wS E) k m : Nat)) t
theorem tLw_ok (r : Mem) (hm : Tab r) {m : Nat} (h1 : 1 ≤ m) (hm16 : m ≤ 16) {E : List (Nat × Nat)} (hE : okAll (m : Int) (zE E) E.length = true) (hL : E.length < 1000000) {x : XE} (hx : XOk m E x) {t : Tbl} (ht : TOk (SC r) t) : TOk (SC r) (tLw m x E t) := by
 have hi := eIt_ok r (ws := orL (wS E) m m) (by rw [orL_len]; omega)
 rw [orL_len] at hi
 exact TOk.cons (TOk.cons (TOk.cons (TOk.cons (TOk.cons (TOk.cons ht hi) (eQC_ok r hm16 hE)) (eQO_ok r h1 hm16 hE)) (eHC_ok r hm h1 hm16 hE hL hx)) (eHO_ok r hm h1 hm16 hE hL hx)) (e0_ok (awake7.less hm))
theorem tAw_ok (r : Mem) (hm : Tab r) : TOk (SC r) (tcons 15 (e0 (.bool true)) fun _ => none) := TOk.cons TOk.nil (e0_ok (awake7.less hm))

theorem lw1 (r : Mem) (hm : Tab r) {m : Nat} (h1 : 1 ≤ m) (hm16 : m ≤ 16) {E : List (Nat × Nat)} (hE : okAll (m : Int) (zE E) E.length = true) (hL : E.length < 1000000) (hx : XOk m E (some (E.length, pcE E))) {t : Tbl} (htm : TOk (SC r) (tLw m (some (E.length, pcE E)) E t)) (args : List Value) (hle : Nat.ble args.length 88 = true)
  (hpre : run (SC r) 131015 88 1 (.seq LW_0 (.seq LW_1 (.seq LW_2 (.seq LW_3 (.seq LW_4 (.seq LW_5 LW_6)))))) (lvlT (SC r) (tLw m (some (E.length, pcE E)) E t) .nil 1 1) none (Outs.ask 0 ⟨lvLW, [], fun vs ms os => ∃ j i : Nat, i ≤ 2 ∧ j = 2 - i ∧ ∃ set : Int, vs = vLW1 m E.length set (i : Nat) ∧ ms = [] ∧ os = oLW1 (pcE E) (gR m E)⟩) (fun _ => Outs.no.ask 0) (Outs.ask 0 ⟨[6], [], fun vs ms os => vs = [some (.bool true)] ∧ ms = [] ∧ os = []⟩) (sc0 131015 args) (tr0 131015 args) [] emptyA = okR) :
  SOk (SC r) 4 args emptyA fun v _ => v = .bool true := by
 have sm : ∀ l : List Value, m_same l l = true := same_rfl
 have ht0 := tLw_ok r hm h1 hm16 hE hL hx (t := fun _ => none) TOk.nil
 refine callL (SC_ok r) (by kernel_rfl) ((bodySC r _).trans LW_eq) (nt := 88) (by kernel_rfl) (rs := [.tmp 6]) (by kernel_rfl) 131015 hle (.step (.step (.step (.step (.step (.step .base)))))) htm (tm := .nil) (L := 1) (d := 1) lvLW []
  (fun j vs ms os => ∃ i : Nat, i ≤ 2 ∧ j = 2 - i ∧ ∃ set : Int, vs = vLW1 m E.length set (i : Nat) ∧ ms = [] ∧ os = oLW1 (pcE E) (gR m E))
  ⟨[], [], fun vs ms os => vs = [] ∧ ms = [] ∧ os = []⟩ ⟨[6], [], fun vs ms os => vs = [some (.bool true)] ∧ ms = [] ∧ os = []⟩ hpre ?_ ?_ ?_
 ·rintro j vs ms os ⟨i, hi, rfl, set, rfl, rfl, rfl⟩
  refine ⟨_, ht0, .nil, 1, 1, 1, ?_⟩
  have hn := hlB1 r set i E.length (pcE E) m (gR m E) (m_ws (orL (wS E) m m)) (lsN (wS E) m m : Nat) (crV (wS E) m) crE (fun k => (corN (wS E) k m : Nat))
  by_cases c : i < 2
  ·have e3 : IntKind.wrap IntKind.i64 ((i : Int) + Int.ofNat 1) = ((i + 1 : Nat) : Int) := by rw [wrI (by simp; omega)]; simp
   have hk : ∀ z : Int, (z != z) = false := fun z => by simp
   by_cases c1 : set < 0
   ·have q1 : crE set = Int.ofNat 1 := by unfold crE; rw [dT c1]; rfl
    have q2 : crV (wS E) m set = Int.ofNat 0 := by unfold crV; rw [dT c1]; rfl
    simp only [dT (show (i : Int) < 2 by omega), m_sm, sm, e3, pcE_nn, ws_nn, dT c1, q1, q2, hk, Bool.and_self, cond_true, cond_false] at hn
    exact (hn _ _ _).trans (qq_ok ⟨2 - (i + 1), by omega, i + 1, c, rfl, _, rfl, rfl, rfl⟩)
   ·by_cases c2 : set > 16
    ·have q1 : crE set = Int.ofNat 1 := by unfold crE; rw [dF c1, dT c2]; rfl
     have q2 : crV (wS E) m set = Int.ofNat 0 := by unfold crV; rw [dF c1, dT c2]; rfl
     simp only [dT (show (i : Int) < 2 by omega), m_sm, sm, e3, pcE_nn, ws_nn, dF c1, dT c2, q1, q2, hk, Bool.and_self, cond_true, cond_false] at hn
     exact (hn _ _ _).trans (qq_ok ⟨2 - (i + 1), by omega, i + 1, c, rfl, _, rfl, rfl, rfl⟩)
    ·have q1 : crE set = Int.ofNat 0 := by unfold crE; rw [dF c1, dF c2]; rfl
     have q2 : crV (wS E) m set = (corN (wS E) set m : Nat) := by unfold crV; rw [dF c1, dF c2]; rfl
     simp only [dT (show (i : Int) < 2 by omega), m_sm, sm, e3, pcE_nn, ws_nn, dF c1, dF c2, q1, q2, hk, Bool.and_self, cond_true, cond_false] at hn
     exact (hn _ _ _).trans (qq_ok ⟨2 - (i + 1), by omega, i + 1, c, rfl, _, rfl, rfl, rfl⟩)
  ·obtain rfl : i = 2 := by omega
   simp only [dF (show ¬ ((2 : Nat) : Int) < 2 by omega), cond_false] at hn
   exact (hn _ _ _).trans (qq_ok ⟨rfl, rfl, rfl⟩)
 ·rintro vs ms os ⟨rfl, rfl, rfl⟩
  exact ⟨_, tAw_ok r hm, .nil, 1, 1, 1, (hlC r _ _ _).trans (qq_ok ⟨rfl, rfl, rfl⟩)⟩
 ·rintro vs ms os ⟨rfl, rfl, rfl⟩
  exact ⟨_, mkA [], by kernel_rfl, rfl⟩
theorem lw0 (r : Mem) (hm : Tab r) {m : Nat} (h1 : 1 ≤ m) (hm16 : m ≤ 16) {E : List (Nat × Nat)} (hE : okAll (m : Int) (zE E) E.length = true) (hL : E.length < 1000000) (hx : XOk m E none) {t : Tbl} (htm : TOk (SC r) (tLw m none E t)) (args : List Value) (hle : Nat.ble args.length 88 = true)
  (hpre : run (SC r) 131015 88 1 (.seq LW_0 (.seq LW_1 (.seq LW_2 (.seq LW_3 (.seq LW_4 (.seq LW_5 LW_6)))))) (lvlT (SC r) (tLw m none E t) .nil 1 1) none (Outs.ask 0 ⟨lvLW, [], fun vs ms os => ∃ j i : Nat, i ≤ 2 ∧ j = 2 - i ∧ ∃ set : Int, vs = vLW0 m set (i : Nat) ∧ ms = [] ∧ os = oLW0 (gR m E)⟩) (fun _ => Outs.no.ask 0) (Outs.ask 0 ⟨[6], [], fun vs ms os => vs = [some (.bool true)] ∧ ms = [] ∧ os = []⟩) (sc0 131015 args) (tr0 131015 args) [] emptyA = okR) :
  SOk (SC r) 4 args emptyA fun v _ => v = .bool true := by
 have sm : ∀ l : List Value, m_same l l = true := same_rfl
 have ht0 := tLw_ok r hm h1 hm16 hE hL hx (t := fun _ => none) TOk.nil
 refine callL (SC_ok r) (by kernel_rfl) ((bodySC r _).trans LW_eq) (nt := 88) (by kernel_rfl) (rs := [.tmp 6]) (by kernel_rfl) 131015 hle (.step (.step (.step (.step (.step (.step .base)))))) htm (tm := .nil) (L := 1) (d := 1) lvLW []
  (fun j vs ms os => ∃ i : Nat, i ≤ 2 ∧ j = 2 - i ∧ ∃ set : Int, vs = vLW0 m set (i : Nat) ∧ ms = [] ∧ os = oLW0 (gR m E))
  ⟨[], [], fun vs ms os => vs = [] ∧ ms = [] ∧ os = []⟩ ⟨[6], [], fun vs ms os => vs = [some (.bool true)] ∧ ms = [] ∧ os = []⟩ hpre ?_ ?_ ?_
 ·rintro j vs ms os ⟨i, hi, rfl, set, rfl, rfl, rfl⟩
  refine ⟨_, ht0, .nil, 1, 1, 1, ?_⟩
  have hn := hlB0 r set i  m (gR m E) (m_ws (orL (wS E) m m)) (lsN (wS E) m m : Nat) (crV (wS E) m) crE (fun k => (corN (wS E) k m : Nat))
  by_cases c : i < 2
  ·have e3 : IntKind.wrap IntKind.i64 ((i : Int) + Int.ofNat 1) = ((i + 1 : Nat) : Int) := by rw [wrI (by simp; omega)]; simp
   have hk : ∀ z : Int, (z != z) = false := fun z => by simp
   by_cases c1 : set < 0
   ·have q1 : crE set = Int.ofNat 1 := by unfold crE; rw [dT c1]; rfl
    have q2 : crV (wS E) m set = Int.ofNat 0 := by unfold crV; rw [dT c1]; rfl
    simp only [dT (show (i : Int) < 2 by omega), m_sm, sm, e3, pcE_nn, ws_nn, dT c1, q1, q2, hk, Bool.and_self, cond_true, cond_false] at hn
    exact (hn _ _ _).trans (qq_ok ⟨2 - (i + 1), by omega, i + 1, c, rfl, _, rfl, rfl, rfl⟩)
   ·by_cases c2 : set > 16
    ·have q1 : crE set = Int.ofNat 1 := by unfold crE; rw [dF c1, dT c2]; rfl
     have q2 : crV (wS E) m set = Int.ofNat 0 := by unfold crV; rw [dF c1, dT c2]; rfl
     simp only [dT (show (i : Int) < 2 by omega), m_sm, sm, e3, pcE_nn, ws_nn, dF c1, dT c2, q1, q2, hk, Bool.and_self, cond_true, cond_false] at hn
     exact (hn _ _ _).trans (qq_ok ⟨2 - (i + 1), by omega, i + 1, c, rfl, _, rfl, rfl, rfl⟩)
    ·have q1 : crE set = Int.ofNat 0 := by unfold crE; rw [dF c1, dF c2]; rfl
     have q2 : crV (wS E) m set = (corN (wS E) set m : Nat) := by unfold crV; rw [dF c1, dF c2]; rfl
     simp only [dT (show (i : Int) < 2 by omega), m_sm, sm, e3, pcE_nn, ws_nn, dF c1, dF c2, q1, q2, hk, Bool.and_self, cond_true, cond_false] at hn
     exact (hn _ _ _).trans (qq_ok ⟨2 - (i + 1), by omega, i + 1, c, rfl, _, rfl, rfl, rfl⟩)
  ·obtain rfl : i = 2 := by omega
   simp only [dF (show ¬ ((2 : Nat) : Int) < 2 by omega), cond_false] at hn
   exact (hn _ _ _).trans (qq_ok ⟨rfl, rfl, rfl⟩)
 ·rintro vs ms os ⟨rfl, rfl, rfl⟩
  exact ⟨_, tAw_ok r hm, .nil, 1, 1, 1, (hlC r _ _ _).trans (qq_ok ⟨rfl, rfl, rfl⟩)⟩
 ·rintro vs ms os ⟨rfl, rfl, rfl⟩
  exact ⟨_, mkA [], by kernel_rfl, rfl⟩

theorem gE_lt (n : Int) (len : Nat) (z : Nat → Int) : (gE n 16 len z).length < 1000000 := by
 have hg := (gM_ok n (most := 16) (by decide) (by decide)).2.2
 unfold gE
 have := alE_len (fun k => (tmN (gM n 16) z (min 60 len)).getD k 0) (gM n 16) (gM n 16)
 have : gM n 16 * gM n 16 ≤ 16 * 16 := Nat.mul_le_mul hg hg
 omega
theorem hordR (r : Mem) (hm : Tab r) (n set : Int) (b off len cap : Nat) (z : Nat → Int) (hz : rowAt r b off (2 * len) z) : GrT Tryd.prog r 4 [I n, RS2 b off len cap, I set] (.bool true) := by
 have ht := tame_row r n 16 (by decide) (by decide) b off len cap z hz
 have sm : ∀ l : List Value, m_same l l = true := same_rfl
 have hk : ∀ z : Int, (z != z) = false := fun z => by simp
 have hg := gM_ok n (most := 16) (by decide) (by decide)
 have hE := gE_ok n 16 len z
 have hL := gE_lt n len z
 generalize gE n 16 len z = E at ht hE hL
 generalize gM n 16 = m at ht hE hg
 have h1 := hg.1
 have hm16 : m ≤ 16 := by omega
 cases E with
 | nil =>
  have htm := tLw_ok r hm h1 hm16 hE hL (x := none) (.inl ⟨rfl, rfl⟩) (t := tPl0 [I n, RS2 b off len cap, I 16] m (gR m [])) (TOk.cons (TOk.cons TOk.nil (eOf0_ok r h1 hm16)) (entV_ok (tm0_ok r ht) rfl))
  refine GrT.ofS (C := SC r) rfl rfl rfl (lw0 r hm h1 hm16 hE hL (.inl ⟨rfl, rfl⟩) htm [I n, RS2 b off len cap, I set] rfl ?_)
  clear htm
  unfold tLw
  have hn := hlAR0 r n set b off len cap m (gR m []) (m_ws (orL (wS []) m m)) (lsN (wS []) m m : Nat) (crV (wS []) m) crE (fun k => (corN (wS []) k m : Nat))
  simp only [m_sm, sm, hk, ws_nn, Bool.and_self, cond_true, cond_false] at hn
  exact (hn _ _ _).trans (qq_ok ⟨2, 0, by omega, rfl, set, rfl, rfl, rfl⟩)
 | cons p l =>
  have htm := tLw_ok r hm h1 hm16 hE hL (x := some ((p :: l).length, pcE (p :: l))) (.inr rfl) (t := tPl1 [I n, RS2 b off len cap, I 16] m (l.length + 1) (pcE (p :: l)) (gR m (p :: l))) (TOk.cons (TOk.cons TOk.nil (eOf1_ok r h1 hm16 hE (by omega))) (eTm1_ok r rfl ht))
  refine GrT.ofS (C := SC r) rfl rfl rfl (lw1 r hm h1 hm16 hE hL (.inr rfl) htm [I n, RS2 b off len cap, I set] rfl ?_)
  clear htm
  unfold tLw
  have hn := hlAR1 r n set b off len cap (l.length + 1) (pcE (p :: l)) m (gR m (p :: l)) (m_ws (orL (wS (p :: l)) m m)) (lsN (wS (p :: l)) m m : Nat) (crV (wS (p :: l)) m) crE (fun k => (corN (wS (p :: l)) k m : Nat))
  simp only [m_sm, sm, hk, pcE_nn, ws_nn, Bool.and_self, cond_true, cond_false] at hn
  exact (hn _ _ _).trans (qq_ok ⟨2, 0, by omega, rfl, set, rfl, rfl, rfl⟩)
theorem hordN (r : Mem) (hm : Tab r) (n set : Int) : GrT Tryd.prog r 4 [I n, .slice none 0 0, I set] (.bool true) := by
 have ht := tame_nil r n 16 (by decide) (by decide) fun _ => 0
 have sm : ∀ l : List Value, m_same l l = true := same_rfl
 have hk : ∀ z : Int, (z != z) = false := fun z => by simp
 have hg := gM_ok n (most := 16) (by decide) (by decide)
 have hE := gE_ok n 16 0 (fun _ => 0)
 have hL := gE_lt n 0 (fun _ => 0)
 generalize gE n 16 0 (fun _ => 0) = E at ht hE hL
 generalize gM n 16 = m at ht hE hg
 have h1 := hg.1
 have hm16 : m ≤ 16 := by omega
 cases E with
 | nil =>
  have htm := tLw_ok r hm h1 hm16 hE hL (x := none) (.inl ⟨rfl, rfl⟩) (t := tPl0 [I n, .slice none 0 0, I 16] m (gR m [])) (TOk.cons (TOk.cons TOk.nil (eOf0_ok r h1 hm16)) (entV_ok (tm0_ok r ht) rfl))
  refine GrT.ofS (C := SC r) rfl rfl rfl (lw0 r hm h1 hm16 hE hL (.inl ⟨rfl, rfl⟩) htm [I n, .slice none 0 0, I set] rfl ?_)
  clear htm
  unfold tLw
  have hn := hlAN0 r n set m (gR m []) (m_ws (orL (wS []) m m)) (lsN (wS []) m m : Nat) (crV (wS []) m) crE (fun k => (corN (wS []) k m : Nat))
  simp only [m_sm, sm, hk, ws_nn, Bool.and_self, cond_true, cond_false] at hn
  exact (hn _ _ _).trans (qq_ok ⟨2, 0, by omega, rfl, set, rfl, rfl, rfl⟩)
 | cons p l =>
  have htm := tLw_ok r hm h1 hm16 hE hL (x := some ((p :: l).length, pcE (p :: l))) (.inr rfl) (t := tPl1 [I n, .slice none 0 0, I 16] m (l.length + 1) (pcE (p :: l)) (gR m (p :: l))) (TOk.cons (TOk.cons TOk.nil (eOf1_ok r h1 hm16 hE (by omega))) (eTm1_ok r rfl ht))
  refine GrT.ofS (C := SC r) rfl rfl rfl (lw1 r hm h1 hm16 hE hL (.inr rfl) htm [I n, .slice none 0 0, I set] rfl ?_)
  clear htm
  unfold tLw
  have hn := hlAN1 r n set (l.length + 1) (pcE (p :: l)) m (gR m (p :: l)) (m_ws (orL (wS (p :: l)) m m)) (lsN (wS (p :: l)) m m : Nat) (crV (wS (p :: l)) m) crE (fun k => (corN (wS (p :: l)) k m : Nat))
  simp only [m_sm, sm, hk, pcE_nn, ws_nn, Bool.and_self, cond_true, cond_false] at hn
  exact (hn _ _ _).trans (qq_ok ⟨2, 0, by omega, rfl, set, rfl, rfl, rfl⟩)

theorem law_orders (r : Mem) (hm : ∀ b j u, tabM b j = some u → r b j = some u) (u0 u1 u2 : Value) (s0 : ArgInt .i64 u0) (s1 : ArgRowT r 2 (ArgInt .i64) u1) (s2 : ArgInt .i64 u2) : GrT Tryd.prog r 4 [u0, u1, u2] (.bool true) := by
 obtain ⟨n, rfl, _⟩ := s0
 obtain ⟨set, rfl, _⟩ := s2
 cases s1 with
 | nil => exact hordN r hm n set
 | row b off len cap hl hc h =>
  refine hordR r hm n set b off len cap (fun j => ofI ((r b (off + j)).getD undef)) fun j hj => ?_
  obtain ⟨u, hu, z, rfl, _⟩ := h j (by omega)
  show r b (off + j) = some (I (ofI ((r b (off + j)).getD undef)))
  rw [hu]
  rfl

end Go.Proofs

