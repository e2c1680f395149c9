/- What the claim is proved with, part 2: the evaluator and the contracts of the calls. -/
import Derived.Test.YtalojadjanjkeaaGreatDoorPack1
import Derived.Test.YtalojadjanjkeaaGreatDoorEvCanR
/- A regatta is fair: what the call answers. -/
namespace Go.Proofs
open Go Go.Ev Go.Num
set_option linter.unusedVariables false
set_option linter.unusedSimpArgs false
set_option maxRecDepth 100000

theorem isU_U (z : Int) : isI .u64 (U z) = true := rfl
theorem ofI_U (z : Int) : ofI (U z) = z := rfl
theorem eqv_u (a : Int) : m_eqv (U a) (U a) = true := by simp [m_eqv, veq]
section
variable {r : Mem} {T : List (List Bool)}
def WdT (T : List (List Bool)) (w : Nat → Nat) : Prop := (∀ j, w j < 4096) ∧ ∀ j k, j < T.length → k < T.length → (w j).testBit k = gT T j k
theorem fair_ok {w : Nat → Nat} (hw : WdT T w) (hn : T.length ≤ 12) : GrT Tryz.prog r 56 [.agg ⟨rgC T.length w⟩] (.bool (fairB T T.length)) := by
 rw [← if_fair]
 generalize hv : ifO T T.length = v
 let E : Outs := ⟨[2], [], fun vs ms os => vs = [some (.bool v)] ∧ ms = [] ∧ os = []⟩
 refine GrT.ofS (C := SC r) rfl rfl rfl (callO (SC_ok r) (by kernel_rfl) ((bodySC r _).trans IF_eq) (nt := 35) (by kernel_rfl) (rs := [.tmp 2]) (by kernel_rfl) 3295 rfl E ?_ fun γ W F kk hwr hF hro h0' => ?_)
 ·rintro vs ms os ⟨rfl, rfl, rfl⟩
  exact ⟨_, mkA [], by kernel_rfl, rfl⟩
 have h0' : ∀ i, 0 ≤ i → γ i = none := h0'
 have nn := rgC_nn T.length w
 have w1 : ∀ k : Nat, k ≤ 1000 → IntKind.wrap IntKind.i64 ((k : Int) + ((1 : Nat) : Int)) = ((k + 1 : Nat) : Int) := fun k hk => inc1' (by omega)
 have e0 : ∀ o k : Nat, Nat.add o (Nat.mul k 1) = o + k := fun o k => by simp
 have hb := fun j k (hk : k ≤ 16) => has_bit (hw.1 j) hk
 simp only [Int.ofNat_eq_natCast] at hb
 have no : ∀ i, i < T.length → (ifR T i i && !gT T i i) = false → v = false := fun i hi h => by
  have hno : ¬ ifO T T.length = true := fun h2 => by
   have h3 := (ifO_all.1 h2) i hi
   have h4 : ifR T i i = true := ifR_all.2 h3.1
   rw [h4, h3.2] at h
   cases h
  rw [← hv]
  simpa using hno
 have e00 : (rgC T.length w)[0]? = some (I (T.length : Nat)) := rfl
 refine Go.Ev.Reach.after3R (SC_ok r) TOk.nil (tm := .nil) (L := 1) (L' := 1) (d := 1) hF hro h0' (.step .base)
  (o1 := ⟨[1, 6, 7], [], fun vs ms os => vs = vI3 T.length 0 ∧ ms = [] ∧ os = [oRg (rgC T.length w) 0]⟩)
  (o2 := ⟨[], [], fun vs ms os => v = true ∧ vs = [] ∧ ms = [] ∧ os = []⟩) [] (fun p hp => nomatch hp) ?_ ?_ ?_
 ·rintro vs ms os ⟨rfl, rfl, rfl⟩
  refine Go.Ev.Reach.blockC (Go.Ev.Reach.loopC (j := T.length) (lv := [1, 6, 7]) (fl := []) (I := fun j vs ms os => ∃ i : Nat, i ≤ T.length ∧ j = T.length - i ∧ ifO T i = true ∧ vs = vI3 T.length i ∧ ms = [] ∧ os = [oRg (rgC T.length w) 0]) (fun j vs ms os hI => ?_) ⟨0, by omega, rfl, rfl, rfl, rfl, rfl⟩)
  obtain ⟨i, hi, rfl, hf, rfl, rfl, rfl⟩ := hI
  have hB := ifB r T.length i (rgC T.length w)
  simp only [Int.ofNat_eq_natCast, nn, Bool.and_true, cond_true] at hB
  by_cases c : i < T.length
  ·simp only [dT (show (i : Int) < (T.length : Int) by omega), cond_true] at hB
   refine Go.Ev.Reach.afterR (SC_ok r) TOk.nil (tm := .nil) (L := 1) (L' := 1) (d := 1) hF hro h0' (.step .base) (o1 := ⟨[1, 6, 7], [], fun vs ms os => vs = vI3 T.length i ∧ ms = [] ∧ os = [oRg (rgC T.length w) 0]⟩) [(0, ⟨[], [], fun vs ms os => v = true ∧ vs = [] ∧ ms = [] ∧ os = []⟩)] (fun p hp => by simp only [List.mem_cons, List.not_mem_nil, or_false] at hp; subst hp; rfl) (fun vs ms os hq => ?_) ((hB _ _ _ _).trans (qq_ok ⟨rfl, rfl, rfl⟩))
   obtain ⟨rfl, rfl, rfl⟩ := hq
   refine Go.Ev.Reach.seqC (o1 := ⟨[1, 6, 7], [], fun vs ms os => (ifR T i i = true ∧ gT T i i = false) ∧ vs = vI3 T.length i ∧ ms = [] ∧ os = [oRg (rgC T.length w) 0]⟩) (Go.Ev.Reach.blockC ?_) fun vs ms os hq => ?_
   ·have hD := ifD r T.length i (rgC T.length w)
    simp only [Int.ofNat_eq_natCast, nn, Bool.and_true, cond_true] at hD
    refine Go.Ev.Reach.after3R (SC_ok r) TOk.nil (tm := .nil) (L := 1) (L' := 1) (d := 1) hF hro h0' (.step .base)
     (o1 := ⟨[1, 3, 6, 7, 10, 11], [], fun vs ms os => vs = vI6 T.length i 0 ∧ ms = [] ∧ os = [oRg (rgC T.length w) 0]⟩)
     (o2 := ⟨[1, 3, 6, 7], [], fun vs ms os => ifR T i i = true ∧ vs = [some (pq 0), some (I (i : Nat)), some (I (T.length : Nat)), some (I (i : Nat))] ∧ ms = [] ∧ os = [oRg (rgC T.length w) 0]⟩) [] (fun p hp => nomatch hp) ?_ ?_ ((hD _ _ _ _).trans (qq_ok ⟨rfl, rfl, rfl⟩))
    ·rintro vs ms os ⟨rfl, rfl, rfl⟩
     refine Go.Ev.Reach.blockC (Go.Ev.Reach.loopC (j := i) (lv := [1, 3, 6, 7, 10, 11]) (fl := []) (I := fun j vs ms os => ∃ k : Nat, k ≤ i ∧ j = i - k ∧ ifR T i k = true ∧ vs = vI6 T.length i k ∧ ms = [] ∧ os = [oRg (rgC T.length w) 0]) (fun j vs ms os hI => ?_) ⟨0, by omega, rfl, rfl, rfl, rfl, rfl⟩)
     obtain ⟨k, hk, rfl, hr, rfl, rfl, rfl⟩ := hI
     refine Go.Ev.Reach.segR (SC_ok r) TOk.nil (tm := .nil) (L := 1) (L' := 1) (d := 2) hF hro h0' [(2, ⟨[1, 3, 6, 7], [], fun vs ms os => ifR T i i = true ∧ vs = [some (pq 0), some (I (i : Nat)), some (I (T.length : Nat)), some (I (i : Nat))] ∧ ms = [] ∧ os = [oRg (rgC T.length w) 0]⟩)] (fun p hp => by simp only [List.mem_cons, List.not_mem_nil, or_false] at hp; subst hp; rfl) ?_
     have hn' := ifE r T.length i k (rgC T.length w)
     simp only [Int.ofNat_eq_natCast, Int.toNat_natCast, nn, Bool.and_true, cond_true] at hn'
     by_cases ck : k < i
     ·have b1 : Nat.blt i 12 = true := Nat.ble_eq_true_of_le (by omega)
      have b2 : Nat.blt k 12 = true := Nat.ble_eq_true_of_le (by omega)
      have g1 : (rgC T.length w)[1 + i]? = some (U ((w i : Nat) : Int)) := rgC_get (by omega)
      have g2 : (rgC T.length w)[1 + k]? = some (U ((w k : Nat) : Int)) := rgC_get (by omega)
      simp only [dT (show (k : Int) < (i : Int) by omega), b1, b2, e0, g1, g2, isU_U, cond_true] at hn'
      dsimp +instances only [ofI_U] at hn'
      simp only [hb i k (by omega), hb k i (by omega), hw.2 i k c (by omega), hw.2 k i (by omega) c, eqv_u, cond_true, w1 k (by omega)] at hn'
      have stop : (gT T i k == gT T k i) = true → v = false := fun h => no i c (by
       have hno : ¬ ifR T i i = true := fun h2 => by
        have := (ifR_all.1 h2) k ck
        rw [h] at this
        cases this
       rw [show ifR T i i = false by simpa using hno, Bool.false_and])
      cases q1 : gT T i k <;> cases q2 : gT T k i <;> simp only [q1, q2, cond_true, cond_false] at hn' <;> first
       | exact (hn' _ _ _).trans (qq_ok ⟨i - (k + 1), by omega, k + 1, ck, rfl, by simp only [ifR, hr, q1, q2]; rfl, rfl, rfl, rfl⟩)
       | exact (hn' _ _ _).trans (qq_ok ⟨by rw [stop (by rw [q1, q2]; rfl)], rfl, rfl⟩)
     ·obtain rfl : k = i := by omega
      simp only [dF (show ¬ (k : Int) < (k : Int) by omega), cond_false] at hn'
      exact (hn' _ _ _).trans (qq_ok ⟨hr, rfl, rfl, rfl⟩)
    ·rintro vs ms os ⟨hr, rfl, rfl, rfl⟩
     refine Go.Ev.Reach.segR (SC_ok r) TOk.nil (tm := .nil) (L := 1) (L' := 1) (d := 2) hF hro h0' [] (fun p hp => nomatch hp) ?_
     have hn' := ifF r T.length i (rgC T.length w)
     have b1 : Nat.blt i 12 = true := Nat.ble_eq_true_of_le (by omega)
     have g1 : (rgC T.length w)[1 + i]? = some (U ((w i : Nat) : Int)) := rgC_get (by omega)
     simp only [Int.ofNat_eq_natCast, Int.toNat_natCast, nn, Bool.and_true, b1, e0, g1, isU_U, cond_true] at hn'
     dsimp +instances only [ofI_U] at hn'
     simp only [hb i i (by omega), hw.2 i i c c] at hn'
     cases q1 : gT T i i with
     | true =>
      simp only [q1, cond_true] at hn'
      exact (hn' _ _ _).trans (qq_ok ⟨by rw [no i c (by rw [q1]; cases ifR T i i <;> rfl)], rfl, rfl⟩)
     | false =>
      simp only [q1, cond_false] at hn'
      exact (hn' _ _ _).trans (qq_ok ⟨⟨hr, rfl⟩, rfl, rfl, rfl⟩)
   ·obtain ⟨⟨hr, hg⟩, rfl, rfl, rfl⟩ := hq
    refine Go.Ev.Reach.segR (SC_ok r) TOk.nil (tm := .nil) (L := 1) (L' := 1) (d := 1) hF hro h0' [] (fun p hp => nomatch hp) ?_
    have hn' := ifG r T.length i (rgC T.length w)
    simp only [Int.ofNat_eq_natCast, nn, Bool.and_true, cond_true, w1 i (by omega)] at hn'
    exact (hn' _ _ _ _).trans (qq_ok ⟨T.length - (i + 1), by omega, i + 1, c, rfl, by simp only [ifO, hf, hr, hg]; rfl, rfl, rfl, rfl⟩)
  ·obtain rfl : i = T.length := by omega
   simp only [dF (show ¬ (T.length : Int) < (T.length : Int) by omega), cond_false] at hB
   exact Go.Ev.Reach.afterR (SC_ok r) TOk.nil (tm := .nil) (L := 1) (L' := 1) (d := 1) hF hro h0' (.step .base) (o1 := ⟨[1, 6, 7], [], fun _ _ _ => False⟩) [(0, ⟨[], [], fun vs ms os => v = true ∧ vs = [] ∧ ms = [] ∧ os = []⟩)] (fun p hp => by simp only [List.mem_cons, List.not_mem_nil, or_false] at hp; subst hp; rfl) (fun vs ms os hq => hq.elim) ((hB _ _ _ _).trans (qq_ok ⟨hv.symm.trans hf, rfl, rfl, rfl⟩))
 ·rintro vs ms os ⟨rfl, rfl, rfl, rfl⟩
  refine Go.Ev.Reach.segR (SC_ok r) TOk.nil (tm := .nil) (L := 1) (L' := 1) (d := 1) hF hro h0' [] (fun p hp => nomatch hp) ?_
  exact (ifH r _ _ _ _).trans (qq_ok ⟨rfl, rfl, rfl⟩)
 ·have hn' := ifA r (rgC T.length w)
  simp only [e00, isI_I, cond_true, nn, Bool.and_true] at hn'
  dsimp +instances only [ofI_I] at hn'
  exact (hn' _ _ _ _).trans (qq_ok ⟨rfl, rfl, rfl⟩)
end

end Go.Proofs

/- math/bits.OnesCount64: how many bits, of numbers below 65536. -/
set_option linter.unusedVariables false
set_option linter.unusedSimpArgs false
namespace Go.Num

def oN1 (x : Nat) : Nat := ((x / 2) &&& 6148914691236517205) + (x &&& 6148914691236517205)
def oN2 (x : Nat) : Nat := ((x / 4) &&& 3689348814741910323) + (x &&& 3689348814741910323)
def oN3 (x : Nat) : Nat := (x / 16 + x) &&& 1085102592571150095
def oN4 (x : Nat) : Nat := x + x / 256
def oN5 (x : Nat) : Nat := x + x / 65536
def oN6 (x : Nat) : Nat := x + x / 4294967296
theorem popN_succ (f m : Nat) : popN (f + 1) m = m % 2 + popN f (m / 2) := by
 rw [popN]
 split
 ·rename_i h; rw [h, popN_zero]
 ·rfl
theorem pop_split (f h l : Nat) (hl : l < 256) : popN (f + 8) (256 * h + l) = popN f h + popN 8 l := by
 simp only [show f + 8 = (((((((f + 1) + 1) + 1) + 1) + 1) + 1) + 1) + 1 by rfl, popN_succ, Nat.div_div_eq_div_mul, Nat.reduceMul]
 have e : (256 * h + l) / 256 = h := by omega
 rw [e, show popN 0 (l / 256) = 0 from rfl]
 omega
theorem land_split {a b c d : Nat} (hb : b < 256) (hd : d < 256) : (256 * a + b) &&& (256 * c + d) = 256 * (a &&& c) + (b &&& d) := by
 have hbd : b &&& d < 256 := Nat.lt_of_le_of_lt Nat.and_le_left hb
 apply Nat.eq_of_testBit_eq
 intro i
 rw [Nat.testBit_and, show 256 = 2 ^ 8 by rfl, Nat.testBit_two_pow_mul_add a hb, Nat.testBit_two_pow_mul_add c hd, Nat.testBit_two_pow_mul_add (a &&& c) hbd]
 split
 ·rw [Nat.testBit_and]
 ·rw [Nat.testBit_and]
def c1 (x : Nat) : Nat := ((x / 2) &&& 85) + (x &&& 85)
def c2 (x : Nat) : Nat := ((x / 4) &&& 51) + (x &&& 51)
def c3 (x : Nat) : Nat := (x / 16 + x) &&& 15
theorem c_all : ∀ l : Fin 256, c1 l.val < 171 ∧ c2 (c1 l.val) < 69 ∧ c2 (c1 l.val) % 16 < 5 ∧ c3 (c2 (c1 l.val)) = popN 8 l.val := by decide +kernel
theorem m1_all : ∀ (t : Fin 2) (l : Fin 256), (128 * t.val + l.val / 2) &&& 85 = (l.val / 2) &&& 85 := by decide +kernel
theorem m2_all : ∀ (t : Fin 4) (l : Fin 256), (64 * t.val + l.val / 4) &&& 51 = (l.val / 4) &&& 51 := by decide +kernel
theorem m3_all : ∀ (t : Fin 5) (l : Fin 69), (16 * t.val + l.val / 16 + l.val) &&& 15 = (l.val / 16 + l.val) &&& 15 := by decide +kernel
theorem a1_all : ∀ l : Fin 256, l.val &&& 24019198012642645 = l.val &&& 85 ∧ l.val &&& 14411518807585587 = l.val &&& 51 ∧ l.val &&& 4238682002231055 = l.val &&& 15 := by decide +kernel

theorem oN1_split {h l : Nat} (hh : h < 256) (hl : l < 256) : oN1 (256 * h + l) = 256 * c1 h + c1 l := by
 unfold oN1
 have e : (256 * h + l) / 2 = 256 * (h / 2) + (128 * (h % 2) + l / 2) := by omega
 rw [e, show 6148914691236517205 = 256 * 24019198012642645 + 85 by rfl, land_split (by omega) (by omega), land_split hl (by omega)]
 have q1 := (a1_all ⟨h / 2, by omega⟩).1
 have q2 := (a1_all ⟨h, hh⟩).1
 have q3 := m1_all ⟨h % 2, by omega⟩ ⟨l, hl⟩
 simp only at q1 q2 q3
 rw [q1, q2, q3]
 unfold c1
 omega
theorem oN2_split {h l : Nat} (hh : h < 256) (hl : l < 256) : oN2 (256 * h + l) = 256 * c2 h + c2 l := by
 unfold oN2
 have e : (256 * h + l) / 4 = 256 * (h / 4) + (64 * (h % 4) + l / 4) := by omega
 rw [e, show 3689348814741910323 = 256 * 14411518807585587 + 51 by rfl, land_split (by omega) (by omega), land_split hl (by omega)]
 have q1 := (a1_all ⟨h / 4, by omega⟩).2.1
 have q2 := (a1_all ⟨h, hh⟩).2.1
 have q3 := m2_all ⟨h % 4, by omega⟩ ⟨l, hl⟩
 simp only at q1 q2 q3
 rw [q1, q2, q3]
 unfold c2
 omega
theorem oN3_split {h l : Nat} (hh : h < 69) (hm : h % 16 < 5) (hl : l < 69) : oN3 (256 * h + l) = 256 * c3 h + c3 l := by
 unfold oN3
 have e : (256 * h + l) / 16 + (256 * h + l) = 256 * (h / 16 + h) + (16 * (h % 16) + l / 16 + l) := by omega
 rw [e, show 1085102592571150095 = 256 * 4238682002231055 + 15 by rfl, land_split (by omega) (by omega)]
 have q1 := (a1_all ⟨h / 16 + h, by omega⟩).2.2
 have q3 := m3_all ⟨h % 16, hm⟩ ⟨l, hl⟩
 simp only at q1 q3
 rw [q1, q3]
 rfl

theorem oN_all {x : Nat} (hx : x < 65536) : oN1 x < 1000000 ∧ oN2 (oN1 x) < 1000000 ∧ oN3 (oN2 (oN1 x)) < 1000000 ∧ oN4 (oN3 (oN2 (oN1 x))) < 1000000 ∧ oN5 (oN4 (oN3 (oN2 (oN1 x)))) < 1000000 ∧ oN6 (oN5 (oN4 (oN3 (oN2 (oN1 x))))) < 1000000 ∧
  oN6 (oN5 (oN4 (oN3 (oN2 (oN1 x))))) % 128 = popN 16 x := by
 obtain ⟨h, l, rfl, hh, hl⟩ : ∃ h l, x = 256 * h + l ∧ h < 256 ∧ l < 256 := ⟨x / 256, x % 256, by omega, by omega, by omega⟩
 obtain ⟨p1, p2, p3, p4⟩ := c_all ⟨h, hh⟩
 obtain ⟨q1, q2, q3, q4⟩ := c_all ⟨l, hl⟩
 simp only at p1 p2 p3 p4 q1 q2 q3 q4
 have r1 := popN_le 8 h
 have r2 := popN_le 8 l
 rw [pop_split 8 h l hl, oN1_split hh hl, oN2_split (by omega) (by omega), oN3_split p2 p3 q2, p4, q4]
 generalize popN 8 h = u at *
 generalize popN 8 l = v at *
 generalize c1 h = a1 at *
 generalize c1 l = a2 at *
 have e4 : oN4 (256 * u + v) = 257 * u + v := by unfold oN4; omega
 have e5 : oN5 (257 * u + v) = 257 * u + v := by unfold oN5; omega
 have e6 : oN6 (257 * u + v) = 257 * u + v := by unfold oN6; omega
 rw [e4, e5, e6]
 omega

end Go.Num
namespace Go.Proofs
open Go Go.Ev Go.Num
set_option maxRecDepth 100000

def oI1 (x : Int) : Int := IntKind.wrap IntKind.u64 (ibits BinOp.and IntKind.u64 (Int.fdiv x (Int.ofNat 2)) (Int.ofNat 6148914691236517205) + ibits BinOp.and IntKind.u64 x (Int.ofNat 6148914691236517205))
def oI2 (x : Int) : Int := IntKind.wrap IntKind.u64 (ibits BinOp.and IntKind.u64 (Int.fdiv x (Int.ofNat 4)) (Int.ofNat 3689348814741910323) + ibits BinOp.and IntKind.u64 x (Int.ofNat 3689348814741910323))
def oI3 (x : Int) : Int := ibits BinOp.and IntKind.u64 (IntKind.wrap IntKind.u64 (Int.fdiv x (Int.ofNat 16) + x)) (Int.ofNat 1085102592571150095)
def oI4 (x : Int) : Int := IntKind.wrap IntKind.u64 (x + Int.fdiv x (Int.ofNat 256))
def oI5 (x : Int) : Int := IntKind.wrap IntKind.u64 (x + Int.fdiv x (Int.ofNat 65536))
def oI6 (x : Int) : Int := IntKind.wrap IntKind.u64 (x + Int.fdiv x (Int.ofNat 4294967296))
def oI (x : Int) : Int := ibits BinOp.and IntKind.i64 (IntKind.wrap IntKind.i64 (oI6 (oI5 (oI4 (oI3 (oI2 (oI1 x))))))) (Int.ofNat 127)

theorem ocA (r : Mem) (x : Int) : (lvlT (SC r) (fun _ => none) .nil 1 1).call 100 [.int .u64 x] emptyA fin = CR.ret (I (oI x)) emptyA := by kernel_rfl

theorem fdivN (a k : Nat) : Int.fdiv (a : Int) (Int.ofNat k) = ((a / k : Nat) : Int) := by
 rw [Int.fdiv_eq_ediv_of_nonneg _ (show (0 : Int) ≤ Int.ofNat k from Int.natCast_nonneg k)]
 exact (Int.natCast_ediv a k).symm
theorem wrapU {a : Nat} (h : a < 18446744073709551616) : IntKind.wrap .u64 (a : Int) = (a : Int) := by
 simp [IntKind.wrap, IntKind.bits, IntKind.signed]
 omega
theorem andU {a b : Nat} (ha : a < 18446744073709551616) (hb : b < 18446744073709551616) : ibits BinOp.and .u64 (a : Int) (Int.ofNat b) = ((a &&& b : Nat) : Int) := by
 show IntKind.wrap .u64 ((BitVec.ofInt 64 (a : Int) &&& BitVec.ofInt 64 (b : Int)).toNat : Int) = _
 rw [BitVec.ofInt_natCast, BitVec.ofInt_natCast, BitVec.toNat_and, BitVec.toNat_ofNat, BitVec.toNat_ofNat, Nat.mod_eq_of_lt (by omega), Nat.mod_eq_of_lt (by omega)]
 have : a &&& b ≤ a := Nat.and_le_left
 exact wrapU (by omega)
theorem andI {a b : Nat} (ha : a < 1000000) (hb : b < 1000000) : ibits BinOp.and .i64 (a : Int) (Int.ofNat b) = ((a &&& b : Nat) : Int) := by
 show IntKind.wrap .i64 ((BitVec.ofInt 64 (a : Int) &&& BitVec.ofInt 64 (b : Int)).toNat : Int) = _
 rw [BitVec.ofInt_natCast, BitVec.ofInt_natCast, BitVec.toNat_and, BitVec.toNat_ofNat, BitVec.toNat_ofNat, Nat.mod_eq_of_lt (by omega), Nat.mod_eq_of_lt (by omega)]
 have : a &&& b ≤ a := Nat.and_le_left
 exact wrI (by omega)

theorem oI_eq {x : Nat} (hx : x < 65536) : oI (x : Int) = (popN 16 x : Nat) := by
 obtain ⟨h1, h2, h3, h4, h5, h7, h6⟩ := oN_all hx
 have e1 : oI1 (x : Int) = (oN1 x : Nat) := by
  unfold oI1
  rw [fdivN, andU (by omega) (by omega), andU (by omega) (by omega), ← Int.natCast_add]
  exact wrapU (a := oN1 x) (by omega)
 generalize oN1 x = a at *
 have e2 : oI2 (a : Int) = (oN2 a : Nat) := by
  unfold oI2
  rw [fdivN, andU (by omega) (by omega), andU (by omega) (by omega), ← Int.natCast_add]
  exact wrapU (a := oN2 a) (by omega)
 generalize oN2 a = b at *
 have e3 : oI3 (b : Int) = (oN3 b : Nat) := by
  unfold oI3
  rw [fdivN, ← Int.natCast_add, wrapU (by omega), andU (by omega) (by omega)]
  rfl
 generalize oN3 b = c at *
 have e4 : oI4 (c : Int) = (oN4 c : Nat) := by
  unfold oI4
  rw [fdivN, ← Int.natCast_add]
  exact wrapU (a := oN4 c) (by omega)
 generalize oN4 c = d at *
 have e5 : oI5 (d : Int) = (oN5 d : Nat) := by
  unfold oI5
  rw [fdivN, ← Int.natCast_add]
  exact wrapU (a := oN5 d) (by omega)
 generalize oN5 d = e at *
 have e6 : oI6 (e : Int) = (oN6 e : Nat) := by
  unfold oI6
  rw [fdivN, ← Int.natCast_add]
  exact wrapU (a := oN6 e) (by omega)
 unfold oI
 rw [e1, e2, e3, e4, e5, e6, wrI (by omega), andI (by omega) (by omega), ← h6]
 congr 1
 exact Nat.and_two_pow_sub_one_eq_mod (oN6 e) 7

theorem ones_ok (r : Mem) (x : Nat) (hx : x < 65536) : GrT Tryz.prog r 100 [.int .u64 x] (I (popN 16 x : Nat)) :=
 GrT.of (SC_ok r) TOk.nil .nil rfl ⟨1, 1, by rw [ocA, oI_eq hx]⟩

def m_popG (x : Int) : Bool := decide (0 ≤ x ∧ x < 65536)
def m_pop (x : Int) : Int := (popN 16 x.toNat : Nat)
def ePop : Ent := eU1 m_popG fun x => I (m_pop x)
theorem ePop_ok (r : Mem) : EOk (SC r) 100 ePop := eU1_ok fun a ha => by
 have h := of_decide_eq_true ha
 have := ones_ok r a.toNat (by omega)
 rw [show ((a.toNat : Nat) : Int) = a by omega] at this
 exact this

end Go.Proofs

/- The scores of a regatta, run. -/
namespace Go.Proofs
open Go Go.Ev Go.Num
set_option linter.unusedVariables false
set_option linter.unusedSimpArgs false
set_option maxRecDepth 100000

noncomputable def cSK : Code := bodyOf S0 38
noncomputable def SK_0 : Code := (lc cSK)
noncomputable def SK_1 : Code := (lc (rc cSK))
noncomputable def SK_2 : Code := (lc (lc (rc (rc cSK))))
noncomputable def SK_3 : Code := (ic (ic (rc (lc (rc (rc cSK))))))
noncomputable def SK_4 : Code := (rc (rc (rc cSK)))
theorem SK_eq : cSK = (.seq SK_0 (.seq SK_1 (.seq (.seq SK_2 (.block 0 (.loop SK_3))) SK_4))) := by kernel_rfl
noncomputable def cIN : Code := bodyOf S0 14
noncomputable def IN_0 : Code := (lc cIN)
noncomputable def IN_1 : Code := (lc (rc cIN))
noncomputable def IN_2 : Code := (lc (lc (rc (rc cIN))))
noncomputable def IN_3 : Code := (ic (ic (rc (lc (rc (rc cIN))))))
noncomputable def IN_4 : Code := (rc (rc (rc cIN)))
theorem IN_eq : cIN = (.seq IN_0 (.seq IN_1 (.seq (.seq IN_2 (.block 0 (.loop IN_3))) IN_4))) := by kernel_rfl
noncomputable def cRSc : Code := bodyOf S0 15
noncomputable def RSc_0 : Code := (lc cRSc)
noncomputable def RSc_1 : Code := (lc (rc cRSc))
noncomputable def RSc_2 : Code := (lc (lc (rc (rc cRSc))))
noncomputable def RSc_3 : Code := (lc (ic (ic (rc (lc (rc (rc cRSc)))))))
noncomputable def RSc_4 : Code := (lc (ic (lc (rc (ic (ic (rc (lc (rc (rc cRSc))))))))))
noncomputable def RSc_5 : Code := (lc (lc (rc (ic (lc (rc (ic (ic (rc (lc (rc (rc cRSc))))))))))))
noncomputable def RSc_6 : Code := (ic (ic (rc (lc (rc (ic (lc (rc (ic (ic (rc (lc (rc (rc cRSc))))))))))))))
noncomputable def RSc_7 : Code := (rc (rc (ic (lc (rc (ic (ic (rc (lc (rc (rc cRSc)))))))))))
noncomputable def RSc_8 : Code := (rc (rc (ic (ic (rc (lc (rc (rc cRSc))))))))
noncomputable def RSc_9 : Code := (rc (rc (rc cRSc)))
theorem RSc_eq : cRSc = (.seq RSc_0 (.seq RSc_1 (.seq (.seq RSc_2 (.block 0 (.loop (.seq RSc_3 (.seq (.block 1 (.seq RSc_4 (.seq (.seq RSc_5 (.block 2 (.loop RSc_6))) RSc_7))) RSc_8))))) RSc_9))) := by kernel_rfl
abbrev owI (i n : Nat) : Value := .slice (some ⟨i, 0, none⟩) n n
def oIn5 (c : List Value) (i : Nat) : Option AObj := some (.cells c 3 i 1)
def vSk (n k : Nat) : OV := [some (pq 0), some (owI 1 n), some (I (n : Nat)), some (I (k : Nat))]
noncomputable def tOc : Tbl := tcons 100 ePop fun _ => none
def vRs2 (b off n cap : Nat) (E : Value) (i : Nat) : OV := [some (RS b off n cap), some E, some (I (i : Nat))]
def vRs4 (b off n cap : Nat) (E : Value) (i m k : Nat) : OV := [some (RS b off n cap), some E, some (I (i : Nat)), some (I (m : Nat)), some (I (k : Nat))]

theorem skA (r : Mem) (n : Nat) (c : List Value) (fs : FnsC) (K : OV → List Nat → OO → CR) (kx : Nat → KS) (kr : KS) : run (SC r) 1567 23 1 (.seq SK_0 (.seq SK_1 SK_2)) fs none (rbK 0 [1, 3, 9, 10] [] K) kx kr (sc0 1567 [.agg ⟨c⟩]) (tr0 1567 [.agg ⟨c⟩]) [] emptyA =
    Option.casesOn c[0]? (.fail 423) fun val => bif isI IntKind.i64 val then bif decide (0 ≤ ofI val) then bif decide (0 ≤ ofI val) then bif Nat.ble (Int.toNat (ofI val)) (Int.toNat (ofI val)) then bif Nat.ble (Int.toNat (ofI val)) 1000000 then bif m_nns c && (m_nns (zerosL (Nat.mul (Int.toNat (ofI val)) 1) [I (Int.ofNat 0)]) && true) then K [some (.pointer (some ⟨0, 0, none⟩)), some (.slice (some ⟨1, 0, none⟩) (Int.toNat (ofI val)) (Int.toNat (ofI val))), some (I (Int.ofNat (Int.toNat (ofI val)))), some (I (Int.ofNat 0))] [] [some (.cells c 61 0 0), some (.cells (zerosL (Nat.mul (Int.toNat (ofI val)) 1) [I (Int.ofNat 0)]) 3 1 1)] else .fail 420 else .fail 420 else .fail 420 else .fail 420 else .fail 420 else .fail 420 := by kernel_rfl

theorem skB (r : Mem) (n k : Nat) (c s : List Value) (K : OV → List Nat → OO → CR) (KX : Nat → OV → List Nat → OO → CR) (kr : KS) : run (SC r) 1567 23 1 SK_3 (lvlT (SC r) tOc .nil 1 3) none (rbK 0 [1, 3, 9, 10] [] K) (fun j => rbK 0 [3] [] (KX j)) kr [] (bT [1, 3, 9, 10] (vSk n k) .nil) [] (mkA [oRg c 0, oIn5 s 1]) =
    bif decide (Int.ofNat k < Int.ofNat n) then bif Nat.blt (Int.toNat (Int.ofNat k)) 12 then Option.casesOn c[Nat.add 1 (Nat.mul (Int.toNat (Int.ofNat k)) 1)]? (.fail 423) fun val => bif isI IntKind.u64 val then bif m_popG (ofI val) then bif Nat.blt (Int.toNat (Int.ofNat k)) n then bif Nat.blt (Nat.add 0 (Nat.mul (Int.toNat (Int.ofNat k)) 1)) (List.length s) then bif m_nns c && (m_nns (List.set s (Nat.add 0 (Nat.mul (Int.toNat (Int.ofNat k)) 1)) (I (m_pop (ofI val)))) && true) then K [some (.pointer (some ⟨0, 0, none⟩)), some (.slice (some ⟨1, 0, none⟩) n n), some (I (Int.ofNat n)), some (I (IntKind.wrap .i64 (Int.ofNat k + Int.ofNat 1)))] [] [some (.cells c 61 0 0), some (.cells (List.set s (Nat.add 0 (Nat.mul (Int.toNat (Int.ofNat k)) 1)) (I (m_pop (ofI val)))) 3 1 1)] else .fail 420 else .fail 420 else .fail 420 else .fail 420 else .fail 420 else .fail 420 else bif m_nns s && true then KX 0 [some (.slice (some ⟨0, 0, none⟩) n n)] [] [some (.cells s 3 0 1)] else .fail 420 := by kernel_rfl

theorem skC (r : Mem) (n : Nat) (s : List Value) (fs : FnsC) (K KR : OV → List Nat → OO → CR) (kx : Nat → KS) : run (SC r) 1567 23 1 SK_4 fs none (rbK 0 [2] [] K) kx (rbK 0 [2] [] KR) [] (bT [3] [some (owI 0 n)] .nil) [] (mkA [oIn5 s 0]) =
    bif m_nns s && true then KR [some (.slice (some ⟨0, 0, none⟩) n n)] [] [some (.cells s 3 0 1)] else .fail 420 := by kernel_rfl

theorem rsA (r : Mem) (b off n cap : Nat) (fs : FnsC) (K : OV → List Nat → OO → CR) (kx : Nat → KS) (kr : KS) : run (SC r) 125 33 1 (.seq RSc_0 (.seq RSc_1 RSc_2)) fs none (rbK 0 [0, 3, 4] [] K) kx kr (sc0 125 [RS b off n cap]) (tr0 125 [RS b off n cap]) [] emptyA =
    K [some (.slice (some ⟨b, off, some 0⟩) n cap), some (.slice none 0 0), some (I (Int.ofNat 0))] [] [] := by kernel_rfl

theorem rsBn (r : Mem) (b off n cap i : Nat) (fs : FnsC) (K : OV → List Nat → OO → CR) (KX : Nat → OV → List Nat → OO → CR) (kr : KS) : run (SC r) 125 33 1 RSc_3 fs none (rbK 0 [0, 3, 4] [] K) (fun j => rbK 0 [3] [] (KX j)) kr [] (bT [0, 3, 4] (vRs2 b off n cap (.slice none 0 0) i) .nil) [] (mkA []) =
    bif decide (Int.ofNat i < Int.ofNat n) then K [some (.slice (some ⟨b, off, some 0⟩) n cap), some (.slice none 0 0), some (I (Int.ofNat i))] [] [] else KX 0 [some (.slice none 0 0)] [] [] := by kernel_rfl

theorem rsBo (r : Mem) (b off n cap i q : Nat) (s : List Value) (fs : FnsC) (K : OV → List Nat → OO → CR) (KX : Nat → OV → List Nat → OO → CR) (kr : KS) : run (SC r) 125 33 1 RSc_3 fs none (rbK 0 [0, 3, 4] [] K) (fun j => rbK 0 [3] [] (KX j)) kr [] (bT [0, 3, 4] (vRs2 b off n cap (gwT 0 q) i) .nil) [] (mkA [oIn5 s 0]) =
    bif decide (Int.ofNat i < Int.ofNat n) then bif m_nns s && true then K [some (.slice (some ⟨b, off, some 0⟩) n cap), some (.slice (some ⟨0, 0, none⟩) q unk), some (I (Int.ofNat i))] [] [some (.cells s 3 0 1)] else .fail 420 else bif m_nns s && true then KX 0 [some (.slice (some ⟨0, 0, none⟩) q unk)] [] [some (.cells s 3 0 1)] else .fail 420 := by kernel_rfl

theorem rsCn (r : Mem) (b off n cap i : Nat) (fs : FnsC) (K : OV → List Nat → OO → CR) (kx : Nat → KS) (kr : KS) : run (SC r) 125 33 1 (.seq RSc_4 RSc_5) fs none (rbK 0 [0, 3, 4, 5, 6] [] K) kx kr [] (bT [0, 3, 4] (vRs2 b off n cap (.slice none 0 0) i) .nil) [] (mkA []) =
    K [some (.slice (some ⟨b, off, some 0⟩) n cap), some (.slice none 0 0), some (I (Int.ofNat i)), some (I (Int.ofNat 0)), some (I (Int.ofNat 0))] [] [] := by kernel_rfl

theorem rsCo (r : Mem) (b off n cap i q : Nat) (s : List Value) (fs : FnsC) (K : OV → List Nat → OO → CR) (kx : Nat → KS) (kr : KS) : run (SC r) 125 33 1 (.seq RSc_4 RSc_5) fs none (rbK 0 [0, 3, 4, 5, 6] [] K) kx kr [] (bT [0, 3, 4] (vRs2 b off n cap (gwT 0 q) i) .nil) [] (mkA [oIn5 s 0]) =
    bif m_nns s && true then K [some (.slice (some ⟨b, off, some 0⟩) n cap), some (.slice (some ⟨0, 0, none⟩) q unk), some (I (Int.ofNat i)), some (I (Int.ofNat 0)), some (I (Int.ofNat 0))] [] [some (.cells s 3 0 1)] else .fail 420 := by kernel_rfl

theorem rsDn (r : Mem) (b off n cap i m k : Nat) (fs : FnsC) (K : OV → List Nat → OO → CR) (KX : Nat → OV → List Nat → OO → CR) (kr : KS) : run (SS r 2) 125 33 1 RSc_6 fs none (rbK 0 [0, 3, 4, 5, 6] [] K) (fun j => rbK 0 [0, 3, 4, 5] [] (KX j)) kr [] (bT [0, 3, 4, 5, 6] (vRs4 b off n cap (.slice none 0 0) i m k) .nil) [] (mkA []) =
    bif decide (Int.ofNat k < Int.ofNat n) then bif Nat.blt (Int.toNat (Int.ofNat i)) n then Option.casesOn (r b (Nat.add off (Nat.mul (Int.toNat (Int.ofNat i)) 1))) (.fail 423) fun val => bif isRoS val then bif Nat.blt (Int.toNat (Int.ofNat k)) (lnOf val) then Option.casesOn (r (blkOf val) (Nat.add (offOf val) (Nat.mul (Int.toNat (Int.ofNat k)) 1))) (.fail 423) fun val => bif isB val then bif ofB val then K [some (.slice (some ⟨b, off, some 0⟩) n cap), some (.slice none 0 0), some (I (Int.ofNat i)), some (I (IntKind.wrap .i64 (Int.ofNat m + Int.ofNat 1))), some (I (IntKind.wrap .i64 (Int.ofNat k + Int.ofNat 1)))] [] [] else K [some (.slice (some ⟨b, off, some 0⟩) n cap), some (.slice none 0 0), some (I (Int.ofNat i)), some (I (Int.ofNat m)), some (I (IntKind.wrap .i64 (Int.ofNat k + Int.ofNat 1)))] [] [] else .fail 420 else .fail 420 else .fail 420 else .fail 420 else KX 2 [some (.slice (some ⟨b, off, some 0⟩) n cap), some (.slice none 0 0), some (I (Int.ofNat i)), some (I (Int.ofNat m))] [] [] := by kernel_rfl

theorem rsDo (r : Mem) (b off n cap i m k q : Nat) (s : List Value) (fs : FnsC) (K : OV → List Nat → OO → CR) (KX : Nat → OV → List Nat → OO → CR) (kr : KS) : run (SS r 2) 125 33 1 RSc_6 fs none (rbK 0 [0, 3, 4, 5, 6] [] K) (fun j => rbK 0 [0, 3, 4, 5] [] (KX j)) kr [] (bT [0, 3, 4, 5, 6] (vRs4 b off n cap (gwT 0 q) i m k) .nil) [] (mkA [oIn5 s 0]) =
    bif decide (Int.ofNat k < Int.ofNat n) then bif Nat.blt (Int.toNat (Int.ofNat i)) n then Option.casesOn (r b (Nat.add off (Nat.mul (Int.toNat (Int.ofNat i)) 1))) (.fail 423) fun val => bif isRoS val then bif Nat.blt (Int.toNat (Int.ofNat k)) (lnOf val) then Option.casesOn (r (blkOf val) (Nat.add (offOf val) (Nat.mul (Int.toNat (Int.ofNat k)) 1))) (.fail 423) fun val => bif isB val then bif ofB val then bif m_nns s && true then K [some (.slice (some ⟨b, off, some 0⟩) n cap), some (.slice (some ⟨0, 0, none⟩) q unk), some (I (Int.ofNat i)), some (I (IntKind.wrap .i64 (Int.ofNat m + Int.ofNat 1))), some (I (IntKind.wrap .i64 (Int.ofNat k + Int.ofNat 1)))] [] [some (.cells s 3 0 1)] else .fail 420 else bif m_nns s && true then K [some (.slice (some ⟨b, off, some 0⟩) n cap), some (.slice (some ⟨0, 0, none⟩) q unk), some (I (Int.ofNat i)), some (I (Int.ofNat m)), some (I (IntKind.wrap .i64 (Int.ofNat k + Int.ofNat 1)))] [] [some (.cells s 3 0 1)] else .fail 420 else .fail 420 else .fail 420 else .fail 420 else .fail 420 else bif m_nns s && true then KX 2 [some (.slice (some ⟨b, off, some 0⟩) n cap), some (.slice (some ⟨0, 0, none⟩) q unk), some (I (Int.ofNat i)), some (I (Int.ofNat m))] [] [some (.cells s 3 0 1)] else .fail 420 := by kernel_rfl

theorem rsEn (r : Mem) (b off n cap i m : Nat) (fs : FnsC) (K : OV → List Nat → OO → CR) (kx : Nat → KS) (kr : KS) : run (SC r) 125 33 1 RSc_7 fs none (rbK 0 [0, 3, 4] [] K) kx kr [] (bT [0, 3, 4, 5] [some (RS b off n cap), some (.slice none 0 0), some (I (i : Nat)), some (I (m : Nat))] .nil) [] (mkA []) =
    K [some (.slice (some ⟨b, off, some 0⟩) n cap), some (.slice (some ⟨0, 0, none⟩) 1 unk), some (I (Int.ofNat i))] [] [some (.cells [I (Int.ofNat m)] 3 0 1)] := by kernel_rfl

theorem rsEo (r : Mem) (b off n cap i m q : Nat) (s : List Value) (fs : FnsC) (K : OV → List Nat → OO → CR) (kx : Nat → KS) (kr : KS) : run (SC r) 125 33 1 RSc_7 fs none (rbK 0 [0, 3, 4] [] K) kx kr [] (bT [0, 3, 4, 5] [some (RS b off n cap), some (gwT 0 q), some (I (i : Nat)), some (I (m : Nat))] .nil) [] (mkA [oIn5 s 0]) =
    bif Nat.ble (Nat.add q 1) 1000000 then Option.casesOn (takeAt s 0 (Nat.mul q 1)) (.fail 439) fun val => bif m_nns (val ++ [I (Int.ofNat m)]) && true then K [some (.slice (some ⟨b, off, some 0⟩) n cap), some (.slice (some ⟨0, 0, none⟩) (Nat.add q 1) unk), some (I (Int.ofNat i))] [] [some (.cells (val ++ [I (Int.ofNat m)]) 3 0 1)] else .fail 420 else .fail 420 := by kernel_rfl

theorem rsFo (r : Mem) (b off n cap i q : Nat) (s : List Value) (fs : FnsC) (K : OV → List Nat → OO → CR) (kx : Nat → KS) (kr : KS) : run (SC r) 125 33 1 RSc_8 fs none (rbK 0 [0, 3, 4] [] K) kx kr [] (bT [0, 3, 4] (vRs2 b off n cap (gwT 0 q) i) .nil) [] (mkA [oIn5 s 0]) =
    bif m_nns s && true then K [some (.slice (some ⟨b, off, some 0⟩) n cap), some (.slice (some ⟨0, 0, none⟩) q unk), some (I (IntKind.wrap .i64 (Int.ofNat i + Int.ofNat 1)))] [] [some (.cells s 3 0 1)] else .fail 420 := by kernel_rfl

theorem rsGo (r : Mem) (q : Nat) (s : List Value) (fs : FnsC) (K KR : OV → List Nat → OO → CR) (kx : Nat → KS) : run (SC r) 125 33 1 RSc_9 fs none (rbK 0 [2] [] K) kx (rbK 0 [2] [] KR) [] (bT [3] [some (gwT 0 q)] .nil) [] (mkA [oIn5 s 0]) =
    bif m_nns s && true then KR [some (.slice (some ⟨0, 0, none⟩) q unk)] [] [some (.cells s 3 0 1)] else .fail 420 := by kernel_rfl

end Go.Proofs

/- The scores of a regatta: what the calls answer. -/
namespace Go.Proofs
open Go Go.Ev Go.Num
set_option linter.unusedVariables false
set_option linter.unusedSimpArgs false
set_option maxRecDepth 100000

def cnR (T : List (List Bool)) (v : Nat) : Nat → Nat
 | 0 => 0
 | k + 1 => if gT T v k then cnR T v k + 1 else cnR T v k
theorem cnR_le (T : List (List Bool)) (v : Nat) : ∀ k, cnR T v k ≤ k
 | 0 => Nat.le_refl _
 | k + 1 => by
  have := cnR_le T v k
  rw [cnR]
  split <;> omega
theorem popN_or : ∀ (f k w : Nat), k < f → w < 2 ^ k → popN f (w ||| 2 ^ k) = popN f w + 1
 | f + 1, 0, w, _, hw => by
  have : w = 0 := by simpa using hw
  subst this
  rw [popN_succ, popN_succ]
  simp [popN_zero]
 | f + 1, k + 1, w, hk, hw => by
  have h1 : (w ||| 2 ^ (k + 1)) % 2 = w % 2 := by
   have h : decide ((w ||| 2 ^ (k + 1)) % 2 = 1) = decide (w % 2 = 1) := by
    rw [← Nat.testBit_zero, ← Nat.testBit_zero, Nat.testBit_or, Nat.testBit_two_pow]
    simp
   have := decide_eq_decide.1 h
   omega
  have h2 : (w ||| 2 ^ (k + 1)) / 2 = (w / 2) ||| 2 ^ k := by
   rw [Nat.or_div_two]
   congr 1
   rw [Nat.pow_succ]; omega
  rw [popN_succ, popN_succ f w, h1, h2, popN_or f k (w / 2) (by omega) (by rw [Nat.pow_succ] at hw; omega)]
  omega
theorem pop_wdR (T : List (List Bool)) (v : Nat) : ∀ k, k ≤ 16 → popN 16 (wdR T v k) = cnR T v k
 | 0, _ => by simp [wdR, cnR, popN_zero]
 | k + 1, h => by
  have ih := pop_wdR T v k (by omega)
  rw [wdR, cnR]
  split
  ·rw [popN_or 16 k _ (by omega) (wdR_lt T v k), ih]
  ·exact ih
def scZ (T : List (List Bool)) (i : Nat) : Int := (cnR T i T.length : Nat)
section
variable {r : Mem} {T : List (List Bool)}
theorem sk_ok (hn : T.length ≤ 12) (h1 : 1 ≤ T.length) : GrM Tryz.prog r 38 [.agg ⟨rgC T.length (wdP T T.length 0)⟩] (owI 0 T.length) (rowA (ixN (scZ T) T.length) 3 1) := by
 refine GrM.ofS (C := SC r) rfl rfl (callO (SC_ok r) (by kernel_rfl) ((bodySC r _).trans SK_eq) (nt := 23) (by kernel_rfl) (rs := [.tmp 2]) (by kernel_rfl) 1567 rfl ⟨[2], [], fun vs ms os => vs = [some (owI 0 T.length)] ∧ ms = [] ∧ os = [oIn5 (ixN (scZ T) T.length) 0]⟩ ?_ fun γ W F kk hwr hF hro h0' => ?_)
 ·rintro vs ms os ⟨rfl, rfl, rfl⟩
  exact ⟨_, mkA [oIn5 (ixN (scZ T) T.length) 0], by kernel_rfl, rfl, rfl⟩
 have h0' : ∀ i, 0 ≤ i → γ i = none := h0'
 have w1 : ∀ k : Nat, k ≤ 1000 → IntKind.wrap IntKind.i64 ((k : Int) + ((1 : Nat) : Int)) = ((k + 1 : Nat) : Int) := fun k hk => inc1' (by omega)
 have nn := rgC_nn T.length (wdP T T.length 0)
 let g : Nat → Nat → Int := fun k j => if j < k then scZ T j else 0
 have nn2 : ∀ k, m_nns (ixN (g k) T.length) = true := fun k => ix_nn _ _
 have e00 : (rgC T.length (wdP T T.length 0))[0]? = some (I (T.length : Nat)) := rfl
 have full : ixN (g T.length) T.length = ixN (scZ T) T.length := ix_ext fun j hj => if_pos hj
 refine Go.Ev.Reach.after3R (SC_ok r) TOk.nil (tm := .nil) (L := 1) (L' := 1) (d := 1) hF hro h0' (.step (.step .base))
  (o1 := ⟨[1, 3, 9, 10], [], fun vs ms os => vs = vSk T.length 0 ∧ ms = [] ∧ os = [oRg (rgC T.length (wdP T T.length 0)) 0, oIn5 (ixN (g 0) T.length) 1]⟩)
  (o2 := ⟨[3], [], fun vs ms os => vs = [some (owI 0 T.length)] ∧ ms = [] ∧ os = [oIn5 (ixN (scZ T) T.length) 0]⟩) [] (fun p hp => nomatch hp) ?_ ?_ ?_
 ·rintro vs ms os ⟨rfl, rfl, rfl⟩
  refine Go.Ev.Reach.blockC (Go.Ev.Reach.loopC (j := T.length) (lv := [1, 3, 9, 10]) (fl := []) (I := fun j vs ms os => ∃ k : Nat, k ≤ T.length ∧ j = T.length - k ∧ vs = vSk T.length k ∧ ms = [] ∧ os = [oRg (rgC T.length (wdP T T.length 0)) 0, oIn5 (ixN (g k) T.length) 1]) (fun j vs ms os hI => ?_) ⟨0, by omega, rfl, rfl, rfl, rfl⟩)
  obtain ⟨k, hk, rfl, rfl, rfl, rfl⟩ := hI
  refine Go.Ev.Reach.segR (SC_ok r) (t := tOc) (TOk.nil.cons (ePop_ok r)) (tm := .nil) (L := 1) (L' := 1) (d := 3) hF hro h0' [(0, ⟨[3], [], fun vs ms os => vs = [some (owI 0 T.length)] ∧ ms = [] ∧ os = [oIn5 (ixN (scZ T) T.length) 0]⟩)] (fun p hp => by simp only [List.mem_cons, List.not_mem_nil, or_false] at hp; subst hp; rfl) ?_
  have hn' := skB r T.length k (rgC T.length (wdP T T.length 0)) (ixN (g k) T.length)
  simp only [Int.ofNat_eq_natCast, Int.toNat_natCast] at hn'
  by_cases c : k < T.length
  ·have b1 : Nat.blt k 12 = true := Nat.ble_eq_true_of_le (by omega)
   have b2 : Nat.blt k T.length = true := Nat.ble_eq_true_of_le (by omega)
   have e1 : Nat.add 1 (Nat.mul k 1) = 1 + k := by simp
   have e2 : Nat.add 0 (Nat.mul k 1) = k := by simp
   have g1 : (rgC T.length (wdP T T.length 0))[1 + k]? = some (U ((wdP T T.length 0 k : Nat) : Int)) := rgC_get (by omega)
   have hlt := wdP_lt hn (i := T.length) (k := 0) (by omega) k
   have hpg : m_popG ((wdP T T.length 0 k : Nat) : Int) = true := decide_eq_true (by omega)
   have hpp : m_pop ((wdP T T.length 0 k : Nat) : Int) = scZ T k := by
    unfold m_pop scZ
    rw [Int.toNat_natCast]
    unfold wdP
    rw [if_pos c, pop_wdR T k _ (by omega)]
   have b3 : Nat.blt k (ixN (g k) T.length).length = true := by rw [ix_len]; exact b2
   have hset : (ixN (g k) T.length).set k (I (scZ T k)) = ixN (g (k + 1)) T.length := by
    rw [ix_set]
    refine ix_ext fun j hj => ?_
    by_cases e : j = k
    ·subst e
     rw [if_pos rfl]
     exact (if_pos (by omega)).symm
    ·rw [if_neg e]
     show (if j < k then scZ T j else 0) = if j < k + 1 then scZ T j else 0
     by_cases q : j < k
     ·rw [if_pos q, if_pos (by omega)]
     ·rw [if_neg q, if_neg (by omega)]
   simp only [dT (show (k : Int) < (T.length : Int) by omega), cond_true, b1, b2, e1, e2, g1, isU_U, w1 k (by omega)] at hn'
   dsimp +instances only [ofI_U] at hn'
   simp only [hpg, hpp, b3, hset, nn, nn2, cond_true, Bool.and_true] at hn'
   exact (hn' _ _ _).trans (qq_ok ⟨T.length - (k + 1), by omega, k + 1, c, rfl, rfl, rfl, rfl⟩)
  ·obtain rfl : k = T.length := by omega
   simp only [dF (show ¬ (T.length : Int) < (T.length : Int) by omega), cond_false, nn2, Bool.and_true, cond_true] at hn'
   exact (hn' _ _ _).trans (qq_ok ⟨rfl, rfl, by rw [full]; rfl⟩)
 ·rintro vs ms os ⟨rfl, rfl, rfl⟩
  refine Go.Ev.Reach.segR (SC_ok r) TOk.nil (tm := .nil) (L := 1) (L' := 1) (d := 1) hF hro h0' [] (fun p hp => nomatch hp) ?_
  have hn' := skC r T.length (ixN (scZ T) T.length)
  simp only [ix_nn, Bool.and_true, cond_true] at hn'
  exact (hn' _ _ _ _).trans (qq_ok ⟨rfl, rfl, rfl⟩)
 ·have hn' := skA r T.length (rgC T.length (wdP T T.length 0))
  have p0 : (0 : Int) ≤ (T.length : Int) := by omega
  have b1 : Nat.ble T.length T.length = true := Nat.ble_eq_true_of_le (Nat.le_refl _)
  have b2 : Nat.ble T.length 1000000 = true := Nat.ble_eq_true_of_le (by omega)
  have hz : zerosL (Nat.mul T.length 1) [I (Int.ofNat 0)] = ixN (g 0) T.length := by
   rw [ix_zero1]
   exact ix_ext fun j hj => (if_neg (by omega)).symm
  simp only [Int.ofNat_eq_natCast] at hz
  simp only [e00, isI_I, cond_true] at hn'
  dsimp +instances only [ofI_I] at hn'
  simp only [Int.ofNat_eq_natCast, Int.toNat_natCast, dT p0, b1, b2, hz, nn, nn2, cond_true, Bool.and_true] at hn'
  exact (hn' _ _ _ _).trans (qq_ok ⟨rfl, rfl, rfl⟩)
end

end Go.Proofs

/- The reference's check of a table: what the call answers. -/
namespace Go.Proofs
open Go Go.Ev Go.Num
set_option linter.unusedVariables false
set_option linter.unusedSimpArgs false
set_option maxRecDepth 100000

section
variable {r : Mem} {b off n cap : Nat} {T : List (List Bool)}
theorem ck_ok (hM : TabM r b off T) (hn : T.length = n) (hn2 : n ≤ 1000) : GrT Tryz.prog r 13 [RS b off n cap] (I (if ckT T then 0 else 50)) := by
 subst hn
 generalize hv : (if ckT T then (0 : Int) else 50) = v
 let E : Outs := ⟨[2], [], fun vs ms os => vs = [some (I v)] ∧ ms = [] ∧ os = []⟩
 refine GrT.ofS (C := SC r) rfl rfl rfl (callO (SC_ok r) (by kernel_rfl) ((bodySC r _).trans RCk_eq) (nt := 71) (by kernel_rfl) (rs := [.tmp 2]) (by kernel_rfl) 125 rfl E ?_ fun γ W F kk hwr hF hro h0' => ?_)
 ·rintro vs ms os ⟨rfl, rfl, rfl⟩
  exact ⟨_, mkA [], by kernel_rfl, rfl⟩
 have h0' : ∀ i, 0 ≤ i → γ i = none := h0'
 have bad : ckT T = false → v = 50 := fun h => by rw [h] at hv; exact hv.symm
 have w1 : ∀ k : Nat, k ≤ 1000 → IntKind.wrap IntKind.i64 ((k : Int) + ((1 : Nat) : Int)) = ((k + 1 : Nat) : Int) := fun k hk => inc1' (by omega)
 have e0 : ∀ o k : Nat, Nat.add o (Nat.mul k 1) = o + k := fun o k => by simp
 refine Go.Ev.Reach.after3R (SC_ok r) TOk.nil (tm := .nil) (L := 1) (L' := 1) (d := 1) hF hro h0' (.step (.step (.step .base)))
  (o1 := ⟨[0, 3, 4], [], fun vs ms os => (1 ≤ T.length ∧ T.length ≤ 12) ∧ vs = vK3 b off T.length cap 0 ∧ ms = [] ∧ os = []⟩)
  (o2 := ⟨[0, 3], [], fun vs ms os => ((1 ≤ T.length ∧ T.length ≤ 12) ∧ lenN T T.length = true) ∧ vs = [some (RS b off T.length cap), some (I (T.length : Nat))] ∧ ms = [] ∧ os = []⟩) [] (fun p hp => nomatch hp) ?_ ?_ ?_
 ·rintro vs ms os ⟨hn, rfl, rfl, rfl⟩
  refine Go.Ev.Reach.blockC (Go.Ev.Reach.loopC (j := T.length) (lv := [0, 3, 4]) (fl := []) (I := fun j vs ms os => ∃ k : Nat, k ≤ T.length ∧ j = T.length - k ∧ lenN T k = true ∧ vs = vK3 b off T.length cap k ∧ ms = [] ∧ os = []) (fun j vs ms os hI => ?_) ⟨0, by omega, rfl, rfl, rfl, rfl, rfl⟩)
  obtain ⟨k, hk, rfl, hl, rfl, rfl, rfl⟩ := hI
  by_cases c : k < T.length
  ·have c1 : (k : Int) < (T.length : Int) := by omega
   have c2 : Nat.blt k T.length = true := Nat.ble_eq_true_of_le (by omega)
   by_cases hz : (T.getD k []).length = 0
   ·obtain ⟨u, hu, hr⟩ := tab_row hM c
    have hun : u = nilT := by
     rcases hr with ⟨_, h⟩ | ⟨h, _⟩
     ·exact h
     ·exact absurd (List.length_eq_zero_iff.1 hz) h
    subst hun
    refine segSh 1 TOk.nil (tm := .nil) (L := 1) (L' := 1) (d := 1) hF hro h0' [(0, ⟨[0, 3], [], fun vs ms os => ((1 ≤ T.length ∧ T.length ≤ 12) ∧ lenN T T.length = true) ∧ vs = [some (RS b off T.length cap), some (I (T.length : Nat))] ∧ ms = [] ∧ os = []⟩)] (fun p hp => by simp only [List.mem_cons, List.not_mem_nil, or_false] at hp; subst hp; rfl) ?_
    have q0 : isNilS nilT = true := rfl
    have q1 : (((0 : Nat) : Int) != (T.length : Int)) = true := neT (by omega)
    have hn' := ckBN r b off T.length cap k
    simp only [Int.ofNat_eq_natCast, Int.toNat_natCast, dT c1, c2, cond_true, e0, hu, q0, q1] at hn'
    exact (hn' _ _ _ _).trans (qq_ok ⟨by rw [bad (by unfold ckT; rw [lenN_no c (by omega), Bool.false_and, Bool.and_false])]; rfl, rfl, rfl⟩)
   ·obtain ⟨b2, o2, c2', hu, hr⟩ := tab_RS hM c hz
    refine segSh 2 TOk.nil (tm := .nil) (L := 1) (L' := 1) (d := 1) hF hro h0' [(0, ⟨[0, 3], [], fun vs ms os => ((1 ≤ T.length ∧ T.length ≤ 12) ∧ lenN T T.length = true) ∧ vs = [some (RS b off T.length cap), some (I (T.length : Nat))] ∧ ms = [] ∧ os = []⟩)] (fun p hp => by simp only [List.mem_cons, List.not_mem_nil, or_false] at hp; subst hp; rfl) ?_
    have hn' := ckBR r b off T.length cap k
    simp only [Int.ofNat_eq_natCast, Int.toNat_natCast, dT c1, c2, cond_true, e0, hu, ro_RS, ln_RS] at hn'
    by_cases q : (T.getD k []).length = T.length
    ·have q1 : (((T.getD k []).length : Int) != (T.length : Int)) = false := neF (by omega)
     simp only [q1, cond_false, w1 k (by omega)] at hn'
     exact (hn' _ _ _ _).trans (qq_ok ⟨T.length - (k + 1), by omega, k + 1, c, rfl, by simp only [lenN, hl, q, beq_self_eq_true, Bool.and_self], rfl, rfl, rfl⟩)
    ·have q1 : (((T.getD k []).length : Int) != (T.length : Int)) = true := neT (by omega)
     simp only [q1, cond_true] at hn'
     exact (hn' _ _ _ _).trans (qq_ok ⟨by rw [bad (by unfold ckT; rw [lenN_no c q, Bool.false_and, Bool.and_false])]; rfl, rfl, rfl⟩)
  ·obtain rfl : k = T.length := by omega
   have c1 : ¬ (T.length : Int) < (T.length : Int) := by omega
   refine segSh 1 TOk.nil (tm := .nil) (L := 1) (L' := 1) (d := 1) hF hro h0' [(0, ⟨[0, 3], [], fun vs ms os => ((1 ≤ T.length ∧ T.length ≤ 12) ∧ lenN T T.length = true) ∧ vs = [some (RS b off T.length cap), some (I (T.length : Nat))] ∧ ms = [] ∧ os = []⟩)] (fun p hp => by simp only [List.mem_cons, List.not_mem_nil, or_false] at hp; subst hp; rfl) ?_
   have hn' := ckBN r b off T.length cap T.length
   simp only [Int.ofNat_eq_natCast, dF c1, cond_false] at hn'
   exact (hn' _ _ _ _).trans (qq_ok ⟨⟨hn, hl⟩, rfl, rfl, rfl⟩)
 ·rintro vs ms os ⟨⟨hn, hl⟩, rfl, rfl, rfl⟩
  have hlen := fun i hi => lenN_get hl i hi
  have fin : fairB T T.length = true → v = 0 := fun h => by
   rw [show ckT T = true by unfold ckT; rw [decide_eq_true hn, hl, h]; rfl, if_pos rfl] at hv; exact hv.symm
  have nof : fairB T T.length = false → v = 50 := fun h => bad (by unfold ckT; rw [h, Bool.and_false, Bool.and_false])
  refine Go.Ev.Reach.after3R (SC_ok r) TOk.nil (tm := .nil) (L := 1) (L' := 1) (d := 1) hF hro h0' .base
   (o1 := ⟨[0, 3, 5], [], fun vs ms os => vs = vK3 b off T.length cap 0 ∧ ms = [] ∧ os = []⟩)
   (o2 := ⟨[], [], fun vs ms os => fairB T T.length = true ∧ vs = [] ∧ ms = [] ∧ os = []⟩) [] (fun p hp => nomatch hp) ?_ ?_ ?_
  ·rintro vs ms os ⟨rfl, rfl, rfl⟩
   refine Go.Ev.Reach.blockC (Go.Ev.Reach.loopC (j := T.length) (lv := [0, 3, 5]) (fl := []) (I := fun j vs ms os => ∃ i : Nat, i ≤ T.length ∧ j = T.length - i ∧ fairB T i = true ∧ vs = vK3 b off T.length cap i ∧ ms = [] ∧ os = []) (fun j vs ms os hI => ?_) ⟨0, by omega, rfl, rfl, rfl, rfl, rfl⟩)
   obtain ⟨i, hi, rfl, hf, rfl, rfl, rfl⟩ := hI
   refine Go.Ev.Reach.seqC (o1 := ⟨[0, 3, 5], [], fun vs ms os => i < T.length ∧ vs = vK3 b off T.length cap i ∧ ms = [] ∧ os = []⟩) ?_ fun vs ms os hq => ?_
   ·refine Go.Ev.Reach.segR (SC_ok r) TOk.nil (tm := .nil) (L := 1) (L' := 1) (d := 1) hF hro h0' [(2, ⟨[], [], fun vs ms os => fairB T T.length = true ∧ vs = [] ∧ ms = [] ∧ os = []⟩)] (fun p hp => by simp only [List.mem_cons, List.not_mem_nil, or_false] at hp; subst hp; rfl) ?_
    have hn' := ckD r b off T.length cap i
    simp only [Int.ofNat_eq_natCast] at hn'
    by_cases c : i < T.length
    ·simp only [dT (show (i : Int) < (T.length : Int) by omega), cond_true] at hn'
     exact (hn' _ _ _ _).trans (qq_ok ⟨c, rfl, rfl, rfl⟩)
    ·obtain rfl : i = T.length := by omega
     simp only [dF (show ¬ (T.length : Int) < (T.length : Int) by omega), cond_false] at hn'
     exact (hn' _ _ _ _).trans (qq_ok ⟨hf, rfl, rfl, rfl⟩)
   ·obtain ⟨hi', rfl, rfl, rfl⟩ := hq
    refine Go.Ev.Reach.seqC (o1 := ⟨[0, 3, 5], [], fun vs ms os => rowB T i T.length = true ∧ vs = vK3 b off T.length cap i ∧ ms = [] ∧ os = []⟩) (Go.Ev.Reach.blockC ?_) fun vs ms os hq => ?_
    ·refine Go.Ev.Reach.seqC (o1 := ⟨[0, 3, 5, 6], [], fun vs ms os => vs = vK4 b off T.length cap i 0 ∧ ms = [] ∧ os = []⟩) (Go.Ev.Reach.segR (SC_ok r) TOk.nil (tm := .nil) (L := 1) (L' := 1) (d := 1) hF hro h0' [] (fun p hp => nomatch hp) ((ckD7 r b off T.length cap i _ _ _ _).trans (qq_ok ⟨rfl, rfl, rfl⟩))) fun vs ms os hq => ?_
     obtain ⟨rfl, rfl, rfl⟩ := hq
     refine Go.Ev.Reach.blockC (Go.Ev.Reach.loopC (j := T.length) (lv := [0, 3, 5, 6]) (fl := []) (I := fun j vs ms os => ∃ k : Nat, k ≤ T.length ∧ j = T.length - k ∧ rowB T i k = true ∧ vs = vK4 b off T.length cap i k ∧ ms = [] ∧ os = []) (fun j vs ms os hI => ?_) ⟨0, by omega, rfl, rfl, rfl, rfl, rfl⟩)
     obtain ⟨k, hk, rfl, hr, rfl, rfl, rfl⟩ := hI
     refine segSh 2 TOk.nil (tm := .nil) (L := 1) (L' := 1) (d := 1) hF hro h0' [(4, ⟨[0, 3, 5], [], fun vs ms os => rowB T i T.length = true ∧ vs = vK3 b off T.length cap i ∧ ms = [] ∧ os = []⟩)] (fun p hp => by simp only [List.mem_cons, List.not_mem_nil, or_false] at hp; subst hp; rfl) ?_
     have hn' := ckE r b off T.length cap i k
     simp only [Int.ofNat_eq_natCast, Int.toNat_natCast] at hn'
     by_cases c : k < T.length
     ·have c1 : (k : Int) < (T.length : Int) := by omega
      have b1 : Nat.blt k T.length = true := Nat.ble_eq_true_of_le (by omega)
      have b2' : Nat.blt i T.length = true := Nat.ble_eq_true_of_le (by omega)
      obtain ⟨bi, oi, ci, hui, hri⟩ := tab_RS hM hi' (by rw [hlen i hi']; omega)
      obtain ⟨bk, ok, ck, huk, hrk⟩ := tab_RS hM c (by rw [hlen k c]; omega)
      rw [hlen i hi'] at hui hri
      rw [hlen k c] at huk hrk
      have vi := hri k c
      have vk := hrk i hi'
      simp only [dT c1, cond_true, b1, b2', e0, hui, huk, ro_RS, ln_RS, bk_RS, of_RS, vi, vk, b_bl, o_bl, w1 k (by omega)] at hn'
      have go : badP T i k = false → rowB T i (k + 1) = true := fun h => by simp only [rowB, hr, h]; rfl
      have stop : badP T i k = true → v = 50 := fun h => nof (fairB_no hi' (rowB_no c h))
      by_cases e : i = k
      ·subst e
       simp only [eqT (rfl : (i : Int) = (i : Int)), neF (rfl : (i : Int) = (i : Int)), cond_true, cond_false] at hn'
       have hb : badP T i i = gT T i i := by unfold badP; rw [if_pos rfl]
       cases hg : gT T i i with
       | true =>
        simp only [hg, cond_true] at hn'
        exact (hn' _ _ _ _).trans (qq_ok ⟨by rw [stop (hb.trans hg)]; rfl, rfl, rfl⟩)
       | false =>
        simp only [hg, cond_false] at hn'
        exact (hn' _ _ _ _).trans (qq_ok ⟨T.length - (i + 1), by omega, i + 1, c, rfl, go (hb.trans hg), rfl, rfl, rfl⟩)
      ·have hb : badP T i k = (gT T i k == gT T k i) := by unfold badP; rw [if_neg e]
       simp only [eqF (show ¬ (i : Int) = (k : Int) by omega), neT (show ¬ (i : Int) = (k : Int) by omega), cond_true, cond_false] at hn'
       cases hg : gT T i k <;> cases hg2 : gT T k i <;> simp only [hg, hg2, cond_true, cond_false] at hn' <;> rw [hg, hg2] at hb <;> first
        | exact (hn' _ _ _ _).trans (qq_ok ⟨by rw [stop hb]; rfl, rfl, rfl⟩)
        | exact (hn' _ _ _ _).trans (qq_ok ⟨T.length - (k + 1), by omega, k + 1, c, rfl, go hb, rfl, rfl, rfl⟩)
     ·obtain rfl : k = T.length := by omega
      simp only [dF (show ¬ (T.length : Int) < (T.length : Int) by omega), cond_false] at hn'
      exact (hn' _ _ _ _).trans (qq_ok ⟨hr, rfl, rfl, rfl⟩)
    ·obtain ⟨hrow, rfl, rfl, rfl⟩ := hq
     refine Go.Ev.Reach.segR (SC_ok r) TOk.nil (tm := .nil) (L := 1) (L' := 1) (d := 1) hF hro h0' [] (fun p hp => nomatch hp) ?_
     have hn' := ckF r b off T.length cap i
     simp only [Int.ofNat_eq_natCast, w1 i (by omega)] at hn'
     exact (hn' _ _ _ _).trans (qq_ok ⟨T.length - (i + 1), by omega, i + 1, hi', rfl, by simp only [fairB, hf, hrow, Bool.and_self], rfl, rfl, rfl⟩)
  ·rintro vs ms os ⟨hfb, rfl, rfl, rfl⟩
   refine Go.Ev.Reach.segR (SC_ok r) TOk.nil (tm := .nil) (L := 1) (L' := 1) (d := 1) hF hro h0' [] (fun p hp => nomatch hp) ?_
   exact (ckG r _ _ _ _).trans (qq_ok ⟨by rw [fin hfb]; rfl, rfl, rfl⟩)
  ·exact (ckC r b off T.length cap _ _ _ _).trans (qq_ok ⟨rfl, rfl, rfl⟩)
 ·have hn' := ckA r b off T.length cap
  simp only [Int.ofNat_eq_natCast] at hn'
  by_cases c : (T.length : Int) < 1
  ·simp only [dT c, cond_true] at hn'
   exact (hn' _ _ _ _).trans (qq_ok ⟨by rw [bad (by unfold ckT; rw [decide_eq_false (by omega), Bool.false_and])]; rfl, rfl, rfl⟩)
  ·simp only [dF c, cond_false] at hn'
   by_cases c2 : (T.length : Int) > 12
   ·simp only [dT c2, cond_true] at hn'
    exact (hn' _ _ _ _).trans (qq_ok ⟨by rw [bad (by unfold ckT; rw [decide_eq_false (by omega), Bool.false_and])]; rfl, rfl, rfl⟩)
   ·simp only [dF c2, cond_false] at hn'
    exact (hn' _ _ _ _).trans (qq_ok ⟨⟨by omega, by omega⟩, rfl, rfl, rfl⟩)
end

end Go.Proofs

/- The reference's scores: what the call answers. -/
namespace Go.Proofs
open Go Go.Ev Go.Num
set_option linter.unusedVariables false
set_option linter.unusedSimpArgs false
set_option maxRecDepth 100000

def OsI (f : Nat → Int) (i : Nat) (E : Value) (os : OO) : Prop := (i = 0 ∧ E = nilT ∧ os = []) ∨ (i ≠ 0 ∧ E = gwT 0 i ∧ os = [oIn5 (ixN f i) 0])
theorem ix_snoc (f : Nat → Int) (i : Nat) : ixN f i ++ [I (f i)] = ixN f (i + 1) := by
 unfold ixN
 rw [List.range_succ, List.map_append]
 rfl
section
variable {r : Mem} {b off n cap : Nat} {T : List (List Bool)}
theorem rs_ok (hM : TabM r b off T) (hn : T.length = n) (hl : lenN T T.length = true) (h1 : 1 ≤ T.length) (hn2 : T.length ≤ 1000) : GrM Tryz.prog r 15 [RS b off n cap] (gwT 0 T.length) (rowA (ixN (scZ T) T.length) 3 1) := by
 subst hn
 refine GrM.ofS (C := SC r) rfl rfl (callO (SC_ok r) (by kernel_rfl) ((bodySC r _).trans RSc_eq) (nt := 33) (by kernel_rfl) (rs := [.tmp 2]) (by kernel_rfl) 125 rfl ⟨[2], [], fun vs ms os => vs = [some (gwT 0 T.length)] ∧ ms = [] ∧ os = [oIn5 (ixN (scZ T) T.length) 0]⟩ ?_ fun γ W F kk hwr hF hro h0' => ?_)
 ·rintro vs ms os ⟨rfl, rfl, rfl⟩
  exact ⟨_, mkA [oIn5 (ixN (scZ T) T.length) 0], by kernel_rfl, rfl, rfl⟩
 have h0' : ∀ i, 0 ≤ i → γ i = none := h0'
 have w1 : ∀ k : Nat, k ≤ 1000 → IntKind.wrap IntKind.i64 ((k : Int) + ((1 : Nat) : Int)) = ((k + 1 : Nat) : Int) := fun k hk => inc1' (by omega)
 have e0 : ∀ o k : Nat, Nat.add o (Nat.mul k 1) = o + k := fun o k => by simp
 have nn : ∀ k, m_nns (ixN (scZ T) k) = true := fun k => ix_nn _ _
 have hlen := fun i hi => lenN_get hl i hi
 let X0 : Outs := ⟨[3], [], fun vs ms os => vs = [some (gwT 0 T.length)] ∧ ms = [] ∧ os = [oIn5 (ixN (scZ T) T.length) 0]⟩
 refine Go.Ev.Reach.after3R (SC_ok r) TOk.nil (tm := .nil) (L := 1) (L' := 1) (d := 1) hF hro h0' (.step (.step .base))
  (o1 := ⟨[0, 3, 4], [], fun vs ms os => vs = vRs2 b off T.length cap nilT 0 ∧ ms = [] ∧ os = []⟩)
  (o2 := X0) [] (fun p hp => nomatch hp) ?_ ?_ ?_
 ·rintro vs ms os ⟨rfl, rfl, rfl⟩
  refine Go.Ev.Reach.blockC (Go.Ev.Reach.loopC (j := T.length) (lv := [0, 3, 4]) (fl := []) (I := fun j vs ms os => ∃ i : Nat, i ≤ T.length ∧ j = T.length - i ∧ ms = [] ∧ ∃ E, OsI (scZ T) i E os ∧ vs = vRs2 b off T.length cap E i) (fun j vs ms os hI => ?_) ⟨0, by omega, rfl, rfl, nilT, .inl ⟨rfl, rfl, rfl⟩, rfl⟩)
  obtain ⟨i, hi, rfl, rfl, E, hE, rfl⟩ := hI
  refine Go.Ev.Reach.seqC (o1 := ⟨[0, 3, 4], [], fun vs ms os => i < T.length ∧ ms = [] ∧ ∃ E, OsI (scZ T) i E os ∧ vs = vRs2 b off T.length cap E i⟩) (Go.Ev.Reach.segR (SC_ok r) TOk.nil (tm := .nil) (L := 1) (L' := 1) (d := 1) hF hro h0' [(0, X0)] (fun p hp => by simp only [List.mem_cons, List.not_mem_nil, or_false] at hp; subst hp; rfl) ?_) fun vs ms os hq => ?_
  ·rcases hE with ⟨i0, rfl, rfl⟩ | ⟨i0, rfl, rfl⟩
   ·have hn' := rsBn r b off T.length cap i
    simp only [Int.ofNat_eq_natCast, dT (show (i : Int) < (T.length : Int) by omega), cond_true] at hn'
    exact (hn' _ _ _ _).trans (qq_ok ⟨by omega, rfl, nilT, .inl ⟨i0, rfl, rfl⟩, rfl⟩)
   ·have hn' := rsBo r b off T.length cap i i (ixN (scZ T) i)
    simp only [Int.ofNat_eq_natCast, nn, Bool.and_true, cond_true] at hn'
    by_cases c : i < T.length
    ·simp only [dT (show (i : Int) < (T.length : Int) by omega), cond_true] at hn'
     exact (hn' _ _ _ _).trans (qq_ok ⟨c, rfl, gwT 0 i, .inr ⟨i0, rfl, rfl⟩, rfl⟩)
    ·obtain rfl : i = T.length := by omega
     simp only [dF (show ¬ (T.length : Int) < (T.length : Int) by omega), cond_false] at hn'
     exact (hn' _ _ _ _).trans (qq_ok ⟨rfl, rfl, rfl⟩)
  ·obtain ⟨hi', rfl, E, hE, rfl⟩ := hq
   refine Go.Ev.Reach.seqC (o1 := ⟨[0, 3, 4], [], fun vs ms os => ms = [] ∧ vs = vRs2 b off T.length cap (gwT 0 (i + 1)) i ∧ os = [oIn5 (ixN (scZ T) (i + 1)) 0]⟩) (Go.Ev.Reach.blockC ?_) fun vs ms os hq => ?_
   ·obtain ⟨bi, oi, ci, hui, hri⟩ := tab_RS hM hi' (by rw [hlen i hi']; omega)
    rw [hlen i hi'] at hui hri
    refine Go.Ev.Reach.after3R (SC_ok r) TOk.nil (tm := .nil) (L := 1) (L' := 1) (d := 1) hF hro h0' (.step .base)
     (o1 := ⟨[0, 3, 4, 5, 6], [], fun vs ms os => ms = [] ∧ ∃ E, OsI (scZ T) i E os ∧ vs = vRs4 b off T.length cap E i 0 0⟩)
     (o2 := ⟨[0, 3, 4, 5], [], fun vs ms os => ms = [] ∧ ∃ E, OsI (scZ T) i E os ∧ vs = [some (RS b off T.length cap), some E, some (I (i : Nat)), some (I (cnR T i T.length : Nat))]⟩) [] (fun p hp => nomatch hp) ?_ ?_ ?_
    ·rintro vs ms os ⟨rfl, E, hE, rfl⟩
     refine Go.Ev.Reach.blockC (Go.Ev.Reach.loopC (j := T.length) (lv := [0, 3, 4, 5, 6]) (fl := []) (I := fun j vs ms os => ∃ k : Nat, k ≤ T.length ∧ j = T.length - k ∧ ms = [] ∧ ∃ E, OsI (scZ T) i E os ∧ vs = vRs4 b off T.length cap E i (cnR T i k) k) (fun j vs ms os hI => ?_) ⟨0, by omega, rfl, rfl, E, hE, rfl⟩)
     obtain ⟨k, hk, rfl, rfl, E, hE, rfl⟩ := hI
     have b1 : Nat.blt i T.length = true := Nat.ble_eq_true_of_le (by omega)
     have hc := cnR_le T i k
     refine segSh 2 TOk.nil (tm := .nil) (L := 1) (L' := 1) (d := 1) hF hro h0' [(2, ⟨[0, 3, 4, 5], [], fun vs ms os => ms = [] ∧ ∃ E, OsI (scZ T) i E os ∧ vs = [some (RS b off T.length cap), some E, some (I (i : Nat)), some (I (cnR T i T.length : Nat))]⟩)] (fun p hp => by simp only [List.mem_cons, List.not_mem_nil, or_false] at hp; subst hp; rfl) ?_
     by_cases c : k < T.length
     ·have b2 : Nat.blt k T.length = true := Nat.ble_eq_true_of_le (by omega)
      have hs : (if gT T i k then cnR T i k + 1 else cnR T i k) = cnR T i (k + 1) := rfl
      rcases hE with ⟨i0, rfl, rfl⟩ | ⟨i0, rfl, rfl⟩
      ·have hn' := rsDn r b off T.length cap i (cnR T i k) k
       simp only [Int.ofNat_eq_natCast, Int.toNat_natCast, dT (show (k : Int) < (T.length : Int) by omega), cond_true, b1, b2, e0, hui, ro_RS, ln_RS, bk_RS, of_RS, hri k c, b_bl, o_bl, w1 k (by omega), w1 (cnR T i k) (by omega)] at hn'
       cases hg : gT T i k with
       | true =>
        rw [hg] at hs
        simp only [hg, cond_true] at hn'
        exact (hn' _ _ _ _).trans (qq_ok ⟨T.length - (k + 1), by omega, k + 1, c, rfl, rfl, nilT, .inl ⟨i0, rfl, rfl⟩, by rw [← hs]; rfl⟩)
       | false =>
        rw [hg] at hs
        simp only [hg, cond_false] at hn'
        exact (hn' _ _ _ _).trans (qq_ok ⟨T.length - (k + 1), by omega, k + 1, c, rfl, rfl, nilT, .inl ⟨i0, rfl, rfl⟩, by rw [← hs]; rfl⟩)
      ·have hn' := rsDo r b off T.length cap i (cnR T i k) k i (ixN (scZ T) i)
       simp only [Int.ofNat_eq_natCast, Int.toNat_natCast, dT (show (k : Int) < (T.length : Int) by omega), cond_true, b1, b2, e0, hui, ro_RS, ln_RS, bk_RS, of_RS, hri k c, b_bl, o_bl, w1 k (by omega), w1 (cnR T i k) (by omega), nn, Bool.and_true] at hn'
       cases hg : gT T i k with
       | true =>
        rw [hg] at hs
        simp only [hg, cond_true] at hn'
        exact (hn' _ _ _ _).trans (qq_ok ⟨T.length - (k + 1), by omega, k + 1, c, rfl, rfl, gwT 0 i, .inr ⟨i0, rfl, rfl⟩, by rw [← hs]; rfl⟩)
       | false =>
        rw [hg] at hs
        simp only [hg, cond_false] at hn'
        exact (hn' _ _ _ _).trans (qq_ok ⟨T.length - (k + 1), by omega, k + 1, c, rfl, rfl, gwT 0 i, .inr ⟨i0, rfl, rfl⟩, by rw [← hs]; rfl⟩)
     ·obtain rfl : k = T.length := by omega
      rcases hE with ⟨i0, rfl, rfl⟩ | ⟨i0, rfl, rfl⟩
      ·have hn' := rsDn r b off T.length cap i (cnR T i T.length) T.length
       simp only [Int.ofNat_eq_natCast, dF (show ¬ (T.length : Int) < (T.length : Int) by omega), cond_false] at hn'
       exact (hn' _ _ _ _).trans (qq_ok ⟨rfl, nilT, .inl ⟨i0, rfl, rfl⟩, rfl⟩)
      ·have hn' := rsDo r b off T.length cap i (cnR T i T.length) T.length i (ixN (scZ T) i)
       simp only [Int.ofNat_eq_natCast, dF (show ¬ (T.length : Int) < (T.length : Int) by omega), cond_false, nn, Bool.and_true, cond_true] at hn'
       exact (hn' _ _ _ _).trans (qq_ok ⟨rfl, gwT 0 i, .inr ⟨i0, rfl, rfl⟩, rfl⟩)
    ·rintro vs ms os ⟨rfl, E, hE, rfl⟩
     refine Go.Ev.Reach.segR (SC_ok r) TOk.nil (tm := .nil) (L := 1) (L' := 1) (d := 1) hF hro h0' [] (fun p hp => nomatch hp) ?_
     rcases hE with ⟨i0, rfl, rfl⟩ | ⟨i0, rfl, rfl⟩
     ·subst i0
      exact (rsEn r b off T.length cap 0 (cnR T 0 T.length) _ _ _ _).trans (qq_ok ⟨rfl, rfl, rfl⟩)
     ·have hn' := rsEo r b off T.length cap i (cnR T i T.length) i (ixN (scZ T) i)
      have b3 : Nat.ble (Nat.add i 1) 1000000 = true := Nat.ble_eq_true_of_le (by simp; omega)
      have tk : takeAt (ixN (scZ T) i) 0 (Nat.mul i 1) = some (ixN (scZ T) i) := takeL_row _ _ (by rw [ix_len]; simp)
      have ap : ixN (scZ T) i ++ [I ((cnR T i T.length : Nat) : Int)] = ixN (scZ T) (i + 1) := ix_snoc (scZ T) i
      simp only [Int.ofNat_eq_natCast, b3, tk, ap, nn, Bool.and_true, cond_true] at hn'
      exact (hn' _ _ _ _).trans (qq_ok ⟨rfl, rfl, rfl⟩)
    ·rcases hE with ⟨i0, rfl, rfl⟩ | ⟨i0, rfl, rfl⟩
     ·exact (rsCn r b off T.length cap i _ _ _ _).trans (qq_ok ⟨rfl, nilT, .inl ⟨i0, rfl, rfl⟩, rfl⟩)
     ·have hn' := rsCo r b off T.length cap i i (ixN (scZ T) i)
      simp only [nn, Bool.and_true, cond_true] at hn'
      exact (hn' _ _ _ _).trans (qq_ok ⟨rfl, gwT 0 i, .inr ⟨i0, rfl, rfl⟩, rfl⟩)
   ·obtain ⟨rfl, rfl, rfl⟩ := hq
    refine Go.Ev.Reach.segR (SC_ok r) TOk.nil (tm := .nil) (L := 1) (L' := 1) (d := 1) hF hro h0' [] (fun p hp => nomatch hp) ?_
    have hn' := rsFo r b off T.length cap i (i + 1) (ixN (scZ T) (i + 1))
    simp only [Int.ofNat_eq_natCast, nn, Bool.and_true, cond_true, w1 i (by omega)] at hn'
    exact (hn' _ _ _ _).trans (qq_ok ⟨T.length - (i + 1), by omega, i + 1, hi', rfl, rfl, gwT 0 (i + 1), .inr ⟨by omega, rfl, rfl⟩, rfl⟩)
 ·rintro vs ms os ⟨rfl, rfl, rfl⟩
  refine Go.Ev.Reach.segR (SC_ok r) TOk.nil (tm := .nil) (L := 1) (L' := 1) (d := 1) hF hro h0' [] (fun p hp => nomatch hp) ?_
  have hn' := rsGo r T.length (ixN (scZ T) T.length)
  simp only [nn, Bool.and_true, cond_true] at hn'
  exact (hn' _ _ _ _).trans (qq_ok ⟨rfl, rfl, rfl⟩)
 ·exact (rsA r b off T.length cap _ _ _ _).trans (qq_ok ⟨rfl, rfl, rfl⟩)
end

end Go.Proofs

