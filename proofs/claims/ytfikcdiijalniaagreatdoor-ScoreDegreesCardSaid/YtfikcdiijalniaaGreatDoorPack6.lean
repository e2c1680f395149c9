/- What the claim is proved with, part 6: the evaluator and the contracts of the calls. -/
import Derived.Test.YtfikcdiijalniaaGreatDoorPack5
import Derived.Test.YtfikcdiijalniaaGreatDoorPack4
import Derived.Test.YtfikcdiijalniaaGreatDoorPack1
import Init
import Derived.Test.YtfikcdiijalniaaGreatDoorPack3
import Derived.Test.YtfikcdiijalniaaGreatDoorPack2
/- realize: what the call answers. -/
namespace Go.Proofs
open Go Go.Ev Go.Num
set_option linter.unusedVariables false
set_option linter.unusedSimpArgs false
set_option maxRecDepth 100000

def JH (n : Nat) (L : List Nd) (es : List (Int × Int)) (vs : OV) (ms : List Nat) (os : OO) : Prop :=
 ms = [] ∧ ∃ off cap c z, (∀ j, j < 2 * L.length → c[off + j]? = some (I (z j))) ∧ prL z L.length = L ∧ m_nns c = true ∧ (L.length = 0 ∨ Nat.beq cap unkE = false) ∧
  ((es = [] ∧ vs = [some (cuD off L.length cap), some nilE] ∧ os = [oNd c 0]) ∨ (es ≠ [] ∧ vs = [some (cuD off L.length cap), some (gw 1 es.length)] ∧ os = [oNd c 0, oPr (es.flatMap encP) 1]))
def GoodL (n : Nat) (L : List Nd) (es : List (Int × Int)) : Prop := L.length ≤ n ∧ (L.map Prod.snd).Nodup ∧ es.length ≤ 16 * (16 - L.length)
def RzA (T : Option (List (Int × Int))) (vs : OV) (os : OO) : Prop := match T with
 | none => vs = [some nilE, some (.bool false)] ∧ os = []
 | some E => (E = [] ∧ vs = [some nilE, some (.bool true)] ∧ os = []) ∨ (E ≠ [] ∧ vs = [some (gw 0 E.length), some (.bool true)] ∧ os = [oPr ((srtE E).flatMap encP) 0])
def RzE (T : Option (List (Int × Int))) (vs : OV) (os : OO) : Prop := ∃ E, T = some E ∧ E.length ≤ 256 ∧ ((E = [] ∧ vs = [some nilE] ∧ os = []) ∨ (E ≠ [] ∧ vs = [some (gw 0 E.length)] ∧ os = [oPr (E.flatMap encP) 0]))
def JI (x o : Int) (R : List Nd) (es : List (Int × Int)) (j : Nat) (vs : OV) (ms : List Nat) (os : OO) : Prop :=
 ms = [] ∧ ∃ es' : List (Int × Int), es' = es ++ (R.take (j - 1)).map (edD o) ∧
  ((es' = [] ∧ vs = vRI (R.length + 1) (x.toNat + 1) nilE j ∧ os = [oNd (ixN (zP ((x, o) :: decD R (j - 1))) (2 * (R.length + 1))) 0, oFi x o]) ∨
   (es' ≠ [] ∧ vs = vRI (R.length + 1) (x.toNat + 1) (gw 2 es'.length) j ∧ os = [oNd (ixN (zP ((x, o) :: decD R (j - 1))) (2 * (R.length + 1))) 0, oFi x o, oPr (es'.flatMap encP) 2]))
theorem flat_nn (E : List (Int × Int)) : m_nns (E.flatMap encP) = true := by rw [← zP_flat]; exact ix_nn _ _
theorem flat_len2 (E : List (Int × Int)) : (E.flatMap encP).length = 2 * E.length := by rw [← zP_flat]; exact ix_len _ _
theorem wrN {a : Int} (h : -100 ≤ a ∧ a ≤ 100) : IntKind.wrap IntKind.i64 a = a := wrI (by omega)

section
variable {r : Mem} {b off n cap : Nat} {z : Nat → Int}
theorem rl_sort {L : List Nd} {es : List (Int × Int)} {vs : OV} {ms : List Nat} {os : OO} (hJ : JH n L es vs ms os) (hg : GoodL n L es) (hn : n ≤ 16) (h1 : 1 ≤ L.length) {x o : Int} {R : List Nd} (hs : srtD L = (x, o) :: R) :
  (∀ (on orr : Outs), on = ⟨lvRI, [], fun vs ms os => ¬ ((R.length : Int) < x ∨ lsD ((x, o) :: R) < 0) ∧ JI x o R es 0 vs ms os⟩ → orr = ⟨[2, 3], [], fun vs ms os => ms = [] ∧ RzA (totF L es) vs os⟩ →
   ∃ t, TOk (SC r) t ∧ run (SC r) 7696581394941 69 1 (.seq RL_4 (.seq RL_5 (.seq RL_6 RL_7))) (lvlT (SC r) t .nil 1 1) none (on.ask 0) (Outs.ats 0 []) (orr.ask 0) [] (bT lvRL vs .nil) ms (mkA os) = okR) := by
 rintro on orr rfl rfl
 obtain ⟨rfl, off, cap, c, z, hc, hpr, hnn, hcap, hcase⟩ := hJ
 have hl : L.length = R.length + 1 := by rw [← srtD_len L, hs]; rfl
 have hcap' : Nat.beq cap unkE = false := by rcases hcap with h | h; omega; exact h
 have hLn := hg.1
 have heq : (srtD L).flatMap encP = ixN (zP ((x, o) :: R)) (2 * L.length) := by
  rw [hs, ← zP_flat, hl]
  rfl
 have he := eSoD_ok (r := r) (off := off) (cap := cap) (c := c) h1 (by omega) hcap' hc
 rw [hpr, heq] at he
 refine ⟨tRlS off L.length cap c (ixN (zP ((x, o) :: R)) (2 * L.length)), TOk.nil.cons he, ?_⟩
 have g0 : (ixN (zP ((x, o) :: R)) (2 * L.length))[0]? = some (I x) := ix_get (by omega)
 have g1 : (ixN (zP ((x, o) :: R)) (2 * L.length))[1]? = some (I o) := ix_get (by omega)
 have w1 : IntKind.wrap IntKind.i64 ((L.length : Int) - 1) = ((L.length - 1 : Nat) : Int) := by rw [wrN (by omega)]; omega
 have b1 : Nat.blt 0 L.length = true := Nat.ble_eq_true_of_le (by omega)
 have b2 : Nat.blt (L.length - 1) L.length = true := Nat.ble_eq_true_of_le (by omega)
 have p0 : (0 : Int) ≤ ((L.length - 1 : Nat) : Int) := by omega
 have i0 : Nat.add (Nat.add 0 (Nat.mul (L.length - 1) 2)) 0 = 2 * R.length := by simp; omega
 have g2 : (ixN (zP ((x, o) :: R)) (2 * L.length))[2 * R.length]? = some (I (lsD ((x, o) :: R))) := by
  rw [ix_get (by omega), zP_even, lsD_get (by simp)]
  rfl
 have nn2 := ix_nn (zP ((x, o) :: R)) (2 * L.length)
 have nnE := flat_nn es
 have nnF : m_nns [I x, I o] = true := rfl
 rcases hcase with ⟨he0, rfl, rfl⟩ | ⟨he0, rfl, rfl⟩
 ·have hn' := rlCn r off L.length cap c (ixN (zP ((x, o) :: R)) (2 * L.length))
  simp only [Int.ofNat_eq_natCast, Int.toNat_natCast, svv_rfl, cond_true, b1, g0, g1, isI_I] at hn'
  dsimp +instances only [ofI_I] at hn'
  by_cases c1 : x ≥ (L.length : Int)
  ·simp only [dT c1, cond_true] at hn'
   refine (hn' _ _ _).trans (qq_ok ⟨rfl, ?_⟩)
   rw [totF_none hs (.inl (by omega))]
   exact ⟨rfl, rfl⟩
  ·simp only [dF c1, cond_false, Int.ofNat_eq_natCast, Int.reduceSub, show ((1 : Nat) : Int) = 1 from rfl, w1, Int.toNat_natCast, dT p0, cond_true, b2, i0, g2, isI_I] at hn'
   dsimp +instances only [ofI_I] at hn'
   by_cases c2 : lsD ((x, o) :: R) < 0
   ·simp only [dT c2, cond_true] at hn'
    refine (hn' _ _ _).trans (qq_ok ⟨rfl, ?_⟩)
    rw [totF_none hs (.inr c2)]
    exact ⟨rfl, rfl⟩
   ·have hbad : ¬ ((R.length : Int) < x ∨ lsD ((x, o) :: R) < 0) := by omega
    obtain ⟨x0, x1, _⟩ := srt_bnd hs hbad
    have w2 : IntKind.wrap IntKind.i64 (x + 1) = ((x.toNat + 1 : Nat) : Int) := by rw [wrN (by omega)]; omega
    have p1 : (0 : Int) ≤ ((x.toNat + 1 : Nat) : Int) := by omega
    have b3 : Nat.ble (x.toNat + 1) L.length = true := Nat.ble_eq_true_of_le (by omega)
    simp only [dF c2, cond_false, w2, Int.toNat_natCast, dT p1, cond_true, b3, nn2, nnF, Bool.and_true] at hn'
    refine (hn' _ _ _).trans (qq_ok ⟨hbad, rfl, es, by simp, .inl ⟨he0, ?_, ?_⟩⟩)
    ·rw [hl]; rfl
    ·rw [hl]; rfl
 ·have hn' := rlCo r off L.length cap c (ixN (zP ((x, o) :: R)) (2 * L.length)) es.length (es.flatMap encP)
  simp only [Int.ofNat_eq_natCast, Int.toNat_natCast, svv_rfl, cond_true, b1, g0, g1, isI_I] at hn'
  dsimp +instances only [ofI_I] at hn'
  by_cases c1 : x ≥ (L.length : Int)
  ·simp only [dT c1, cond_true] at hn'
   refine (hn' _ _ _).trans (qq_ok ⟨rfl, ?_⟩)
   rw [totF_none hs (.inl (by omega))]
   exact ⟨rfl, rfl⟩
  ·simp only [dF c1, cond_false, Int.ofNat_eq_natCast, Int.reduceSub, show ((1 : Nat) : Int) = 1 from rfl, w1, Int.toNat_natCast, dT p0, cond_true, b2, i0, g2, isI_I] at hn'
   dsimp +instances only [ofI_I] at hn'
   by_cases c2 : lsD ((x, o) :: R) < 0
   ·simp only [dT c2, cond_true] at hn'
    refine (hn' _ _ _).trans (qq_ok ⟨rfl, ?_⟩)
    rw [totF_none hs (.inr c2)]
    exact ⟨rfl, rfl⟩
   ·have hbad : ¬ ((R.length : Int) < x ∨ lsD ((x, o) :: R) < 0) := by omega
    obtain ⟨x0, x1, _⟩ := srt_bnd hs hbad
    have w2 : IntKind.wrap IntKind.i64 (x + 1) = ((x.toNat + 1 : Nat) : Int) := by rw [wrN (by omega)]; omega
    have p1 : (0 : Int) ≤ ((x.toNat + 1 : Nat) : Int) := by omega
    have b3 : Nat.ble (x.toNat + 1) L.length = true := Nat.ble_eq_true_of_le (by omega)
    simp only [dF c2, cond_false, w2, Int.toNat_natCast, dT p1, cond_true, b3, nn2, nnF, nnE, Bool.and_true] at hn'
    refine (hn' _ _ _).trans (qq_ok ⟨hbad, rfl, es, by simp, .inr ⟨he0, ?_, ?_⟩⟩)
    ·rw [hl]; rfl
    ·rw [hl]; rfl
end

end Go.Proofs

/- realize: the inner loop's round. -/
namespace Go.Proofs
open Go Go.Ev Go.Num
set_option linter.unusedVariables false
set_option linter.unusedSimpArgs false
set_option maxRecDepth 100000

def JE (x o : Int) (R : List Nd) (es : List (Int × Int)) (vs : OV) (ms : List Nat) (os : OO) : Prop := ¬ ((R.length : Int) < x ∨ lsD ((x, o) :: R) < 0) ∧ ms = [] ∧ ∃ es', es' = es ++ (R.take x.toNat).map (edD o) ∧
 ((es' = [] ∧ vs = [some (gw 0 (R.length + 1)), some nilE] ∧ os = [oNd (ixN (zP ((x, o) :: decD R x.toNat)) (2 * (R.length + 1))) 0]) ∨ (es' ≠ [] ∧ vs = [some (gw 0 (R.length + 1)), some (gw 1 es'.length)] ∧ os = [oNd (ixN (zP ((x, o) :: decD R x.toNat)) (2 * (R.length + 1))) 0, oPr (es'.flatMap encP) 1]))
section
variable {r : Mem}
theorem rl_in {n : Nat} {L : List Nd} {es : List (Int × Int)} {vs : OV} {ms : List Nat} {os : OO} {j : Nat} {x o : Int} {R : List Nd} (hg : GoodL n L es) (hn : n ≤ 16) (hs : srtD L = (x, o) :: R) (hbad : ¬ ((R.length : Int) < x ∨ lsD ((x, o) :: R) < 0)) (hj : j ≤ x.toNat + 1) (hJ : JI x o R es j vs ms os)  :
  ∀ (on ox : Outs) (kr : KS), on = ⟨lvRI, [], fun vs ms os => ∃ q, q < x.toNat + 1 - j ∧ ∃ j', j' ≤ x.toNat + 1 ∧ q = x.toNat + 1 - j' ∧ JI x o R es j' vs ms os⟩ → ox = ⟨lvRL, [], fun vs ms os => JE x o R es vs ms os⟩ →
   run (SC r) 7696581394941 69 1 RL_8 (lvlT (SC r) (fun _ => none) .nil 1 3) none (on.ask 0) (Outs.ats 0 [(2, ox)]) kr [] (bT lvRI vs .nil) ms (mkA os) = okR := by
 rintro on ox kr rfl rfl
 have hl : L.length = R.length + 1 := by rw [← srtD_len L, hs]; rfl
 have hLn := hg.1
 have hEs := hg.2.2
 obtain ⟨x0, x1, xt⟩ := srt_bnd hs hbad
 obtain ⟨ow1, ow2⟩ := srt_own hs hg.2.1
 obtain ⟨rfl, es', he', hcase⟩ := hJ
 have hlen' : es'.length ≤ es.length + R.length := by rw [he']; simp; omega
 have hc0 : ∀ j, j < R.length + 1 → (ixN (zP ((x, o) :: decD R (j - 1))) (2 * (R.length + 1)))[2 * j]? = some (I (((x, o) :: R).getD j (0, 0)).1) ∧ (ixN (zP ((x, o) :: decD R (j - 1))) (2 * (R.length + 1)))[2 * j + 1]? = some (I (((x, o) :: R).getD j (0, 0)).2) := fun j hj => by
  rw [ix_get (by omega), ix_get (by omega), zP_even, zP_odd]
  cases j with
  | zero => exact ⟨rfl, rfl⟩
  | succ j =>
   rw [List.getD_cons_succ, List.getD_cons_succ, dec_get R _ j (by omega), if_neg (by omega)]
   exact ⟨rfl, rfl⟩
 have nn2 := ix_nn (zP ((x, o) :: decD R (j - 1))) (2 * (R.length + 1))
 have nnE := flat_nn es'
 have nnF : m_nns [I x, I o] = true := rfl
 by_cases c : j < x.toNat + 1
 ·obtain ⟨d1, d2⟩ := hc0 j (by omega)
  have c1 : (j : Int) < ((x.toNat + 1 : Nat) : Int) := by omega
  have c2 : Nat.blt j (x.toNat + 1) = true := Nat.ble_eq_true_of_le (by omega)
  have i0 : Nat.add 0 (Nat.mul j 2) = 2 * j := by simp; omega
  have i1 : Nat.succ (2 * j) = 2 * j + 1 := rfl
  have i2 : Nat.add (2 * j) 0 = 2 * j := rfl
  have e3 : IntKind.wrap IntKind.i64 ((j : Int) + Int.ofNat 1) = ((j + 1 : Nat) : Int) := inc1' (by omega)
  simp only [Int.ofNat_eq_natCast] at e3
  cases j with
  | zero =>
   have hv : ((x, o) :: R).getD 0 (0, 0) = (x, o) := rfl
   rw [hv] at d1 d2
   have hz : es' = es := by rw [he']; simp
   subst hz
   have q0 : (!(x == x && o == o)) = false := by simp
   rcases hcase with ⟨he0, rfl, rfl⟩ | ⟨he0, rfl, rfl⟩
   ·have hn' := rlDn r (R.length + 1) (x.toNat + 1) 0 x o (ixN (zP ((x, o) :: decD R (0 - 1))) (2 * (R.length + 1)))
    simp only [Int.ofNat_eq_natCast, Int.toNat_natCast, dT c1, c2, cond_true, i0, i1, d1, d2, isI_I] at hn'
    dsimp +instances only [ofI_I] at hn'
    simp only [q0, cond_false, nn2, nnF, Bool.and_true, cond_true, e3] at hn'
    exact (hn' _ _ _).trans (qq_ok ⟨x.toNat + 1 - 1, by omega, 1, by omega, rfl, rfl, es', by simp, .inl ⟨he0, rfl, rfl⟩⟩)
   ·have hn' := rlDo r (R.length + 1) (x.toNat + 1) 0 x o (ixN (zP ((x, o) :: decD R (0 - 1))) (2 * (R.length + 1))) es'.length (es'.flatMap encP)
    simp only [Int.ofNat_eq_natCast, Int.toNat_natCast, dT c1, c2, cond_true, i0, i1, d1, d2, isI_I] at hn'
    dsimp +instances only [ofI_I] at hn'
    simp only [q0, cond_false, nn2, nnF, nnE, Bool.and_true, cond_true, e3] at hn'
    exact (hn' _ _ _).trans (qq_ok ⟨x.toNat + 1 - 1, by omega, 1, by omega, rfl, rfl, es', by simp, .inr ⟨he0, rfl, rfl⟩⟩)
  | succ i =>
   have hiR : i < R.length := by omega
   rw [List.getD_cons_succ] at d1 d2
   have hot := ow2 i hiR
   obtain ⟨xt1, xt2⟩ := xt i hiR
   obtain ⟨p1, p2, hp⟩ : ∃ p1 p2, R.getD i (0, 0) = (p1, p2) := ⟨_, _, rfl⟩
   rw [hp] at d1 d2 hot xt1 xt2
   simp only at d1 d2 hot xt1 xt2
   have hset := dec_set (x, o) R i hiR
   rw [hp] at hset
   simp only at hset
   have nn3 := ix_nn (zP ((x, o) :: decD R (i + 1))) (2 * (R.length + 1))
   have nn4 : m_nns [I (min o p2), I (max o p2)] = true := rfl
   have q0 : (!(p1 == x && (p2 == o && true))) = true := by
    have : (p2 == o) = false := by simpa using hot
    rw [this]; simp
   have e1 : (bif decide (p2 < o) then p2 else o) = min o p2 := by
    by_cases h : p2 < o
    ·rw [dT h, cond_true]; omega
    ·rw [dF h, cond_false]; omega
   have e2 : (bif decide (p2 > o) then p2 else o) = max o p2 := by
    by_cases h : p2 > o
    ·rw [dT h, cond_true]; omega
    ·rw [dF h, cond_false]; omega
   have w1 : IntKind.wrap IntKind.i64 (p1 - 1) = p1 - 1 := wrN (by omega)
   have b1 : Nat.blt (i + 1) (R.length + 1) = true := Nat.ble_eq_true_of_le (by omega)
   have b2 : Nat.blt (2 * (i + 1)) (ixN (zP ((x, o) :: decD R i)) (2 * (R.length + 1))).length = true := by rw [ix_len]; exact Nat.ble_eq_true_of_le (by omega)
   have hij : i + 1 - 1 = i := rfl
   rw [hij] at he' nn2 d1 d2 hcase
   have hes2 : es' ++ [(min o p2, max o p2)] = es ++ (R.take (i + 2 - 1)).map (edD o) := by
    rw [show i + 2 - 1 = i + 1 from rfl, take_ed hiR, hp, he', List.append_assoc]
    rfl
   rcases hcase with ⟨he0, rfl, rfl⟩ | ⟨he0, rfl, rfl⟩
   ·have hn' := rlDn r (R.length + 1) (x.toNat + 1) (i + 1) x o (ixN (zP ((x, o) :: decD R i)) (2 * (R.length + 1)))
    simp only [Int.ofNat_eq_natCast, Int.toNat_natCast, dT c1, c2, cond_true, i0, i1, d1, d2, isI_I] at hn'
    dsimp +instances only [ofI_I] at hn'
    simp only [q0, cond_true, b1, i2, d1, isI_I, b2] at hn'
    dsimp +instances only [ofI_I] at hn'
    simp only [show ((1 : Nat) : Int) = 1 from rfl, w1, hset, e1, e2, nn3, nnF, nn4, Bool.and_true, cond_true] at hn' e3
    simp only [e3] at hn'
    refine (hn' _ _ _).trans (qq_ok ⟨x.toNat + 1 - (i + 2), by omega, i + 2, by omega, rfl, rfl, _, hes2, .inr ⟨by simp, ?_, ?_⟩⟩)
    ·rw [he0]; rfl
    ·rw [he0]; rfl
   ·have hn' := rlDo r (R.length + 1) (x.toNat + 1) (i + 1) x o (ixN (zP ((x, o) :: decD R i)) (2 * (R.length + 1))) es'.length (es'.flatMap encP)
    have b3 : Nat.ble (Nat.add es'.length 1) 1000000 = true := Nat.ble_eq_true_of_le (by simp; omega)
    have tk : takeAt (es'.flatMap encP) 0 (Nat.mul es'.length 2) = some (es'.flatMap encP) := takeL_row _ _ (by rw [flat_len2]; simp; omega)
    have ap : es'.flatMap encP ++ [I (min o p2), I (max o p2)] = (es' ++ [(min o p2, max o p2)]).flatMap encP := by simp [encP]
    have nn5 := flat_nn (es' ++ [(min o p2, max o p2)])
    simp only [Int.ofNat_eq_natCast, Int.toNat_natCast, dT c1, c2, cond_true, i0, i1, d1, d2, isI_I] at hn'
    dsimp +instances only [ofI_I] at hn'
    simp only [q0, cond_true, b1, i2, d1, isI_I, b2, b3, tk] at hn'
    dsimp +instances only [ofI_I] at hn'
    simp only [show ((1 : Nat) : Int) = 1 from rfl, w1, hset, e1, e2, ap, nn3, nnF, nn5, Bool.and_true, cond_true] at hn' e3
    simp only [e3] at hn'
    refine (hn' _ _ _).trans (qq_ok ⟨x.toNat + 1 - (i + 2), by omega, i + 2, by omega, rfl, rfl, _, hes2, .inr ⟨by simp, ?_, ?_⟩⟩)
    ·rw [List.length_append]; rfl
    ·rfl
 ·obtain rfl : j = x.toNat + 1 := by omega
  have c1 : ¬ ((x.toNat + 1 : Nat) : Int) < ((x.toNat + 1 : Nat) : Int) := by omega
  have hij : x.toNat + 1 - 1 = x.toNat := rfl
  rw [hij] at he' nn2 hcase
  rcases hcase with ⟨he0, rfl, rfl⟩ | ⟨he0, rfl, rfl⟩
  ·have hn' := rlDn r (R.length + 1) (x.toNat + 1) (x.toNat + 1) x o (ixN (zP ((x, o) :: decD R x.toNat)) (2 * (R.length + 1)))
   simp only [Int.ofNat_eq_natCast, dF c1, cond_false, nn2, Bool.and_true, cond_true] at hn'
   exact (hn' _ _ _).trans (qq_ok ⟨hbad, rfl, es', he', .inl ⟨he0, rfl, rfl⟩⟩)
  ·have hn' := rlDo r (R.length + 1) (x.toNat + 1) (x.toNat + 1) x o (ixN (zP ((x, o) :: decD R x.toNat)) (2 * (R.length + 1))) es'.length (es'.flatMap encP)
   simp only [Int.ofNat_eq_natCast, dF c1, cond_false, nn2, nnE, Bool.and_true, cond_true] at hn'
   exact (hn' _ _ _).trans (qq_ok ⟨hbad, rfl, es', he', .inr ⟨he0, rfl, rfl⟩⟩)
end

end Go.Proofs

/- realize: what the call answers. -/
namespace Go.Proofs
open Go Go.Ev Go.Num
set_option linter.unusedVariables false
set_option linter.unusedSimpArgs false
set_option maxRecDepth 100000

section
variable {r : Mem}
theorem rl_ask {n : Nat} {L : List Nd} {es : List (Int × Int)} {vs : OV} {ms : List Nat} {os : OO} (hJ : JH n L es vs ms os) (hg : GoodL n L es) (hn : n ≤ 16) (T : Option (List (Int × Int))) (hT : totF L es = T) :
  ∀ (on ox : Outs) (kr : KS), on = ⟨lvRL, [], fun vs ms os => 1 ≤ L.length ∧ JH n L es vs ms os⟩ → ox = ⟨[4], [], fun vs ms os => ms = [] ∧ RzE T vs os⟩ →
   run (SC r) 7696581394941 69 1 RL_3 (lvlT (SC r) (fun _ => none) .nil 1 1) none (on.ask 0) (Outs.ats 0 [(0, ox)]) kr [] (bT lvRL vs .nil) ms (mkA os) = okR := by
 rintro on ox kr rfl rfl
 obtain ⟨rfl, off, cap, c, z, hc, hpr, hnn, hcap, hcase⟩ := hJ
 have nnE := flat_nn es
 have hEs := hg.2.2
 by_cases c0 : L.length = 0
 ·have hL : L = [] := List.length_eq_zero_iff.1 c0
  subst hL
  rw [totF_nil] at hT
  subst hT
  have c1 : ¬ ((0 : Nat) : Int) > 0 := by omega
  rcases hcase with ⟨he0, rfl, rfl⟩ | ⟨he0, rfl, rfl⟩
  ·have hn' := rlBn r off 0 cap c
   simp only [Int.ofNat_eq_natCast, dF c1, cond_false] at hn'
   exact (hn' _ _ _ _).trans (qq_ok ⟨rfl, es, rfl, by omega, .inl ⟨he0, rfl, rfl⟩⟩)
  ·have hn' := rlBo r off 0 cap c es.length (es.flatMap encP)
   simp only [Int.ofNat_eq_natCast, dF c1, cond_false, nnE, Bool.and_true, cond_true] at hn'
   exact (hn' _ _ _ _).trans (qq_ok ⟨rfl, es, rfl, by simp at hEs; omega, .inr ⟨he0, rfl, rfl⟩⟩)
 ·have c1 : (L.length : Int) > 0 := by omega
  rcases hcase with ⟨he0, rfl, rfl⟩ | ⟨he0, rfl, rfl⟩
  ·have hn' := rlBn r off L.length cap c
   simp only [Int.ofNat_eq_natCast, dT c1, cond_true, hnn, Bool.and_true] at hn'
   exact (hn' _ _ _ _).trans (qq_ok ⟨by omega, rfl, off, cap, c, z, hc, hpr, hnn, hcap, .inl ⟨he0, rfl, rfl⟩⟩)
  ·have hn' := rlBo r off L.length cap c es.length (es.flatMap encP)
   simp only [Int.ofNat_eq_natCast, dT c1, cond_true, hnn, nnE, Bool.and_true] at hn'
   exact (hn' _ _ _ _).trans (qq_ok ⟨by omega, rfl, off, cap, c, z, hc, hpr, hnn, hcap, .inr ⟨he0, rfl, rfl⟩⟩)
theorem rl_cut {n : Nat} {L : List Nd} {es : List (Int × Int)} {vs : OV} {ms : List Nat} {os : OO} {x o : Int} {R : List Nd} (hg : GoodL n L es) (hn : n ≤ 16) (hs : srtD L = (x, o) :: R) (hJ : JE x o R es vs ms os) {Q : OV → List Nat → OO → Prop}
  (hQ : ¬ ((R.length : Int) < x ∨ lsD ((x, o) :: R) < 0) → ∀ vs ms os, JH n (decD R x.toNat) (es ++ (R.take x.toNat).map (edD o)) vs ms os → Q vs ms os) :
  ∀ (on : Outs) (kr : KS), on = ⟨lvRL, [], Q⟩ →
   run (SC r) 7696581394941 69 1 RL_9 (lvlT (SC r) (fun _ => none) .nil 1 1) none (on.ask 0) (Outs.ats 0 []) kr [] (bT lvRL vs .nil) ms (mkA os) = okR := by
 rintro on kr rfl
 obtain ⟨hbad, hJ⟩ := hJ
 replace hQ := hQ hbad
 obtain ⟨rfl, es', he', hcase⟩ := hJ
 have hl : L.length = R.length + 1 := by rw [← srtD_len L, hs]; rfl
 have hdl := decD_len R x.toNat
 have nn2 := ix_nn (zP ((x, o) :: decD R x.toNat)) (2 * (R.length + 1))
 have nnE := flat_nn es'
 have k1 : Nat.beq unk 9223372036854775809 = false := by decide
 have k2 : Nat.beq unk unk = true := by decide
 have k3 : Nat.ble 1 (R.length + 1) = true := Nat.ble_eq_true_of_le (by omega)
 have k4 : Nat.ble (R.length + 1) (R.length + 1) = true := Nat.ble_eq_true_of_le (by omega)
 have hcells : ∀ j, j < 2 * (decD R x.toNat).length → (ixN (zP ((x, o) :: decD R x.toNat)) (2 * (R.length + 1)))[2 + j]? = some (I (zP ((x, o) :: decD R x.toNat) (2 + j))) := fun j hj => ix_get (by omega)
 have hpr2 : prL (fun j => zP ((x, o) :: decD R x.toNat) (2 + j)) (decD R x.toNat).length = decD R x.toNat := prL_tail _ _ _ rfl
 subst he'
 by_cases c0 : R.length = 0
 ·have k5 : Nat.blt 1 (R.length + 1) = false := by rw [c0]; rfl
  have hsub : Nat.sub (R.length + 1) 1 = (decD R x.toNat).length := by rw [hdl]; rfl
  rcases hcase with ⟨he0, rfl, rfl⟩ | ⟨he0, rfl, rfl⟩
  ·have hn' := rlEn r 0 (R.length + 1) unk (ixN (zP ((x, o) :: decD R x.toNat)) (2 * (R.length + 1)))
   simp only [k1, k2, k3, k4, k5, cond_true, cond_false, nn2, Bool.and_true] at hn'
   refine (hn' _ _ _ _).trans (qq_ok (hQ _ _ _ ⟨rfl, 0, unkE, _, fun j => zP ((x, o) :: decD R x.toNat) j, fun j hj => by omega, ?_, nn2, .inl (by omega), .inl ⟨he0, ?_, rfl⟩⟩))
   ·rw [hdl, c0]
    exact (List.length_eq_zero_iff.1 (by omega : (decD R x.toNat).length = 0)).symm
   ·rw [hdl, c0]; rfl
  ·have hn' := rlEo r 0 (R.length + 1) unk (ixN (zP ((x, o) :: decD R x.toNat)) (2 * (R.length + 1))) (es ++ (R.take x.toNat).map (edD o)).length ((es ++ (R.take x.toNat).map (edD o)).flatMap encP)
   simp only [k1, k2, k3, k4, k5, cond_true, cond_false, nn2, nnE, Bool.and_true] at hn'
   refine (hn' _ _ _ _).trans (qq_ok (hQ _ _ _ ⟨rfl, 0, unkE, _, fun j => zP ((x, o) :: decD R x.toNat) j, fun j hj => by omega, ?_, nn2, .inl (by omega), .inr ⟨he0, ?_, rfl⟩⟩))
   ·rw [hdl, c0]
    exact (List.length_eq_zero_iff.1 (by omega : (decD R x.toNat).length = 0)).symm
   ·rw [hdl, c0]; rfl
 ·have k5 : Nat.blt 1 (R.length + 1) = true := Nat.ble_eq_true_of_le (by omega)
  have hsub : Nat.sub (R.length + 1) 1 = (decD R x.toNat).length := by rw [hdl]; rfl
  rcases hcase with ⟨he0, rfl, rfl⟩ | ⟨he0, rfl, rfl⟩
  ·have hn' := rlEn r 0 (R.length + 1) unk (ixN (zP ((x, o) :: decD R x.toNat)) (2 * (R.length + 1)))
   simp only [k1, k2, k3, k4, k5, cond_true, cond_false, nn2, Bool.and_true, hsub] at hn'
   exact (hn' _ _ _ _).trans (qq_ok (hQ _ _ _ ⟨rfl, 2, unk, _, _, hcells, hpr2, nn2, .inr (by decide), .inl ⟨he0, rfl, rfl⟩⟩))
  ·have hn' := rlEo r 0 (R.length + 1) unk (ixN (zP ((x, o) :: decD R x.toNat)) (2 * (R.length + 1))) (es ++ (R.take x.toNat).map (edD o)).length ((es ++ (R.take x.toNat).map (edD o)).flatMap encP)
   simp only [k1, k2, k3, k4, k5, cond_true, cond_false, nn2, nnE, Bool.and_true, hsub] at hn'
   exact (hn' _ _ _ _).trans (qq_ok (hQ _ _ _ ⟨rfl, 2, unk, _, _, hcells, hpr2, nn2, .inr (by decide), .inr ⟨he0, rfl, rfl⟩⟩))
theorem rl_end {T : Option (List (Int × Int))} {vs : OV} {ms : List Nat} {os : OO} (hJ : ms = [] ∧ RzE T vs os) : ∀ (on : Outs), on = ⟨[2, 3], [], fun vs ms os => ms = [] ∧ RzA T vs os⟩ →
  ∃ t, TOk (SC r) t ∧ ∃ d, run (SC r) 7696581394941 69 1 RL_10 (lvlT (SC r) t .nil 1 d) none (on.ask 0) (Outs.ats 0 []) (on.ask 0) [] (bT [4] vs .nil) ms (mkA os) = okR := by
 rintro on rfl
 obtain ⟨rfl, E, rfl, hE, ⟨he, rfl, rfl⟩ | ⟨he, rfl, rfl⟩⟩ := hJ
 ·exact ⟨_, TOk.nil, 4, (rlFn r _ _ _).trans (qq_ok ⟨rfl, .inl ⟨he, rfl, rfl⟩⟩)⟩
 ·have h1 : 1 ≤ E.length := by
   cases E with
   | nil => exact absurd rfl he
   | cons _ _ => simp
  refine ⟨tRlE E.length (E.flatMap encP) ((srtE E).flatMap encP), TOk.nil.cons (eSoE_ok h1 (by omega) rfl), 1, ?_⟩
  have hn' := rlFo r E.length (E.flatMap encP) ((srtE E).flatMap encP)
  simp only [svv_rfl, flat_nn, Bool.and_true, cond_true] at hn'
  exact (hn' _ _ _).trans (qq_ok ⟨rfl, .inr ⟨he, rfl, rfl⟩⟩)

variable {b off n cap : Nat} {z : Nat → Int}
theorem rz_S (hz : rowAt r b off n z) (h1 : 1 ≤ n) (hn : n ≤ 16) : SOk (SC r) 13 [RS b off n cap] emptyA fun v A => ∃ vs os, RzA (rlN n (ndL z n)) vs os ∧ A = mkA os ∧ v = .tuple ⟨vs.map fun x => x.getD undef⟩ := by
 generalize hT : rlN n (ndL z n) = T
 have hT' : totF (ndL z n) [] = T := by
  unfold totF
  rw [ndL_len, hT]
  cases T <;> simp
 refine callO (SC_ok r) (by kernel_rfl) ((bodySC r _).trans RL_eq) (nt := 69) (by kernel_rfl) (rs := [.tmp 2, .tmp 3]) (by kernel_rfl) 7696581394941 rfl ⟨[2, 3], [], fun vs ms os => ms = [] ∧ RzA T vs os⟩ ?_ fun γ W F kk hwr hF hro h0' => ?_
 ·rintro vs ms os ⟨rfl, hq⟩
  unfold RzA at hq
  cases T with
  | none =>
   obtain ⟨rfl, rfl⟩ := hq
   exact ⟨_, mkA [], by kernel_rfl, _, _, ⟨rfl, rfl⟩, rfl, rfl⟩
  | some E =>
   rcases hq with ⟨he, rfl, rfl⟩ | ⟨he, rfl, rfl⟩
   ·exact ⟨_, mkA [], by kernel_rfl, _, _, .inl ⟨he, rfl, rfl⟩, rfl, rfl⟩
   ·exact ⟨_, mkA [oPr ((srtE E).flatMap encP) 0], by kernel_rfl, _, _, .inr ⟨he, rfl, rfl⟩, rfl, rfl⟩
 have h0' : ∀ i, 0 ≤ i → γ i = none := h0'
 have hnd : EOk (SC r) 25 (eNeD [RS b off n cap] n (cNd z n n)) := fun args A hgd F hF k γ W args' hw hR ha => by
  refine ⟨fun hcc => ?_, fun h => nomatch h⟩
  have hs := @of_decide_eq_true _ (Classical.propDecidable _) hgd
  subst hs
  have hof : ofV 0 (ow 0 n) = true := by simp [ofV, of1]
  have hM : GrM Tryz.prog r 25 [RS b off n cap] (ow 0 n) (rowA (cNd z n n) 55 2) := GrM.ofS (C := SC r) rfl rfl (nd_S hz (by omega))
  exact hM.ends (γ := γ) (A := A) hof (ix_gnd _ _) hF hw (hR.noG noG fun _ => rfl) (ha.of_ros rfl) ha
 refine Go.Ev.Reach.after3R (SC_ok r) (t := tRlN [RS b off n cap] n (cNd z n n)) (TOk.nil.cons hnd) (tm := .nil) (L := 1) (L' := 1) (d := 1) hF hro h0' (.step (.step .base))
  (o1 := ⟨lvRL, [], fun vs ms os => JH n (ndL z n) [] vs ms os⟩)
  (o2 := ⟨[4], [], fun vs ms os => ms = [] ∧ RzE T vs os⟩) [] (fun p hp => nomatch hp) ?_ ?_ ?_
 ·intro vs ms os hJ
  refine Go.Ev.Reach.blockC (Go.Ev.Reach.loopC (j := n) (lv := lvRL) (fl := []) (I := fun j vs ms os => ∃ L es, j = L.length ∧ totF L es = T ∧ GoodL n L es ∧ JH n L es vs ms os) (fun j vs ms os hI => ?_) ⟨ndL z n, [], (ndL_len z n).symm, hT', ⟨by rw [ndL_len]; exact Nat.le_refl _, ndL_nodup z n, Nat.zero_le _⟩, hJ⟩)
  obtain ⟨L, es, rfl, hTL, hg, hJ⟩ := hI
  refine Go.Ev.Reach.seqC (o1 := ⟨lvRL, [], fun vs ms os => 1 ≤ L.length ∧ JH n L es vs ms os⟩) ?_ fun vs ms os hq => ?_
  ·exact Go.Ev.Reach.segR (SC_ok r) TOk.nil hF hro h0' [(0, ⟨[4], [], fun vs ms os => ms = [] ∧ RzE T vs os⟩)] (fun p hp => by simp only [List.mem_cons, List.not_mem_nil, or_false] at hp; subst hp; rfl) (L := 1) (rl_ask hJ hg hn T hTL _ _ _ rfl rfl)
  obtain ⟨hL1, hJ⟩ := hq
  obtain ⟨x, o, R, hs⟩ : ∃ x o R, srtD L = (x, o) :: R := by
   have := srtD_len L
   cases hd : srtD L with
   | nil => rw [hd] at this; simp at this; omega
   | cons p R => exact ⟨p.1, p.2, R, rfl⟩
  have hl : L.length = R.length + 1 := by rw [← srtD_len L, hs]; rfl
  refine Go.Ev.Reach.seqC (o1 := ⟨lvRL, [], fun vs ms os => JE x o R es vs ms os⟩) (Go.Ev.Reach.blockC ?_) fun vs ms os hq => ?_
  ·obtain ⟨t, ht, hrun⟩ := rl_sort (r := r) hJ hg hn hL1 hs _ _ rfl rfl
   rw [hTL] at hrun
   refine Go.Ev.Reach.afterR (SC_ok r) ht hF hro h0' (.step (.step (.step .base))) [] (fun p hp => nomatch hp) (fun vs ms os hq => ?_) hrun
   obtain ⟨hbad, hJ⟩ := hq
   refine Go.Ev.Reach.blockC (Go.Ev.Reach.loopC (j := x.toNat + 1 - 0) (lv := lvRI) (fl := []) (I := fun q vs ms os => ∃ j', j' ≤ x.toNat + 1 ∧ q = x.toNat + 1 - j' ∧ JI x o R es j' vs ms os) (fun q vs ms os hI => ?_) ⟨0, by omega, rfl, hJ⟩)
   obtain ⟨j, hj, rfl, hJ⟩ := hI
   exact Go.Ev.Reach.segR (SC_ok r) TOk.nil hF hro h0' [(2, _)] (fun p hp => by simp only [List.mem_cons, List.not_mem_nil, or_false] at hp; subst hp; rfl) (L := 1) (rl_in hg hn hs hbad hj hJ _ _ _ rfl rfl)
  ·refine Go.Ev.Reach.segR (SC_ok r) TOk.nil hF hro h0' [] (fun p hp => nomatch hp) (L := 1) (rl_cut (r := r) hg hn hs hq (fun hbad vs ms os hJ => ?_) _ _ rfl)
   have hdl := decD_len R x.toNat
   have hg1 := hg.1
   refine ⟨R.length, by omega, decD R x.toNat, _, hdl.symm, (totF_step hs hbad es).symm.trans hTL, ⟨by omega, ?_, ?_⟩, hJ⟩
   ·rw [decD_snd]; exact (srt_own hs hg.2.1).1
   ·have h3 := hg.2.2
    have h4 := hg.1
    simp only [List.length_append, List.length_map, List.length_take]
    omega
 ·intro vs ms os hq
  obtain ⟨t, ht, d, hrun⟩ := rl_end (r := r) hq _ rfl
  exact Go.Ev.Reach.segR (SC_ok r) ht hF hro h0' [] (fun p hp => nomatch hp) (L := 1) hrun
 ·have hn' := rlA r b off n cap (cNd z n n)
  simp only [svv_rfl, cond_true, show m_nns (cNd z n n) = true from ix_nn _ _, Bool.and_true] at hn'
  refine (hn' _ _ _).trans (qq_ok ⟨rfl, 0, n, cNd z n n, zNd z, fun j hj => ?_, ?_, ix_nn _ _, .inr ?_, .inl ⟨rfl, ?_, rfl⟩⟩)
  ·rw [ndL_len] at hj
   rw [Nat.zero_add, cNd_full]
   exact ix_get hj
  ·rw [ndL_len, nd_flat]
  ·exact natFx (by unfold unkE; omega)
  ·rw [ndL_len]
end

end Go.Proofs

/- Realizations: what the calls answer. -/
namespace Go.Proofs
open Go Go.Ev Go.Num
set_option linter.unusedVariables false
set_option linter.unusedSimpArgs false
set_option maxRecDepth 100000

section
variable {r : Mem} {b off n cap b2 off2 len cap2 : Nat} {z z2 : Nat → Int}
theorem row_p (hz : rowAt r b off (2 * len) z) {i : Nat} (h : i < len) : r b (Nat.add off (Nat.mul i 2)) = some (I (ea z i)) := by
 have := hz (2 * i) (by omega)
 rw [Nat.add_eq, Nat.mul_eq, Nat.mul_comm]
 exact this
theorem row_q (hz : rowAt r b off (2 * len) z) {i : Nat} (h : i < len) : r b (Nat.succ (Nat.add off (Nat.mul i 2))) = some (I (eb z i)) := by
 have := hz (2 * i + 1) (by omega)
 rw [Nat.add_eq, Nat.mul_eq, Nat.mul_comm]
 exact this
theorem eqv_rfl (a : Int) : m_eqv (I a) (I a) = true := by simp [m_eqv, veq]
theorem eqp_rfl (a b : Int) : m_eqv (.agg ⟨[I a, I b]⟩) (.agg ⟨[I a, I b]⟩) = true := by simp [m_eqv, veq, veqs]
theorem memW_of {γ : Gam} {W : World} (hR : Ro r γ W) {b j : Nat} {u : Value} (h : r b j = some u) (hg : gnd u = true) : memW W b j = some u := by
 obtain ⟨_, cc, e, fr, v', h1, h2, h3⟩ := hR b j u h
 have := (h3 γ).eq_of_gnd hg
 subst this
 unfold memW
 rw [h1]
 simp only [h2, Option.bind_some]
 exact mark_gnd hg
theorem tEq_ok (hz : rowAt r b off n z) (hn : n ≤ 1000) (f : Nat → Int) : TOk (SC r) (tEq n (ixN f n) (RS b off n cap) (eqN f z n)) := TOk.nil.cons (EOk.ent fun args A hg => POk.of rfl fun γ W args' hw hR ha => by
 split at hg
 ·rename_i x y
  have hg1 : gOne (ow 0 n) (ixN f n) [x] A = true := by
   cases e : gOne (ow 0 n) (ixN f n) [x] A with
   | true => rfl
   | false => rw [e, cond_false] at hg; cases hg
  rw [hg1, cond_true] at hg
  have hs := @of_decide_eq_true _ (Classical.propDecidable _) hg
  simp only [List.cons.injEq, and_true] at hs
  subst hs
  obtain ⟨la⟩ := args'
  cases ha with
  | cons hv hrest =>
  obtain ⟨b', k', p1, p2⟩ := gOne_use (args' := ⟨[_]⟩) (natFx (show n ≠ unkE from fun e => by unfold unkE at e; omega)) hg1 (Nat.le_refl _) hw hR (.cons hv .nil)
  cases p1 with
  | cons p1 _ =>
  refine ⟨memW W, _, memW_ro W, .cons p1 (hrest.of_ros rfl), ?_⟩
  have h := eq_ok (n2 := n) (cap := 0) (cap2 := cap) p2 (fun j hj => memW_of hR (hz j hj) rfl) (by omega)
  rw [show (n == n) = true by simp, Bool.true_and] at h
  exact h
 ·cases hg)
theorem dg_cells {k : Nat} (hok : okAt (n : Int) z2 k = true) (hk : k ≤ 500000) :
  List.set (List.set (ixN (fun v => dgN z2 k v) n) (ea z2 k).toNat (I (IntKind.wrap .i64 (dgN z2 k (ea z2 k).toNat + Int.ofNat 1)))) (eb z2 k).toNat (I (IntKind.wrap .i64 (dgN z2 k (eb z2 k).toNat + Int.ofNat 1))) = ixN (fun v => dgN z2 (k + 1) v) n := by
 obtain ⟨h1, h2, h3, h4⟩ := okAt_iff.1 hok
 have d1 := dg_bd z2 (ea z2 k).toNat k
 have d2 := dg_bd z2 (eb z2 k).toNat k
 have w1 : IntKind.wrap .i64 (dgN z2 k (ea z2 k).toNat + Int.ofNat 1) = dgN z2 k (ea z2 k).toNat + 1 := wrI (by simp; omega)
 have w2 : IntKind.wrap .i64 (dgN z2 k (eb z2 k).toNat + Int.ofNat 1) = dgN z2 k (eb z2 k).toNat + 1 := wrI (by simp; omega)
 rw [w1, w2, ix_set, ix_set]
 refine ix_ext fun j hj => ?_
 rw [dgN]
 by_cases c : j = (eb z2 k).toNat
 ·subst c
  rw [if_pos rfl, if_neg (by omega), if_pos (by omega)]; omega
 ·rw [if_neg c]
  by_cases d : j = (ea z2 k).toNat
  ·subst d
   rw [if_pos rfl, if_pos (by omega), if_neg (by omega)]; omega
  ·rw [if_neg d, if_neg (by omega), if_neg (by omega)]; omega
theorem rz_rnd (hz2 : rowAt r b2 off2 (2 * len) z2) (hl : len ≤ 500000) (hn : n ≤ 1000) {k : Nat} (c : k < len) (K : OV → List Nat → OO → CR) (KX : Nat → OV → List Nat → OO → CR) (KR : OV → List Nat → OO → CR) :
  run (SC r) 58355 65 1 RZ_3 (lvlT (SC r) tCe .nil 1 1) none (rbK 0 lvRZ [] K) (fun j => rbK 0 [5, 0] [] (KX j)) (rbK 0 [4] [] KR) [] (bT lvRZ (vRZ b off n cap b2 off2 len cap2 k) .nil) [] (mkA [oIn (ixN (fun v => dgN z2 k v) n) 0]) =
   bif okAt (n : Int) z2 k then K (vRZ b off n cap b2 off2 len cap2 (k + 1)) [] [oIn (ixN (fun v => dgN z2 (k + 1) v) n) 0] else KR [some (.bool false)] [] [] := by
 rw [rzB]
 have c1 : (k : Int) < (len : Int) := by omega
 have c3 : Nat.blt k len = true := Nat.ble_eq_true_of_le (by omega)
 have e3 := inc1' (k := k) (by omega)
 have no : ∀ {P : Prop}, ¬ (okAt (n : Int) z2 k = true) → okAt (n : Int) z2 k = false := fun h => by simpa using h
 simp only [Int.ofNat_eq_natCast] at e3
 simp only [Int.ofNat_eq_natCast, Int.toNat_natCast]
 simp only [dT c1, c3, cond_true, row_p hz2 c, row_q hz2 c, isI_I]
 dsimp +instances only [ofI_I]
 by_cases d1 : ea z2 k < 0
 ·rw [show okAt (n : Int) z2 k = false by
   cases e : okAt (n : Int) z2 k with
   | false => rfl
   | true => have := okAt_iff.1 e; omega]
  simp only [dT d1, cond_true, cond_false]
 ·by_cases d2 : ea z2 k ≥ eb z2 k
  ·rw [show okAt (n : Int) z2 k = false by
    cases e : okAt (n : Int) z2 k with
    | false => rfl
    | true => have := okAt_iff.1 e; omega]
   simp only [dF d1, dT d2, cond_true, cond_false]
  ·by_cases d3 : eb z2 k ≥ (n : Int)
   ·rw [show okAt (n : Int) z2 k = false by
     cases e : okAt (n : Int) z2 k with
     | false => rfl
     | true => have := okAt_iff.1 e; omega]
    simp only [dF d1, dF d2, dT d3, cond_true, cond_false]
   ·have ga : ((ea z2 k).toNat : Int) = ea z2 k := by omega
    have gb : ((eb z2 k).toNat : Int) = eb z2 k := by omega
    have q0 : 0 ≤ ea z2 k := by omega
    have q1 : 0 ≤ eb z2 k := by omega
    have q2 : Nat.blt (ea z2 k).toNat n = true := Nat.ble_eq_true_of_le (by omega)
    have q3 : Nat.blt (eb z2 k).toNat n = true := Nat.ble_eq_true_of_le (by omega)
    have n1 : ∀ i, Nat.add 0 (Nat.mul i 1) = i := fun i => by simp
    have g1 : (ixN (fun v => dgN z2 k v) n)[(ea z2 k).toNat]? = some (I (dgN z2 k (ea z2 k).toNat)) := ix_get (by omega)
    have g2 : ∀ v : Value, ((ixN (fun v => dgN z2 k v) n).set (ea z2 k).toNat v)[(eb z2 k).toNat]? = some (I (dgN z2 k (eb z2 k).toNat)) := fun v => by
     rw [List.getElem?_set_ne (by omega)]
     exact ix_get (by omega)
    have g3 : Nat.blt (ea z2 k).toNat (ixN (fun v => dgN z2 k v) n).length = true := by rw [ix_len]; exact q2
    have g4 : ∀ v : Value, Nat.blt (eb z2 k).toNat ((ixN (fun v => dgN z2 k v) n).set (ea z2 k).toNat v).length = true := fun v => by rw [List.length_set, ix_len]; exact q3
    simp only [dF d1, dF d2, dF d3, cond_false]
    by_cases k0 : k = 0
    ·have hok : okAt (n : Int) z2 k = true := okAt_iff.2 ⟨by omega, by omega, by omega, .inl k0⟩
     have f0 : ¬ (k : Int) > 0 := by omega
     have hd := dg_cells (n := n) (z2 := z2) hok (by omega)
     simp only [Int.ofNat_eq_natCast] at hd
     rw [hok]
     simp only [dF f0, cond_false, cond_true, dT q0, dT q1, q2, q3, n1, g1, g2, g3, g4, isI_I, ofI_I, hd, ix_nn, Bool.and_true, e3]
     rfl
    ·have f0 : (k : Int) > 0 := by omega
     have f1 : IntKind.wrap .i64 ((k : Int) - ((1 : Nat) : Int)) = ((k - 1 : Nat) : Int) := by rw [wrI (by omega)]; omega
     have f2 : (0 : Int) ≤ ((k - 1 : Nat) : Int) := by omega
     have f3 : Nat.blt (k - 1) len = true := Nat.ble_eq_true_of_le (by omega)
     have r1 := row_p hz2 (i := k - 1) (by omega)
     have r2 := row_q hz2 (i := k - 1) (by omega)
     simp only [dT f0, cond_true, f1, dT f2, Int.toNat_natCast, f3, r1, r2, isI_I]
     dsimp +instances only [ofI_I]
     simp only [eqp_rfl, cond_true]
     by_cases h : m_ce (ea z2 (k - 1)) (eb z2 (k - 1)) (ea z2 k) (eb z2 k) ≥ 0
     ·rw [show okAt (n : Int) z2 k = false by
       cases e : okAt (n : Int) z2 k with
       | false => rfl
       | true =>
        have := okAt_iff.1 e
        have := (ce_ge _ _ _ _).1 h
        omega]
      simp only [dT h, cond_true, cond_false]
     ·have hok : okAt (n : Int) z2 k = true := by
       have := mt (ce_ge _ _ _ _).2 h
       exact okAt_iff.2 ⟨by omega, by omega, by omega, by omega⟩
      have hd := dg_cells (n := n) (z2 := z2) hok (by omega)
      simp only [Int.ofNat_eq_natCast] at hd
      rw [hok]
      simp only [dF h, cond_false, cond_true, dT q0, dT q1, q2, q3, n1, g1, g2, g3, g4, isI_I, ofI_I, hd, ix_nn, Bool.and_true, e3]
      rfl
inductive PrR (r : Mem) (len : Nat) (z : Nat → Int) : Value → Prop
 | own (b off cap : Nat) (h : rowAt r b off (2 * len) z) : PrR r len z (RS2 b off len cap)
 | nil (h : len = 0) : PrR r len z nilV
theorem PrR.ro {r : Mem} {len : Nat} {z : Nat → Int} {P : Value} (h : PrR r len z P) : roVs [P] = true := by
 cases h <;> rfl
def vRZp (b off n cap : Nat) (P : Value) (len k : Nat) : OV := [some (ow 0 n), some (RS b off n cap), some P, some P, some (I (len : Nat)), some (I (k : Nat))]
variable {P : Value}
theorem rz_beg (h : PrR r len z2 P) (hn : n ≤ 1000) (fs : FnsC) (K : OV → List Nat → OO → CR) (kx : Nat → KS) (kr : KS) :
  run (SC r) 58355 65 1 (.seq RZ_0 (.seq RZ_1 RZ_2)) fs none (rbK 0 lvRZ [] K) kx kr (sc0 58355 [RS b off n cap, P]) (tr0 58355 [RS b off n cap, P]) [] emptyA = K (vRZp b off n cap P len 0) [] [oIn (ixN (fun v => dgN z2 0 v) n) 0] := by
 have g1 : Nat.ble n n = true := Nat.ble_eq_true_of_le (Nat.le_refl _)
 have g2 : Nat.ble n 1000000 = true := Nat.ble_eq_true_of_le (by omega)
 have z0 := ix_zero1 n
 simp only [Int.ofNat_eq_natCast] at z0
 cases h with
 | own b2 off2 cap2 h =>
  have hn' := rzA r b off n cap b2 off2 len cap2
  simp only [Int.ofNat_eq_natCast, Int.toNat_natCast] at hn'
  simp only [g1, g2, cond_true, z0, ix_nn, Bool.and_true] at hn'
  exact hn' _ _ _ _
 | nil h =>
  subst h
  have hn' := rzA0 r b off n cap
  simp only [Int.ofNat_eq_natCast, Int.toNat_natCast] at hn'
  simp only [g1, g2, cond_true, z0, ix_nn, Bool.and_true] at hn'
  exact hn' _ _ _ _
theorem rz_step (h : PrR r len z2 P) (hl : len ≤ 500000) (hn : n ≤ 1000) {k : Nat} (hk : k ≤ len) (K : OV → List Nat → OO → CR) (KX : Nat → OV → List Nat → OO → CR) (KR : OV → List Nat → OO → CR) :
  run (SC r) 58355 65 1 RZ_3 (lvlT (SC r) tCe .nil 1 1) none (rbK 0 lvRZ [] K) (fun j => rbK 0 [5, 0] [] (KX j)) (rbK 0 [4] [] KR) [] (bT lvRZ (vRZp b off n cap P len k) .nil) [] (mkA [oIn (ixN (fun v => dgN z2 k v) n) 0]) =
   if k < len then bif okAt (n : Int) z2 k then K (vRZp b off n cap P len (k + 1)) [] [oIn (ixN (fun v => dgN z2 (k + 1) v) n) 0] else KR [some (.bool false)] [] []
   else KX 0 [some (ow 0 n), some (RS b off n cap)] [] [oIn (ixN (fun v => dgN z2 len v) n) 0] := by
 by_cases c : k < len
 ·rw [if_pos c]
  cases h with
  | own b2 off2 cap2 h => exact rz_rnd h hl hn c K KX KR
  | nil h => omega
 ·rw [if_neg c]
  obtain rfl : k = len := by omega
  have c1 : ¬ Int.ofNat k < Int.ofNat k := by omega
  cases h with
  | own b2 off2 cap2 h =>
   have hn' := rzB r b off n cap b2 off2 k cap2 k (ixN (fun v => dgN z2 k v) n)
   simp only [dF c1, cond_false, ix_nn, Bool.and_true, cond_true] at hn'
   exact hn' _ _ _
  | nil h =>
   subst h
   have hn' := rzB0 r b off n cap (ixN (fun v => dgN z2 0 v) n)
   simp only [ix_nn, Bool.and_true, cond_true] at hn'
   exact hn' _ _ _ _
theorem rz_ok (hz : rowAt r b off n z) (hP : PrR r len z2 P) (hl : len ≤ 500000) (hn : n ≤ 1000) : GrT Tryz.prog r 24 [RS b off n cap, P] (.bool (irB z z2 n len)) := by
 refine GrT.ofS (C := SC r) rfl rfl rfl (callO (SC_ok r) (by kernel_rfl) ((bodySC r _).trans RZ_eq) (nt := 65) (by kernel_rfl) (rs := [.tmp 4]) (by kernel_rfl) 58355 rfl ⟨[4], [], fun vs ms os => vs = [some (.bool (irB z z2 n len))] ∧ ms = [] ∧ os = []⟩ ?_ fun γ W F kk hwr hF hro h0' => ?_)
 ·rintro vs ms os ⟨rfl, rfl, rfl⟩
  exact ⟨_, mkA [], by kernel_rfl, rfl⟩
 have h0' : ∀ i, 0 ≤ i → γ i = none := h0'
 refine Go.Ev.Reach.after3R (SC_ok r) TOk.nil (tm := .nil) (L := 1) (L' := 1) (d := 1) hF hro h0' (.step (.step .base))
  (o1 := ⟨lvRZ, [], fun vs ms os => vs = vRZp b off n cap P len 0 ∧ ms = [] ∧ os = [oIn (ixN (fun v => dgN z2 0 v) n) 0]⟩)
  (o2 := ⟨[5, 0], [], fun vs ms os => okAll (n : Int) z2 len = true ∧ vs = [some (ow 0 n), some (RS b off n cap)] ∧ ms = [] ∧ os = [oIn (ixN (fun v => dgN z2 len v) n) 0]⟩) [] (fun p hp => nomatch hp) ?_ ?_ ((rz_beg hP hn _ _ _ _).trans (qq_ok ⟨rfl, rfl, rfl⟩))
 ·rintro vs ms os ⟨rfl, rfl, rfl⟩
  refine Go.Ev.Reach.blockC (Go.Ev.Reach.loopC (j := len) (lv := lvRZ) (fl := []) (I := fun q vs ms os => ∃ k, k ≤ len ∧ q = len - k ∧ (∀ i, i < k → okAt (n : Int) z2 i = true) ∧ vs = vRZp b off n cap P len k ∧ ms = [] ∧ os = [oIn (ixN (fun v => dgN z2 k v) n) 0]) (fun q vs ms os hJ => ?_) ⟨0, by omega, rfl, fun i hi => absurd hi (by omega), rfl, rfl, rfl⟩)
  obtain ⟨k, hk, rfl, hok, rfl, rfl, rfl⟩ := hJ
  refine Go.Ev.Reach.segR (SC_ok r) (tCe_ok r) (tm := .nil) (L := 1) (L' := 1) (d := 1) hF hro h0' [(0, ⟨[5, 0], [], fun vs ms os => okAll (n : Int) z2 len = true ∧ vs = [some (ow 0 n), some (RS b off n cap)] ∧ ms = [] ∧ os = [oIn (ixN (fun v => dgN z2 len v) n) 0]⟩)] (fun p hp => by simp only [List.mem_cons, List.not_mem_nil, or_false] at hp; subst hp; rfl) ?_
  refine (rz_step hP hl hn hk _ _ _).trans ?_
  by_cases c : k < len
  ·rw [if_pos c]
   cases e : okAt (n : Int) z2 k with
   | true => exact qq_ok ⟨len - (k + 1), by omega, k + 1, c, rfl, fun i hi => by
     by_cases q : i = k
     ·subst q; exact e
     ·exact hok i (by omega), rfl, rfl, rfl⟩
   | false =>
    have hv : irB z z2 n len = false := by unfold irB; rw [okAll_no c e, Bool.false_and]
    rw [hv]
    exact qq_ok ⟨rfl, rfl, rfl⟩
  ·rw [if_neg c]
   obtain rfl : k = len := by omega
   exact qq_ok ⟨okAll_of hok, rfl, rfl, rfl⟩
 ·rintro vs ms os ⟨hok, rfl, rfl, rfl⟩
  refine Go.Ev.Reach.segR (SC_ok r) (tEq_ok (cap := cap) hz hn fun v => dgN z2 len v) (tm := .nil) (L := 1) (L' := 1) (d := 1) hF hro h0' [] (fun p hp => nomatch hp) ?_
  have hn' := rzC r b off n cap (ixN (fun v => dgN z2 len v) n) (eqN (fun v => dgN z2 len v) z n)
  simp only [svv_rfl, cond_true] at hn'
  refine (hn' _ _ _).trans ?_
  have hv : irB z z2 n len = eqN (fun v => dgN z2 len v) z n := by unfold irB; rw [hok, Bool.true_and]
  rw [hv]
  cases eqN (fun v => dgN z2 len v) z n <;> exact qq_ok ⟨rfl, rfl, rfl⟩
end

end Go.Proofs

/- The asked questions: what the calls answer. -/
namespace Go.Proofs
open Go Go.Ev Go.Num
set_option linter.unusedVariables false
set_option linter.unusedSimpArgs false
set_option maxRecDepth 100000

theorem m_ws_ix (f : Nat → Nat) (n : Nat) (w : List Nat) (hl : w.length = n) (hw : ∀ i, i < n → w.getD i 0 = f i) : m_ws w = ixN (fun i => (f i : Nat)) n := by
 apply List.ext_getElem?
 intro j
 unfold m_ws
 rw [List.getElem?_map]
 by_cases c : j < n
 ·have := hw j c
  rw [List.getD_eq_getElem?_getD] at this
  rw [ix_get c, List.getElem?_eq_getElem (by omega)]
  rw [List.getElem?_eq_getElem (by omega)] at this
  simp at this
  simp [this]
 ·rw [List.getElem?_eq_none (by omega), List.getElem?_eq_none (by rw [ix_len]; omega)]
  rfl
section
variable {r : Mem} {b off n cap b2 off2 len cap2 : Nat} {z z2 : Nat → Int}
def wdN (z2 : Nat → Int) (n len : Nat) (i : Nat) : Int := ((nbN n z2 len).getD i 0 : Nat)
theorem wd_ix : m_ws (nbN n z2 len) = ixN (wdN z2 n len) n := m_ws_ix _ _ _ (nbN_len n z2 len) fun i _ => rfl
theorem wd_rg (hn : n ≤ 16) (hok : okAll (n : Int) z2 len = true) (i : Nat) : 0 ≤ wdN z2 n len i ∧ wdN z2 n len i < 65536 := by
 have := getD_lt (nbN_lt n z2 (n := (n : Int)) (by omega) len fun i hi => okAll_at hok i hi) i
 unfold wdN
 omega
theorem wd_pop (hn : n ≤ 16) (hok : okAll (n : Int) z2 len = true) {i : Nat} (hi : i < n) : m_pop (wdN z2 n len i) = dgN z2 len i := by
 unfold m_pop wdN
 rw [Int.toNat_natCast]
 exact pop_dg hn len hok i hi
theorem tSz_ok (r : Mem) : TOk (SC r) tSz := TOk.nil.cons (eI1_ok fun a h => by
 simp only [Bool.and_eq_true, decide_eq_true_eq] at h
 have := size_ok r a.toNat (by omega)
 rw [Int.toNat_of_nonneg h.1] at this
 exact this)
variable {P : Value}
theorem ed_ok (h : PrR r len z2 P) (hl : len ≤ 500000) (n : Int) : GrT Tryz.prog r 21 [I n, P] (.bool (okAll n z2 len)) := by
 cases h with
 | own b2 off2 cap2 h => exact edges_ok r n b2 off2 len cap2 z2 h (by omega)
 | nil h =>
  subst h
  exact GrT.of (SC_ok r) TOk.nil .nil rfl ⟨1, 2, ghN r n⟩
theorem ws_ok (h : PrR r len z2 P) (hl : len ≤ 500000) (h1 : 1 ≤ n) (hn : n ≤ 16) (hok : okAll (n : Int) z2 len = true) : GrM Tryz.prog r 22 [I (n : Nat), P] (ow 0 n) (rowA (ixN (wdN z2 n len) n) 3 1) := by
 rw [← wd_ix]
 cases h with
 | own b2 off2 cap2 h => exact of_ok r n h1 hn b2 off2 len cap2 z2 h (by omega) hok
 | nil h =>
  subst h
  refine GrM.of (SC_ok r) TOk.nil .nil ⟨1, 2, (ofN r n _).trans ?_⟩
  have g1 : Nat.ble n n = true := Nat.ble_eq_true_of_le (Nat.le_refl _)
  have g2 : Nat.ble n 1000000 = true := Nat.ble_eq_true_of_le (by omega)
  have e0 : zerosL (Nat.mul n 1) [I 0] = m_ws (nbN n z2 0) := by
   show List.replicate (Nat.mul n 1) _ = m_ws (List.replicate n 0)
   simp [m_ws]
  show (bif Nat.ble n n then bif Nat.ble n 1000000 then finM (ow 0 n) (AW.mk 1 (.node .nil (some (.cells (zerosL (Nat.mul n 1) [I 0]) 3 0 1)) .nil) .nil) else _ else _) = _
  rw [g1, g2, cond_true, cond_true, e0]
  have hg := ws_gnd (nbN n z2 0)
  have hu : Nat.beq n unkE = false := natFx fun e => by unfold unkE at e; omega
  have e1 : rowOf (.slice (some ⟨0, 0, none⟩) n n) = some 0 := by simp only [rowOf, row1, hu, Bool.false_and]
  unfold finM
  rw [e1]
  show guardK (gnds (m_ws (nbN n z2 0))) _ = _
  rw [hg]
  rfl
theorem ofV_ow {i : Nat} (hn : n ≤ 1000) : ofV i (ow i n) = true := by
 have hu : Nat.beq n unkE = false := natFx fun e => by unfold unkE at e; omega
 simp [ofV, of1, hu]
theorem eOw_ok (u : Bool) (hu : u = true → 1 ≤ n ∧ n ≤ 16) (hP : PrR r len z2 P) (hl : len ≤ 500000) : EOk (SC r) 22 (eOw (bif u then okAll (n : Int) z2 len else false) [I (n : Nat), P] n (ixN (wdN z2 n len) n)) := fun args A hgd F hF k γ W args' hw hR ha => by
 refine ⟨fun hcc => ?_, fun h => nomatch h⟩
 cases u with
 | false => cases hgd
 | true =>
  cases e : okAll (n : Int) z2 len with
  | false => rw [e] at hgd; cases hgd
  | true =>
   rw [e] at hgd
   have hs := @of_decide_eq_true _ (Classical.propDecidable _) hgd
   subst hs
   exact (ws_ok hP hl (hu rfl).1 (hu rfl).2 e).ends (γ := γ) (A := A) (ofV_ow (by have := hu rfl; omega)) (ix_gnd _ _) hF hw (hR.noG noG fun _ => rfl) (ha.of_ros (by cases hP <;> rfl)) ha
theorem tRr_ok (u : Bool) (hu : u = true → 1 ≤ n ∧ n ≤ 16) (hP : PrR r len z2 P) (hl : len ≤ 500000) : TOk (SC r) (tRr u n P (bif u then okAll (n : Int) z2 len else false) (ixN (wdN z2 n len) n)) := by
 refine (TOk.nil.cons (eOw_ok u hu hP hl)).cons (EOk.ent fun args A hg => ?_)
 cases u with
 | false => cases hg
 | true =>
  have hs := @of_decide_eq_true _ (Classical.propDecidable _) hg
  subst hs
  exact (ed_ok hP hl n).ro (by cases hP <;> rfl) A
theorem rr_beg (hP : PrR r len z2 P) (u v : Bool) (K : OV → List Nat → OO → CR) (kx : Nat → KS) (KR : OV → List Nat → OO → CR) (f : Nat → Int) :
  run (SC r) 243 40 1 (.seq RR_0 (.seq RR_1 (.seq RR_2 (.seq RR_3 RR_4)))) (lvlT (SC r) (tRr u n P v (ixN f n)) .nil 1 1) none (rbK 0 lvRR [] K) kx (rbK 0 [4] [] KR) (sc0 243 [RS b off n cap, P]) (tr0 243 [RS b off n cap, P]) [] emptyA =
   bif decide (Int.ofNat n < 1) then KR [some (.bool false)] [] [] else bif decide (Int.ofNat n > 16) then KR [some (.bool false)] [] [] else bif u then (bif v then K (vRR b off n cap 0) [] [oIn (ixN f n) 0] else KR [some (.bool false)] [] []) else .fail 420 := by
 cases hP with
 | own b2 off2 cap2 h =>
  rw [rrA]
  simp only [svv_rfl, ix_nn, Bool.and_true, cond_true]
  cases u <;> cases v <;> rfl
 | nil h =>
  rw [rrA0]
  simp only [svv_rfl, ix_nn, Bool.and_true, cond_true]
  cases u <;> cases v <;> rfl
theorem rr_ok (hz : rowAt r b off n z) (hP : PrR r len z2 P) (hl : len ≤ 500000) : GrT Tryz.prog r 10 [RS b off n cap, P] (.bool (irR z z2 n len)) := by
 refine GrT.ofS (C := SC r) rfl rfl rfl (callO (SC_ok r) (by kernel_rfl) ((bodySC r _).trans RR_eq) (nt := 40) (by kernel_rfl) (rs := [.tmp 4]) (by kernel_rfl) 243 rfl ⟨[4], [], fun vs ms os => vs = [some (.bool (irR z z2 n len))] ∧ ms = [] ∧ os = []⟩ ?_ fun γ W F kk hwr hF hro h0' => ?_)
 ·rintro vs ms os ⟨rfl, rfl, rfl⟩
  exact ⟨_, mkA [], by kernel_rfl, rfl⟩
 have h0' : ∀ i, 0 ≤ i → γ i = none := h0'
 by_cases hg : 1 ≤ n ∧ n ≤ 16 ∧ okAll (n : Int) z2 len = true
 ·obtain ⟨h1, hn, hok⟩ := hg
  have hv : irR z z2 n len = eqN (fun v => dgN z2 len v) z n := by unfold irR irB; rw [dT ⟨h1, hn⟩, hok, Bool.true_and, Bool.true_and]
  rw [hv]
  have ht := tRr_ok true (fun _ => ⟨h1, hn⟩) hP hl
  rw [hok, cond_true] at ht
  refine Go.Ev.Reach.after3R (SC_ok r) ht (tm := .nil) (L := 1) (L' := 1) (d := 1) hF hro h0' (.step (.step (.step (.step .base))))
   (o1 := ⟨lvRR, [], fun vs ms os => vs = vRR b off n cap 0 ∧ ms = [] ∧ os = [oIn (ixN (wdN z2 n len) n) 0]⟩)
   (o2 := ⟨[], [], fun vs ms os => eqN (fun v => dgN z2 len v) z n = true ∧ vs = [] ∧ ms = [] ∧ os = []⟩) [] (fun p hp => nomatch hp) ?_ ?_ ?_
  ·rintro vs ms os ⟨rfl, rfl, rfl⟩
   refine Go.Ev.Reach.blockC (Go.Ev.Reach.loopC (j := n) (lv := lvRR) (fl := []) (I := fun q vs ms os => ∃ k, k ≤ n ∧ q = n - k ∧ eqN (fun v => dgN z2 len v) z k = true ∧ vs = vRR b off n cap k ∧ ms = [] ∧ os = [oIn (ixN (wdN z2 n len) n) 0]) (fun q vs ms os hJ => ?_) ⟨0, by omega, rfl, rfl, rfl, rfl, rfl⟩)
   obtain ⟨k, hk, rfl, he, rfl, rfl, rfl⟩ := hJ
   refine Go.Ev.Reach.segR (SC_ok r) (tSz_ok r) (tm := .nil) (L := 1) (L' := 1) (d := 1) hF hro h0' [(0, ⟨[], [], fun vs ms os => eqN (fun v => dgN z2 len v) z n = true ∧ vs = [] ∧ ms = [] ∧ os = []⟩)] (fun p hp => by simp only [List.mem_cons, List.not_mem_nil, or_false] at hp; subst hp; rfl) ?_
   have hn' := rrB r b off n cap k (ixN (wdN z2 n len) n)
   simp only [Int.ofNat_eq_natCast, Int.toNat_natCast] at hn'
   by_cases c : k < n
   ·have c1 : (k : Int) < (n : Int) := by omega
    have c3 : Nat.blt k n = true := Nat.ble_eq_true_of_le (by omega)
    have e3 := inc1' (k := k) (by omega)
    have n1 : ∀ i, Nat.add 0 (Nat.mul i 1) = i := fun i => by simp
    have g1 : (ixN (wdN z2 n len) n)[k]? = some (I (wdN z2 n len k)) := ix_get c
    obtain ⟨w1, w2⟩ := wd_rg hn hok k
    simp only [Int.ofNat_eq_natCast] at e3
    simp only [dT c1, c3, cond_true, n1, g1, row_1 hz c, isI_I, e3, ix_nn, Bool.and_true] at hn'
    dsimp +instances only [ofI_I] at hn'
    simp only [dT w1, dT w2, Bool.and_self, cond_true, eqv_rfl, wd_pop hn hok c] at hn'
    by_cases d : dgN z2 len k = z k
    ·simp only [neF d, cond_false] at hn'
     exact (hn' _ _ _).trans (qq_ok ⟨n - (k + 1), by omega, k + 1, c, rfl, by rw [eqN, he, dT d]; rfl, rfl, rfl, rfl⟩)
    ·simp only [neT d, cond_true] at hn'
     exact (hn' _ _ _).trans (qq_ok ⟨by rw [eqN_no c d], rfl, rfl⟩)
   ·obtain rfl : k = n := by omega
    have c1 : ¬ (k : Int) < (k : Int) := by omega
    simp only [dF c1, cond_false] at hn'
    exact (hn' _ _ _).trans (qq_ok ⟨he, rfl, rfl, rfl⟩)
  ·rintro vs ms os ⟨he, rfl, rfl, rfl⟩
   refine Go.Ev.Reach.segR (SC_ok r) TOk.nil (tm := .nil) (L := 1) (L' := 1) (d := 1) hF hro h0' [] (fun p hp => nomatch hp) ?_
   rw [he]
   exact (rrC r _ _ _ _).trans (qq_ok ⟨rfl, rfl, rfl⟩)
  ·have c1 : ¬ Int.ofNat n < 1 := by simp; omega
   have c2 : ¬ Int.ofNat n > 16 := by simp; omega
   refine (rr_beg hP true true _ _ _ _).trans ?_
   rw [dF c1, dF c2]
   exact qq_ok ⟨rfl, rfl, rfl⟩
 ·have hv : irR z z2 n len = false := by
   unfold irR irB
   by_cases h : 1 ≤ n ∧ n ≤ 16
   ·cases e : okAll (n : Int) z2 len with
    | false => rw [Bool.false_and, Bool.and_false]
    | true => exact absurd ⟨h.1, h.2, e⟩ hg
   ·rw [dF h, Bool.false_and]
  rw [hv]
  have ht := tRr_ok (decide (1 ≤ n ∧ n ≤ 16)) (fun h => of_decide_eq_true h) hP hl
  have hf : (bif decide (1 ≤ n ∧ n ≤ 16) then okAll (n : Int) z2 len else false) = false := by
   by_cases h : 1 ≤ n ∧ n ≤ 16
   ·rw [dT h, cond_true]
    cases e : okAll (n : Int) z2 len with
    | false => rfl
    | true => exact absurd ⟨h.1, h.2, e⟩ hg
   ·rw [dF h]; rfl
  rw [hf] at ht
  refine Go.Ev.Reach.after3R (SC_ok r) ht (tm := .nil) (L := 1) (L' := 1) (d := 1) hF hro h0' (.step (.step (.step (.step .base))))
   (o1 := ⟨lvRR, [], fun vs ms os => False⟩) (o2 := ⟨[], [], fun vs ms os => False⟩) [] (fun p hp => nomatch hp) (fun _ _ _ h => h.elim) (fun _ _ _ h => h.elim) ((rr_beg hP _ _ _ _ _ _).trans ?_)
  by_cases c1 : Int.ofNat n < 1
  ·rw [dT c1]
   exact qq_ok ⟨rfl, rfl, rfl⟩
  ·by_cases c2 : Int.ofNat n > 16
   ·rw [dF c1, dT c2]
    exact qq_ok ⟨rfl, rfl, rfl⟩
   ·rw [dF c1, dF c2, dT (show 1 ≤ n ∧ n ≤ 16 by simp at c1 c2; omega)]
    exact qq_ok ⟨rfl, rfl, rfl⟩

theorem ckl {n : Nat} (h : ¬ (1 ≤ n ∧ n ≤ 16)) {X : CR} {Y : CR} : (bif decide (Int.ofNat n > 16) then X else bif Int.ofNat n == Int.ofNat 0 then X else Y) = X := by
 by_cases c : Int.ofNat n > 16
 ·rw [dT c]; rfl
 ·rw [dF c, eqT (show Int.ofNat n = Int.ofNat 0 by simp at c ⊢; omega)]; rfl
theorem ckr {n : Nat} (h : 1 ≤ n ∧ n ≤ 16) {X : CR} {Y : CR} : (bif decide (Int.ofNat n > 16) then X else bif Int.ofNat n == Int.ofNat 0 then X else Y) = Y := by
 rw [dF (show ¬ Int.ofNat n > 16 by simp; omega), eqF (show Int.ofNat n ≠ Int.ofNat 0 by simp; omega)]; rfl
theorem iv_ok (hz : rowAt r b off n z) (h64 : ∀ j, j < n → s64 (z j)) (hcap : cap ≠ unkE) (k : Int) : GrT Tryz.prog r 9 [RS b off n cap, I k] (.bool (viR z n k)) := by
 by_cases h : 1 ≤ n ∧ n ≤ 16
 ·refine GrT.of (SC_ok r) (t := tIv true (RS b off n cap) k (viB z n k)) (TOk.nil.cons (EOk.ent fun args A hg => ?_)) .nil rfl ⟨1, 3, (ivA r b off n cap k true (viB z n k)).trans ?_⟩
  ·have hs := @of_decide_eq_true _ (Classical.propDecidable _) hg
   subst hs
   exact (vi_ok hz h64 h.1 h.2 hcap k).ro rfl A
  ·have hv : viR z n k = viB z n k := by unfold viR; rw [dT h, Bool.true_and]
   rw [ckr h, svv_rfl, cond_true, cond_true, hv]
   cases viB z n k <;> rfl
 ·refine GrT.of (SC_ok r) (t := tIv false (RS b off n cap) k false) (TOk.nil.cons (EOk.ent fun args A hg => nomatch hg)) .nil rfl ⟨1, 3, (ivA r b off n cap k false false).trans ?_⟩
  have hv : viR z n k = false := by unfold viR; rw [dF h, Bool.false_and]
  rw [ckl h, hv]; rfl
theorem ir_beg (hP : PrR r len z2 P) (u v : Bool) : (lvlT (SC r) (tIr u (RS b off n cap) P v) .nil 1 3).call 11 [RS b off n cap, P] emptyA fin =
  bif decide (Int.ofNat n > 16) then .ret (.bool false) (AW.mk 0 .nil .nil) else bif Int.ofNat n == Int.ofNat 0 then .ret (.bool false) (AW.mk 0 .nil .nil) else bif u then (bif v then .ret (.bool true) (AW.mk 0 .nil .nil) else .ret (.bool false) (AW.mk 0 .nil .nil)) else .fail 420 := by
 cases hP with
 | own b2 off2 cap2 h =>
  rw [irA]
  simp only [svv_rfl]
  cases u <;> rfl
 | nil h =>
  rw [irA0]
  simp only [svv_rfl]
  cases u <;> rfl
theorem ir_ok (hz : rowAt r b off n z) (hP : PrR r len z2 P) (hl : len ≤ 500000) : GrT Tryz.prog r 11 [RS b off n cap, P] (.bool (irR z z2 n len)) := by
 have hro : roVs [RS b off n cap, P] = true := by cases hP <;> rfl
 by_cases h : 1 ≤ n ∧ n ≤ 16
 ·refine GrT.of (SC_ok r) (t := tIr true (RS b off n cap) P (irB z z2 n len)) (TOk.nil.cons (EOk.ent fun args A hg => ?_)) .nil rfl ⟨1, 3, (ir_beg hP true (irB z z2 n len)).trans ?_⟩
  ·have hs := @of_decide_eq_true _ (Classical.propDecidable _) hg
   subst hs
   exact (rz_ok hz hP hl (by omega)).ro hro A
  ·have hv : irR z z2 n len = irB z z2 n len := by unfold irR; rw [dT h, Bool.true_and]
   rw [ckr h, cond_true, hv]
   cases irB z z2 n len <;> rfl
 ·refine GrT.of (SC_ok r) (t := tIr false (RS b off n cap) P false) (TOk.nil.cons (EOk.ent fun args A hg => nomatch hg)) .nil rfl ⟨1, 3, (ir_beg hP false false).trans ?_⟩
  have hv : irR z z2 n len = false := by unfold irR; rw [dF h, Bool.false_and]
  rw [ckl h, hv]; rfl
end

end Go.Proofs

/- The least number with a property. Mathematics. -/
namespace Go.Num
set_option linter.unusedVariables false
set_option linter.unusedSimpArgs false

def lvF (v : Nat → Bool) : Nat → Nat → Int × Bool
 | 0, _ => (0, false)
 | f + 1, k => if v k then ((k : Int), true) else lvF v f (k + 1)
theorem lvF_no {v : Nat → Bool} : ∀ (f k : Nat), (lvF v f k).2 = false ↔ ∀ i, k ≤ i → i < k + f → v i = false
 | 0, k => ⟨fun _ i h1 h2 => by omega, fun _ => rfl⟩
 | f + 1, k => by
  rw [lvF]
  by_cases c : v k = true
  ·rw [if_pos c]
   exact ⟨fun h => (by cases h), fun h => by
    have := h k (by omega) (by omega)
    rw [c] at this
    cases this⟩
  ·rw [if_neg c, lvF_no f (k + 1)]
   have ck : v k = false := by simpa using c
   exact ⟨fun h i h1 h2 => by
    by_cases e : i = k
    ·subst e; exact ck
    ·exact h i (by omega) (by omega), fun h i h1 h2 => h i (by omega) (by omega)⟩
theorem lvF_at {v : Nat → Bool} : ∀ (f k : Nat), (lvF v f k).2 = true → ∃ i : Nat, k ≤ i ∧ i < k + f ∧ (lvF v f k).1 = (i : Int) ∧ v i = true
 | 0, k, h => by cases h
 | f + 1, k, h => by
  rw [lvF] at h ⊢
  by_cases c : v k = true
  ·rw [if_pos c]
   exact ⟨k, by omega, by omega, rfl, c⟩
  ·rw [if_neg c] at h ⊢
   obtain ⟨i, h1, h2, h3, h4⟩ := lvF_at f (k + 1) h
   exact ⟨i, by omega, by omega, h3, h4⟩
theorem lvF_zero {v : Nat → Bool} : ∀ (f k : Nat), (lvF v f k).2 = false → (lvF v f k).1 = 0
 | 0, k, _ => rfl
 | f + 1, k, h => by
  rw [lvF] at h ⊢
  by_cases c : v k = true
  ·rw [if_pos c] at h; cases h
  ·rw [if_neg c] at h ⊢
   exact lvF_zero f (k + 1) h
end Go.Num

/- The least violation, run. -/
namespace Go.Proofs
open Go Go.Ev Go.Num
set_option linter.unusedVariables false
set_option linter.unusedSimpArgs false
set_option maxRecDepth 100000

noncomputable def cLV : Code := bodyOf S0 14
noncomputable def LV_0 : Code := (lc cLV)
noncomputable def LV_1 : Code := (lc (lc (rc cLV)))
noncomputable def LV_2 : Code := (ic (ic (rc (lc (rc cLV)))))
noncomputable def LV_3 : Code := (rc (rc cLV))
theorem LV_eq : cLV = (.seq LV_0 (.seq (.seq LV_1 (.block 0 (.loop LV_2))) LV_3)) := by kernel_rfl
noncomputable def cRN : Code := bodyOf S0 8
noncomputable def RN_0 : Code := (lc cRN)
noncomputable def RN_1 : Code := (lc (lc (rc cRN)))
noncomputable def RN_2 : Code := (ic (ic (rc (lc (rc cRN)))))
noncomputable def RN_3 : Code := (rc (rc cRN))
theorem RN_eq : cRN = (.seq RN_0 (.seq (.seq RN_1 (.block 0 (.loop RN_2))) RN_3)) := by kernel_rfl
abbrev fIV : Value := .func (.func 15) ⟨[]⟩ ⟨[]⟩
noncomputable def eLv (sl : Value) (v : Int → Bool) : Ent := ent (fun args _ => match args with | [x, .int .i64 k] => m_svv [x] [sl] | _ => false) fun args _ => match args with | [_, .int .i64 k] => .bool (v k) | _ => undef
noncomputable def tLv (sl : Value) (v : Int → Bool) : Tbl := tcons 15 (eLv sl v) fun _ => none
noncomputable def tRn (sl : Value) (v : Int → Bool) : Tbl := tcons 20 (eLv sl v) fun _ => none
def lvLV : List Nat := [0, 1, 9, 10]
def vLV (b off n cap k : Nat) : OV := [some (RS b off n cap), some fIV, some (I ((n + 1 : Nat) : Int)), some (I (k : Nat))]
def lvRN : List Nat := [0, 4]
def vRN (b off n cap k : Nat) : OV := [some (RS b off n cap), some (I (k : Nat))]

theorem lvA (r : Mem) (b off n cap : Nat) (fs : FnsC) (K : OV → List Nat → OO → CR) (kx : Nat → KS) (kr : KS) : run (SC r) 1651 19 1 (.seq LV_0 LV_1) fs none (rbK 0 lvLV [] K) kx kr (sc0 1651 [RS b off n cap, fIV]) (tr0 1651 [RS b off n cap, fIV]) [] emptyA =
    K [some (.slice (some ⟨b, off, some 0⟩) n cap), some (.func (Fn.func 15) ⟨[]⟩ ⟨[]⟩), some (I (IntKind.wrap .i64 (Int.ofNat n + Int.ofNat 1))), some (I (Int.ofNat 0))] [] [] := by kernel_rfl

theorem lvB (r : Mem) (b off n cap k : Nat) (v : Int → Bool) (K : OV → List Nat → OO → CR) (KX : Nat → OV → List Nat → OO → CR) (KR : OV → List Nat → OO → CR) : run (SC r) 1651 19 1 LV_2 (lvlT (SC r) (tLv (RS b off n cap) v) .nil 1 1) none (rbK 0 lvLV [] K) (fun j => rbK 0 [] [] (KX j)) (rbK 0 [4, 5] [] KR) [] (bT lvLV (vLV b off n cap k) .nil) [] (mkA []) =
    bif decide (Int.ofNat k < Int.ofNat (n + 1)) then bif m_svv [.slice (some ⟨b, off, some 0⟩) n cap] [.slice (some ⟨b, off, some 0⟩) n cap] then bif v (Int.ofNat k) then KR [some (I (Int.ofNat k)), some (.bool true)] [] [] else K [some (.slice (some ⟨b, off, some 0⟩) n cap), some (.func (Fn.func 15) ⟨[]⟩ ⟨[]⟩), some (I (Int.ofNat (n + 1))), some (I (IntKind.wrap .i64 (Int.ofNat k + Int.ofNat 1)))] [] [] else .fail 420 else KX 0 [] [] [] := by kernel_rfl

theorem lvC (r : Mem) (fs : FnsC) (K KR : OV → List Nat → OO → CR) (kx : Nat → KS) : run (SC r) 1651 19 1 LV_3 fs none (rbK 0 [4, 5] [] K) kx (rbK 0 [4, 5] [] KR) [] (bT [] [] .nil) [] (mkA []) =
    KR [some (I (Int.ofNat 0)), some (.bool false)] [] [] := by kernel_rfl

theorem rnA (r : Mem) (b off n cap : Nat) (fs : FnsC) (K : OV → List Nat → OO → CR) (kx : Nat → KS) (kr : KS) : run (SC r) 31 15 1 (.seq RN_0 RN_1) fs none (rbK 0 lvRN [] K) kx kr (sc0 31 [RS b off n cap]) (tr0 31 [RS b off n cap]) [] emptyA =
    K [some (.slice (some ⟨b, off, some 0⟩) n cap), some (I (Int.ofNat 0))] [] [] := by kernel_rfl

theorem rnB (r : Mem) (b off n cap k : Nat) (v : Int → Bool) (K : OV → List Nat → OO → CR) (KX : Nat → OV → List Nat → OO → CR) (KR : OV → List Nat → OO → CR) : run (SC r) 31 15 1 RN_2 (lvlT (SC r) (tRn (RS b off n cap) v) .nil 1 1) none (rbK 0 lvRN [] K) (fun j => rbK 0 [] [] (KX j)) (rbK 0 [2, 3] [] KR) [] (bT lvRN (vRN b off n cap k) .nil) [] (mkA []) =
    bif decide (Int.ofNat k ≤ Int.ofNat n) then bif m_svv [.slice (some ⟨b, off, some 0⟩) n cap] [.slice (some ⟨b, off, some 0⟩) n cap] then bif v (Int.ofNat k) then KR [some (I (Int.ofNat k)), some (.bool true)] [] [] else K [some (.slice (some ⟨b, off, some 0⟩) n cap), some (I (IntKind.wrap .i64 (Int.ofNat k + Int.ofNat 1)))] [] [] else .fail 420 else KX 0 [] [] [] := by kernel_rfl

theorem rnC (r : Mem) (fs : FnsC) (K KR : OV → List Nat → OO → CR) (kx : Nat → KS) : run (SC r) 31 15 1 RN_3 fs none (rbK 0 [2, 3] [] K) kx (rbK 0 [2, 3] [] KR) [] (bT [] [] .nil) [] (mkA []) =
    KR [some (I (Int.ofNat 0)), some (.bool false)] [] [] := by kernel_rfl

end Go.Proofs

/- The least violation: what the calls answer. -/
namespace Go.Proofs
open Go Go.Ev Go.Num
set_option linter.unusedVariables false
set_option linter.unusedSimpArgs false
set_option maxRecDepth 100000

section
variable {r : Mem} {b off n cap : Nat} {z : Nat → Int}
theorem eLv_ok {f : Nat} {v : Int → Bool} (h : ∀ k, GrT Tryz.prog r f [RS b off n cap, I k] (.bool (v k))) : EOk (SC r) f (eLv (RS b off n cap) v) := EOk.ent fun args A hg => by
 split at hg
 ·rename_i x k
  have hs := @of_decide_eq_true _ (Classical.propDecidable _) hg
  simp only [List.cons.injEq, and_true] at hs
  subst hs
  exact (h k).ro rfl A
 ·cases hg
theorem lv_ok (hz : rowAt r b off n z) (h64 : ∀ j, j < n → s64 (z j)) (h1 : 1 ≤ n) (hn : n ≤ 16) (hcap : cap ≠ unkE) : GrT Tryz.prog r 14 [RS b off n cap, fIV] (.tuple ⟨[I (lvF (fun k => viB z n (k : Nat)) (n + 1) 0).1, .bool (lvF (fun k => viB z n (k : Nat)) (n + 1) 0).2]⟩) := by
 generalize hL : lvF (fun k => viB z n (k : Nat)) (n + 1) 0 = L
 refine GrT.ofS (C := SC r) rfl rfl rfl (callO (SC_ok r) (by kernel_rfl) ((bodySC r _).trans LV_eq) (nt := 19) (by kernel_rfl) (rs := [.tmp 4, .tmp 5]) (by kernel_rfl) 1651 rfl ⟨[4, 5], [], fun vs ms os => vs = [some (I L.1), some (.bool L.2)] ∧ ms = [] ∧ os = []⟩ ?_ fun γ W F kk hwr hF hro h0' => ?_)
 ·rintro vs ms os ⟨rfl, rfl, rfl⟩
  exact ⟨_, mkA [], by kernel_rfl, rfl⟩
 have h0' : ∀ i, 0 ≤ i → γ i = none := h0'
 refine Go.Ev.Reach.after3R (SC_ok r) TOk.nil (tm := .nil) (L := 1) (L' := 1) (d := 1) hF hro h0' (.step .base)
  (o1 := ⟨lvLV, [], fun vs ms os => vs = vLV b off n cap 0 ∧ ms = [] ∧ os = []⟩)
  (o2 := ⟨[], [], fun vs ms os => L = (0, false) ∧ vs = [] ∧ ms = [] ∧ os = []⟩) [] (fun p hp => nomatch hp) ?_ ?_ ?_
 ·rintro vs ms os ⟨rfl, rfl, rfl⟩
  refine Go.Ev.Reach.blockC (Go.Ev.Reach.loopC (j := n + 1) (lv := lvLV) (fl := []) (I := fun j vs ms os => ∃ k : Nat, k ≤ n + 1 ∧ j = n + 1 - k ∧ L = lvF (fun k => viB z n (k : Nat)) (n + 1 - k) k ∧ vs = vLV b off n cap k ∧ ms = [] ∧ os = []) (fun j vs ms os hI => ?_) ⟨0, by omega, rfl, hL.symm, rfl, rfl, rfl⟩)
  obtain ⟨k, hk, rfl, hLk, rfl, rfl, rfl⟩ := hI
  refine Go.Ev.Reach.segR (SC_ok r) (t := tLv (RS b off n cap) (viB z n)) (TOk.nil.cons (eLv_ok fun k => vi_ok hz h64 h1 hn hcap k)) (tm := .nil) (L := 1) (L' := 1) (d := 1) hF hro h0' [(0, ⟨[], [], fun vs ms os => L = (0, false) ∧ vs = [] ∧ ms = [] ∧ os = []⟩)] (fun p hp => by simp only [List.mem_cons, List.not_mem_nil, or_false] at hp; subst hp; rfl) ?_
  have hn' := lvB r b off n cap k (viB z n)
  by_cases c : k < n + 1
  ·have c1 : Int.ofNat k < Int.ofNat (n + 1) := by simp; omega
   have e3 := inc1 (k := k) (by omega)
   rw [show n + 1 - k = (n - k) + 1 by omega, lvF] at hLk
   simp only [dT c1, cond_true, svv_rfl, e3] at hn'
   by_cases d : viB z n (k : Nat) = true
   ·have d' : viB z n (Int.ofNat k) = true := d
    rw [if_pos d] at hLk
    simp only [d', cond_true] at hn'
    exact (hn' _ _ _).trans (qq_ok ⟨by rw [hLk]; rfl, rfl, rfl⟩)
   ·have d' : viB z n (Int.ofNat k) = false := by simpa using d
    rw [if_neg d] at hLk
    simp only [d', cond_false] at hn'
    exact (hn' _ _ _).trans (qq_ok ⟨n + 1 - (k + 1), by omega, k + 1, c, rfl, by rw [hLk, show n + 1 - (k + 1) = n - k by omega], rfl, rfl, rfl⟩)
  ·have hkl : k = n + 1 := by omega
   have c1 : ¬ Int.ofNat k < Int.ofNat (n + 1) := by simp; omega
   rw [hkl, Nat.sub_self, lvF] at hLk
   simp only [dF c1, cond_false] at hn'
   exact (hn' _ _ _).trans (qq_ok ⟨hLk, rfl, rfl, rfl⟩)
 ·rintro vs ms os ⟨hL0, rfl, rfl, rfl⟩
  refine Go.Ev.Reach.segR (SC_ok r) TOk.nil (tm := .nil) (L := 1) (L' := 1) (d := 1) hF hro h0' [] (fun p hp => nomatch hp) ?_
  rw [hL0]
  exact (lvC r _ _ _ _).trans (qq_ok ⟨rfl, rfl, rfl⟩)
 ·refine (lvA r b off n cap _ _ _ _).trans ?_
  rw [inc1 (by omega)]
  exact qq_ok ⟨rfl, rfl, rfl⟩
theorem rn_ok (hz : rowAt r b off n z) (h64 : ∀ j, j < n → s64 (z j)) (hn : n ≤ 1000) : GrT Tryz.prog r 8 [RS b off n cap] (.tuple ⟨[I (lvF (fun k => viR z n (k : Nat)) (n + 1) 0).1, .bool (lvF (fun k => viR z n (k : Nat)) (n + 1) 0).2]⟩) := by
 generalize hL : lvF (fun k => viR z n (k : Nat)) (n + 1) 0 = L
 refine GrT.ofS (C := SC r) rfl rfl rfl (callO (SC_ok r) (by kernel_rfl) ((bodySC r _).trans RN_eq) (nt := 15) (by kernel_rfl) (rs := [.tmp 2, .tmp 3]) (by kernel_rfl) 31 rfl ⟨[2, 3], [], fun vs ms os => vs = [some (I L.1), some (.bool L.2)] ∧ ms = [] ∧ os = []⟩ ?_ fun γ W F kk hwr hF hro h0' => ?_)
 ·rintro vs ms os ⟨rfl, rfl, rfl⟩
  exact ⟨_, mkA [], by kernel_rfl, rfl⟩
 have h0' : ∀ i, 0 ≤ i → γ i = none := h0'
 refine Go.Ev.Reach.after3R (SC_ok r) TOk.nil (tm := .nil) (L := 1) (L' := 1) (d := 1) hF hro h0' (.step .base)
  (o1 := ⟨lvRN, [], fun vs ms os => vs = vRN b off n cap 0 ∧ ms = [] ∧ os = []⟩)
  (o2 := ⟨[], [], fun vs ms os => L = (0, false) ∧ vs = [] ∧ ms = [] ∧ os = []⟩) [] (fun p hp => nomatch hp) ?_ ?_ ?_
 ·rintro vs ms os ⟨rfl, rfl, rfl⟩
  refine Go.Ev.Reach.blockC (Go.Ev.Reach.loopC (j := n + 1) (lv := lvRN) (fl := []) (I := fun j vs ms os => ∃ k : Nat, k ≤ n + 1 ∧ j = n + 1 - k ∧ L = lvF (fun k => viR z n (k : Nat)) (n + 1 - k) k ∧ vs = vRN b off n cap k ∧ ms = [] ∧ os = []) (fun j vs ms os hI => ?_) ⟨0, by omega, rfl, hL.symm, rfl, rfl, rfl⟩)
  obtain ⟨k, hk, rfl, hLk, rfl, rfl, rfl⟩ := hI
  refine Go.Ev.Reach.segR (SC_ok r) (t := tRn (RS b off n cap) (viR z n)) (TOk.nil.cons (eLv_ok fun k => rv_ok hz h64 k)) (tm := .nil) (L := 1) (L' := 1) (d := 1) hF hro h0' [(0, ⟨[], [], fun vs ms os => L = (0, false) ∧ vs = [] ∧ ms = [] ∧ os = []⟩)] (fun p hp => by simp only [List.mem_cons, List.not_mem_nil, or_false] at hp; subst hp; rfl) ?_
  have hn' := rnB r b off n cap k (viR z n)
  by_cases c : k < n + 1
  ·have c1 : Int.ofNat k ≤ Int.ofNat n := by simp; omega
   have e3 := inc1 (k := k) (by omega)
   rw [show n + 1 - k = (n - k) + 1 by omega, lvF] at hLk
   simp only [dT c1, cond_true, svv_rfl, e3] at hn'
   by_cases d : viR z n (k : Nat) = true
   ·have d' : viR z n (Int.ofNat k) = true := d
    rw [if_pos d] at hLk
    simp only [d', cond_true] at hn'
    exact (hn' _ _ _).trans (qq_ok ⟨by rw [hLk]; rfl, rfl, rfl⟩)
   ·have d' : viR z n (Int.ofNat k) = false := by simpa using d
    rw [if_neg d] at hLk
    simp only [d', cond_false] at hn'
    exact (hn' _ _ _).trans (qq_ok ⟨n + 1 - (k + 1), by omega, k + 1, c, rfl, by rw [hLk, show n + 1 - (k + 1) = n - k by omega], rfl, rfl, rfl⟩)
  ·have hkl : k = n + 1 := by omega
   have c1 : ¬ Int.ofNat k ≤ Int.ofNat n := by simp; omega
   rw [hkl, Nat.sub_self, lvF] at hLk
   simp only [dF c1, cond_false] at hn'
   exact (hn' _ _ _).trans (qq_ok ⟨hLk, rfl, rfl, rfl⟩)
 ·rintro vs ms os ⟨hL0, rfl, rfl, rfl⟩
  refine Go.Ev.Reach.segR (SC_ok r) TOk.nil (tm := .nil) (L := 1) (L' := 1) (d := 1) hF hro h0' [] (fun p hp => nomatch hp) ?_
  rw [hL0]
  exact (rnC r _ _ _ _).trans (qq_ok ⟨rfl, rfl, rfl⟩)
 ·refine (rnA r b off n cap _ _ _ _).trans ?_
  exact qq_ok ⟨rfl, rfl, rfl⟩
end

end Go.Proofs

/- Realize, Violation: what the calls answer. -/
namespace Go.Proofs
open Go Go.Ev Go.Num
set_option linter.unusedVariables false
set_option linter.unusedSimpArgs false
set_option maxRecDepth 100000

noncomputable def eRzR (u : Bool) (a0 : List Value) (q : Nat) (c : List Value) : Ent := ⟨fun args _ => bif u then m_svv args a0 else false, fun _ _ => true, fun _ A => .tuple ⟨[.slice (some ⟨A.next, 0, none⟩) q unk, .bool true]⟩, fun _ A => A.new (.cells c 57 A.next 2), fun _ _ => undef, fun _ A => A⟩
noncomputable def tReR (u : Bool) (sl : Value) (q : Nat) (c : List Value) : Tbl := tcons 13 (eRzR u [sl] q c) fun _ => none
noncomputable def tReP (u : Bool) (sl : Value) (ok : Bool) : Tbl := tcons 13 (eValG u [sl] (.tuple ⟨[nilE, .bool ok]⟩)) fun _ => none
noncomputable def tVio (u : Bool) (sl : Value) (k : Int) (is : Bool) : Tbl := tcons 14 (eValG u [sl, fIV] (.tuple ⟨[I k, .bool is]⟩)) fun _ => none

theorem reR (r : Mem) (u : Bool) (b off n cap q : Nat) (c : List Value) (K : Value → AW → CR) : (lvlT (SC r) (tReR u (RS b off n cap) q c) .nil 1 2).call 5 [RS b off n cap] emptyA K =
    bif decide (Int.ofNat n > 16) then K (.tuple ⟨[.slice none 0 0, .bool false, I (Int.ofNat 2)]⟩) (AW.mk 0 .nil .nil) else bif Int.ofNat n == Int.ofNat 0 then K (.tuple ⟨[.slice none 0 0, .bool false, I (Int.ofNat 1)]⟩) (AW.mk 0 .nil .nil) else bif bif u then m_svv [.slice (some ⟨b, off, some 0⟩) n cap] [.slice (some ⟨b, off, some 0⟩) n cap] else false then K (.tuple ⟨[.slice (some ⟨0, 0, none⟩) q unk, .bool true, I (Int.ofNat 0)]⟩) (AW.mk 1 (.node .nil (some (.cells c 57 0 2)) .nil) .nil) else .fail 420 := by kernel_rfl

theorem reP (r : Mem) (u : Bool) (b off n cap : Nat) (ok : Bool) (K : Value → AW → CR) : (lvlT (SC r) (tReP u (RS b off n cap) ok) .nil 1 2).call 5 [RS b off n cap] emptyA K =
    bif decide (Int.ofNat n > 16) then K (.tuple ⟨[.slice none 0 0, .bool false, I (Int.ofNat 2)]⟩) (AW.mk 0 .nil .nil) else bif Int.ofNat n == Int.ofNat 0 then K (.tuple ⟨[.slice none 0 0, .bool false, I (Int.ofNat 1)]⟩) (AW.mk 0 .nil .nil) else bif bif u then m_svv [.slice (some ⟨b, off, some 0⟩) n cap] [.slice (some ⟨b, off, some 0⟩) n cap] else false then bif ok then K (.tuple ⟨[.slice none 0 0, .bool true, I (Int.ofNat 0)]⟩) (AW.mk 0 .nil .nil) else K (.tuple ⟨[.slice none 0 0, .bool false, I (Int.ofNat 0)]⟩) (AW.mk 0 .nil .nil) else .fail 420 := by kernel_rfl

theorem vioP (r : Mem) (u : Bool) (b off n cap : Nat) (k : Int) (is : Bool) (K : Value → AW → CR) : (lvlT (SC r) (tVio u (RS b off n cap) k is) .nil 1 2).call 6 [RS b off n cap] emptyA K =
    bif decide (Int.ofNat n > 16) then K (.tuple ⟨[I (Int.ofNat 0), .bool false, I (Int.ofNat 2)]⟩) (AW.mk 0 .nil .nil) else bif Int.ofNat n == Int.ofNat 0 then K (.tuple ⟨[I (Int.ofNat 0), .bool false, I (Int.ofNat 1)]⟩) (AW.mk 0 .nil .nil) else bif bif u then m_svv [.slice (some ⟨b, off, some 0⟩) n cap, .func (Fn.func 15) ⟨[]⟩ ⟨[]⟩] [.slice (some ⟨b, off, some 0⟩) n cap, .func (Fn.func 15) ⟨[]⟩ ⟨[]⟩] else false then bif is then K (.tuple ⟨[I k, .bool true, I (Int.ofNat 0)]⟩) (AW.mk 0 .nil .nil) else K (.tuple ⟨[I k, .bool false, I (Int.ofNat 0)]⟩) (AW.mk 0 .nil .nil) else .fail 420 := by kernel_rfl

end Go.Proofs

/- awake of chapter 5. -/
set_option linter.unusedVariables false
set_option linter.unusedSimpArgs false
namespace Go.Proofs
open Go Go.Ev

theorem awake_ok : GrT Tryz.prog tabM 7 [] (.bool true) := GrT.closedRo evMixed evNames tabM .nil 1000 40 (by kernel_rfl)

end Go.Proofs

/- The law of degrees: what it asks. -/
namespace Go.Proofs
open Go Go.Ev Go.Num
set_option linter.unusedVariables false
set_option linter.unusedSimpArgs false
set_option maxRecDepth 100000

noncomputable def eXk (m : Nat) (cx : List Value) (k : Int) (v : Bool) : Ent := ent (fun args A => match args with | [x, y] => bif gOne (gw 0 m) cx [x] A then m_svv [y] [I k] else false | _ => false) fun _ _ => .bool v
noncomputable def eXPo (m : Nat) (cx : List Value) (q : Nat) (cp : List Value) (v : Bool) : Ent := ent (fun args A => match args with | [x, y] => bif gOne (gw 0 m) cx [x] A then gOne (gw 0 q) cp [y] A else false | _ => false) fun _ _ => .bool v
noncomputable def eXPn (m : Nat) (cx : List Value) (v : Bool) : Ent := ent (fun args A => match args with | [x, y] => bif gOne (gw 0 m) cx [x] A then m_svv [y, .agg ⟨cx⟩] [nilV, .agg ⟨cx⟩] else false | _ => false) fun _ _ => .bool v
noncomputable def eXv (m : Nat) (cx : List Value) (v : Value) : Ent := ent (fun args A => gOne (gw 0 m) cx args A) fun _ _ => v
noncomputable def eXr (m : Nat) (cx : List Value) (q : Nat) (c : List Value) : Ent := ⟨fun args A => gOne (gw 0 m) cx args A, fun _ _ => true, fun _ A => .tuple ⟨[.slice (some ⟨A.next, 0, none⟩) q unk, .bool true, I 0]⟩, fun _ A => A.new (.cells c 57 A.next 2), fun _ _ => undef, fun _ A => A⟩
noncomputable def tAw : Tbl := tcons 7 (e0 (.bool true)) fun _ => none
noncomputable def tLx (sl : Value) : Tbl := tcons 4 (eVal [sl] nilV) tAw
noncomputable def tLi (sl : Value) (m : Nat) (cx : List Value) : Tbl := tcons 4 (eRow [sl] m cx) fun _ => none
noncomputable def tLa (sl : Value) (m : Nat) (cx : List Value) : Tbl := tcons 4 (eRow [sl] m cx) tAw
noncomputable def tDl (sl : Value) (m : Nat) (cx : List Value) : Tbl := tcons 5 (eXv m cx (.tuple ⟨[nilE, .bool false, I 2]⟩)) (tcons 6 (eXv m cx (.tuple ⟨[I 0, .bool false, I 2]⟩)) (tLa sl m cx))
noncomputable def tDv (sl : Value) (m : Nat) (cx : List Value) (k : Int) : Tbl := tcons 5 (eXv m cx (.tuple ⟨[nilE, .bool false, I 0]⟩)) (tcons 6 (eXv m cx (.tuple ⟨[I k, .bool true, I 0]⟩)) (tcons 8 (eXv m cx (.tuple ⟨[I k, .bool true]⟩)) (tcons 9 (eXk m cx k true) (tLa sl m cx))))
noncomputable def tDn (sl : Value) (m : Nat) (cx : List Value) : Tbl := tcons 5 (eXv m cx (.tuple ⟨[nilE, .bool true, I 0]⟩)) (tcons 6 (eXv m cx (.tuple ⟨[I 0, .bool false, I 0]⟩)) (tcons 8 (eXv m cx (.tuple ⟨[I 0, .bool false]⟩)) (tcons 11 (eXPn m cx true) (tcons 10 (eXPn m cx true) (tLa sl m cx)))))
noncomputable def tDr (sl : Value) (m : Nat) (cx : List Value) (q : Nat) (c : List Value) : Tbl := tcons 5 (eXr m cx q c) (tcons 6 (eXv m cx (.tuple ⟨[I 0, .bool false, I 0]⟩)) (tcons 8 (eXv m cx (.tuple ⟨[I 0, .bool false]⟩)) (tcons 11 (eXPo m cx q c true) (tcons 10 (eXPo m cx q c true) (tLa sl m cx)))))

theorem liR (r : Mem) (b off n cap : Nat) (K : Value → AW → CR) : (lvlT (SC r) (fun _ => none) .nil 1 2).call 4 [RS b off n cap] emptyA K =
    bif decide (0 ≤ bif decide (18 < Int.ofNat n) then Int.ofNat 18 else Int.ofNat n) then bif Nat.beq cap 9223372036854775809 then .fail 435 else bif Nat.ble (Int.toNat (bif decide (18 < Int.ofNat n) then Int.ofNat 18 else Int.ofNat n)) cap then bif Nat.beq (Int.toNat (bif decide (18 < Int.ofNat n) then Int.ofNat 18 else Int.ofNat n)) 0 then K (.slice none 0 0) (AW.mk 0 .nil .nil) else bif Nat.ble (Nat.add 0 (Nat.sub (Int.toNat (bif decide (18 < Int.ofNat n) then Int.ofNat 18 else Int.ofNat n)) 0)) 1000000 then Option.casesOn (match Nat.beq (Nat.sub cap 0) unkE with | true => none | false => takeF (Cfg.ro (SC r) b) (Nat.add off (Nat.mul 0 (TypeInfo.size Tryz.t3))) (Nat.mul (Nat.sub (Int.toNat (bif decide (18 < Int.ofNat n) then 18 else Int.ofNat n)) 0) (TypeInfo.size Tryz.t3))) (.fail 443) fun val => bif Nat.beq (List.length val) (Nat.mul (Nat.sub (Int.toNat (bif decide (18 < Int.ofNat n) then Int.ofNat 18 else Int.ofNat n)) 0) 1) then bif Nat.beq (Nat.sub (Int.toNat (bif decide (18 < Int.ofNat n) then Int.ofNat 18 else Int.ofNat n)) 0) 0 then K (.slice none 0 0) (AW.mk 0 .nil .nil) else K (.slice (some ⟨0, 0, none⟩) (Nat.sub (Int.toNat (bif decide (18 < Int.ofNat n) then Int.ofNat 18 else Int.ofNat n)) 0) unk) (AW.mk 1 (.node .nil (some (.cells val 3 0 1)) .nil) .nil) else .fail 420 else .fail 420 else .fail 420 else .fail 420 := by kernel_rfl

theorem lwX1 (r : Mem) : (lvlT (SC r) tAw .nil 3 4).call 3 [nilV] emptyA fin =
    .ret (.bool true) (AW.mk 0 .nil .nil) := by kernel_rfl

theorem lwX3 (r : Mem) (b off cap : Nat) : (lvlT (SC r) (tLx (RS b off 0 cap)) .nil 3 4).call 3 [RS b off 0 cap] emptyA fin =
    bif m_svv [.slice (some ⟨b, off, some 0⟩) 0 cap] [.slice (some ⟨b, off, some 0⟩) 0 cap] then .ret (.bool true) (AW.mk 0 .nil .nil) else .fail 420 := by kernel_rfl

theorem lwDl (r : Mem) (b off n cap m : Nat) (cx : List Value) : (lvlT (SC r) (tDl (RS b off n cap) m cx) .nil 1 1).call 3 [RS b off n cap] emptyA fin =
    bif m_svv [.slice (some ⟨b, off, some 0⟩) n cap] [.slice (some ⟨b, off, some 0⟩) n cap] then bif m_svv [.slice (some ⟨0, 0, none⟩) m unk, .agg ⟨cx⟩] [.slice (some ⟨0, 0, none⟩) m unk, .agg ⟨cx⟩] then bif m_svv [.slice (some ⟨0, 0, none⟩) m unk, .agg ⟨cx⟩] [.slice (some ⟨0, 0, none⟩) m unk, .agg ⟨cx⟩] then bif decide (Int.ofNat m > 16) then .ret (.bool true) (AW.mk 0 .nil .nil) else bif Int.ofNat m == Int.ofNat 0 then .ret (.bool false) (AW.mk 0 .nil .nil) else .fail 400 else .fail 420 else .fail 420 else .fail 420 := by kernel_rfl

theorem lwDv (r : Mem) (b off n cap m : Nat) (cx : List Value) (k : Int) : (lvlT (SC r) (tDv (RS b off n cap) m cx k) .nil 1 1).call 3 [RS b off n cap] emptyA fin =
    bif m_svv [.slice (some ⟨b, off, some 0⟩) n cap] [.slice (some ⟨b, off, some 0⟩) n cap] then bif m_svv [.slice (some ⟨0, 0, none⟩) m unk, .agg ⟨cx⟩] [.slice (some ⟨0, 0, none⟩) m unk, .agg ⟨cx⟩] then bif m_svv [.slice (some ⟨0, 0, none⟩) m unk, .agg ⟨cx⟩] [.slice (some ⟨0, 0, none⟩) m unk, .agg ⟨cx⟩] then bif decide (Int.ofNat m > 16) then .ret (.bool false) (AW.mk 0 .nil .nil) else bif Int.ofNat m == Int.ofNat 0 then .ret (.bool false) (AW.mk 0 .nil .nil) else bif m_svv [.slice (some ⟨0, 0, none⟩) m unk, .agg ⟨cx⟩] [.slice (some ⟨0, 0, none⟩) m unk, .agg ⟨cx⟩] then bif k != k then .ret (.bool false) (AW.mk 0 .nil .nil) else bif bif m_svv [.slice (some ⟨0, 0, none⟩) m unk, .agg ⟨cx⟩] [.slice (some ⟨0, 0, none⟩) m unk, .agg ⟨cx⟩] then m_svv [I k] [I k] else false then .ret (.bool true) (AW.mk 0 .nil .nil) else .fail 420 else .fail 420 else .fail 420 else .fail 420 else .fail 420 := by kernel_rfl

theorem lwDn (r : Mem) (b off n cap m : Nat) (cx : List Value) : (lvlT (SC r) (tDn (RS b off n cap) m cx) .nil 1 1).call 3 [RS b off n cap] emptyA fin =
    bif m_svv [.slice (some ⟨b, off, some 0⟩) n cap] [.slice (some ⟨b, off, some 0⟩) n cap] then bif m_svv [.slice (some ⟨0, 0, none⟩) m unk, .agg ⟨cx⟩] [.slice (some ⟨0, 0, none⟩) m unk, .agg ⟨cx⟩] then bif m_svv [.slice (some ⟨0, 0, none⟩) m unk, .agg ⟨cx⟩] [.slice (some ⟨0, 0, none⟩) m unk, .agg ⟨cx⟩] then bif decide (Int.ofNat m > 16) then .ret (.bool false) (AW.mk 0 .nil .nil) else bif Int.ofNat m == Int.ofNat 0 then .ret (.bool false) (AW.mk 0 .nil .nil) else bif m_svv [.slice (some ⟨0, 0, none⟩) m unk, .agg ⟨cx⟩] [.slice (some ⟨0, 0, none⟩) m unk, .agg ⟨cx⟩] then bif bif m_svv [.slice (some ⟨0, 0, none⟩) m unk, .agg ⟨cx⟩] [.slice (some ⟨0, 0, none⟩) m unk, .agg ⟨cx⟩] then m_svv [.slice none 0 0, .agg ⟨cx⟩] [.slice none 0 0, .agg ⟨cx⟩] else false then bif bif m_svv [.slice (some ⟨0, 0, none⟩) m unk, .agg ⟨cx⟩] [.slice (some ⟨0, 0, none⟩) m unk, .agg ⟨cx⟩] then m_svv [.slice none 0 0, .agg ⟨cx⟩] [.slice none 0 0, .agg ⟨cx⟩] else false then .ret (.bool true) (AW.mk 0 .nil .nil) else .fail 420 else .fail 420 else .fail 420 else .fail 420 else .fail 420 else .fail 420 := by kernel_rfl

theorem lwDr (r : Mem) (b off n cap m : Nat) (cx : List Value) (q : Nat) (c : List Value) : (lvlT (SC r) (tDr (RS b off n cap) m cx q c) .nil 1 1).call 3 [RS b off n cap] emptyA fin =
    bif m_svv [.slice (some ⟨b, off, some 0⟩) n cap] [.slice (some ⟨b, off, some 0⟩) n cap] then bif m_svv [.slice (some ⟨0, 0, none⟩) m unk, .agg ⟨cx⟩] [.slice (some ⟨0, 0, none⟩) m unk, .agg ⟨cx⟩] then bif m_svv [.slice (some ⟨0, 0, none⟩) m unk, .agg ⟨cx⟩] [.slice (some ⟨0, 0, none⟩) m unk, .agg ⟨cx⟩] then bif decide (Int.ofNat m > 16) then .ret (.bool false) (AW.mk 0 .nil .nil) else bif Int.ofNat m == Int.ofNat 0 then .ret (.bool false) (AW.mk 0 .nil .nil) else bif m_svv [.slice (some ⟨0, 0, none⟩) m unk, .agg ⟨cx⟩] [.slice (some ⟨0, 0, none⟩) m unk, .agg ⟨cx⟩] then bif bif m_svv [.slice (some ⟨0, 0, none⟩) m unk, .agg ⟨cx⟩] [.slice (some ⟨0, 0, none⟩) m unk, .agg ⟨cx⟩] then m_svv [.slice (some ⟨0, 0, none⟩) q unk, .agg ⟨c⟩] [.slice (some ⟨0, 0, none⟩) q unk, .agg ⟨c⟩] else false then bif bif m_svv [.slice (some ⟨0, 0, none⟩) m unk, .agg ⟨cx⟩] [.slice (some ⟨0, 0, none⟩) m unk, .agg ⟨cx⟩] then m_svv [.slice (some ⟨0, 0, none⟩) q unk, .agg ⟨c⟩] [.slice (some ⟨0, 0, none⟩) q unk, .agg ⟨c⟩] else false then .ret (.bool true) (AW.mk 0 .nil .nil) else .fail 420 else .fail 420 else .fail 420 else .fail 420 else .fail 420 else .fail 420 := by kernel_rfl

theorem gOne_all {fa : Nat → Int} {la ca na : Nat} {args : List Value} {A : AW} (h1 : Nat.beq ca unkE = false) (hg : gOne (.slice (some ⟨0, 0, none⟩) la ca) (ixN fa na) args A = true) {γ : Gam} {W : World} {r : Mem} (hw : WRel γ A W) (hR : Ro r γ W) {args' : Array Value} (ha : VsRel γ args args'.toList) :
  ∃ b k, VsRel noG [RS b k la 0] args'.toList ∧ rowAt (memW W) b k na fa := by
 unfold gOne at hg
 split at hg
 ·rename_i i x l p
  split at hg
  ·rename_i ci e f zz hi
   have hs := @of_decide_eq_true _ (Classical.propDecidable _) hg
   simp only [List.cons.injEq, Value.slice.injEq, Option.some.injEq, Addr.mk.injEq, Value.agg.injEq, Array.mk.injEq, and_true, true_and] at hs
   obtain ⟨⟨rfl, rfl, rfl⟩, rfl⟩ := hs
   obtain ⟨la⟩ := args'
   cases ha with
   | cons hv hrest =>
   cases hrest
   obtain ⟨b, k, p1, p2⟩ := own_row hw hR h1 hi hv
   exact ⟨b, k, .cons p1 .nil, fun j hj => p2 j _ (ix_get (by omega)) rfl⟩
  ·cases hg
 ·cases hg
theorem gAnd {a b : Bool} (h : (bif a then b else false) = true) : a = true ∧ b = true := by
 cases a with
 | true => exact ⟨rfl, h⟩
 | false => cases h
theorem unk_ne : Nat.beq unk unkE = false := by decide

section
variable {r : Mem} {m q : Nat} {z zp : Nat → Int} {k : Int}
theorem two_o {x y : Value} {A : AW} (hg : (bif gOne (gw 0 m) (ixN z m) [x] A then gOne (gw 0 q) (ixN zp (2 * q)) [y] A else false) = true) {γ : Gam} {W : World} (hw : WRel γ A W) (hR : Ro r γ W) {args' : Array Value} (ha : VsRel γ [x, y] args'.toList) :
  ∃ b k P, VsRel noG [RS b k m 0, P] args'.toList ∧ rowAt (memW W) b k m z ∧ PrR (memW W) q zp P := by
 obtain ⟨g1, g2⟩ := gAnd hg
 obtain ⟨la⟩ := args'
 cases ha with
 | cons hv hrest =>
 cases hrest with
 | cons hv2 hrest =>
 cases hrest
 obtain ⟨b, k, p1, p2⟩ := gOne_all (args' := ⟨[_]⟩) unk_ne g1 hw hR (.cons hv .nil)
 obtain ⟨b', k', q1, q2⟩ := gOne_all (args' := ⟨[_]⟩) unk_ne g2 hw hR (.cons hv2 .nil)
 cases p1 with
 | cons p1 _ =>
 cases q1 with
 | cons q1 _ =>
 exact ⟨b, k, RS2 b' k' q 0, .cons p1 (.cons q1 .nil), p2, .own b' k' 0 q2⟩
theorem two_n {x y : Value} {A : AW} (hg : (bif gOne (gw 0 m) (ixN z m) [x] A then m_svv [y, .agg ⟨ixN z m⟩] [nilV, .agg ⟨ixN z m⟩] else false) = true) {γ : Gam} {W : World} (hw : WRel γ A W) (hR : Ro r γ W) {args' : Array Value} (ha : VsRel γ [x, y] args'.toList) :
  ∃ b k P, VsRel noG [RS b k m 0, P] args'.toList ∧ rowAt (memW W) b k m z ∧ PrR (memW W) 0 zp P := by
 obtain ⟨g1, g2⟩ := gAnd hg
 have hs := @of_decide_eq_true _ (Classical.propDecidable _) g2
 simp only [List.cons.injEq, and_true] at hs
 subst hs
 obtain ⟨la⟩ := args'
 cases ha with
 | cons hv hrest =>
 obtain ⟨b, k, p1, p2⟩ := gOne_all (args' := ⟨[_]⟩) unk_ne g1 hw hR (.cons hv .nil)
 cases p1 with
 | cons p1 _ =>
 exact ⟨b, k, nilV, .cons p1 (hrest.of_ros rfl), p2, .nil rfl⟩
theorem two_k {x y : Value} {A : AW} (hg : (bif gOne (gw 0 m) (ixN z m) [x] A then m_svv [y] [I k] else false) = true) {γ : Gam} {W : World} (hw : WRel γ A W) (hR : Ro r γ W) {args' : Array Value} (ha : VsRel γ [x, y] args'.toList) :
  ∃ b j, VsRel noG [RS b j m 0, I k] args'.toList ∧ rowAt (memW W) b j m z := by
 obtain ⟨g1, g2⟩ := gAnd hg
 have hs := @of_decide_eq_true _ (Classical.propDecidable _) g2
 simp only [List.cons.injEq, and_true] at hs
 subst hs
 obtain ⟨la⟩ := args'
 cases ha with
 | cons hv hrest =>
 obtain ⟨b, j, p1, p2⟩ := gOne_all (args' := ⟨[_]⟩) unk_ne g1 hw hR (.cons hv .nil)
 cases p1 with
 | cons p1 _ =>
 exact ⟨b, j, .cons p1 (hrest.of_ros rfl), p2⟩
end
theorem min_k (c n : Nat) : (bif decide ((c : Int) < (n : Int)) then (c : Int) else (n : Int)) = ((min n c : Nat) : Int) := by
 by_cases h : (c : Int) < (n : Int)
 ·rw [dT h, cond_true, Nat.min_eq_right (by omega)]
 ·rw [dF h, cond_false, Nat.min_eq_left (by omega)]
section
variable {r : Mem} {b off n cap m : Nat} {z : Nat → Int}
theorem takeF_z {f : Nat → Option Value} (n off : Nat) (h : ∀ i, i < n → f (off + i) = some (I (z i))) : takeF f off n = some (ixN z n) := by
 rw [takeF_row (z := z) n 0 off fun i hi => by rw [Nat.zero_add]; exact h i hi]
 unfold ixN
 rw [List.range_eq_range']
theorem li_row (hl : n ≤ cap) (hc : cap ≤ maxLen) (hm : m = min n 18) (h1 : 1 ≤ m) (hz : rowAt r b off m z) : GrM Tryz.prog r 4 [RS b off n cap] (gw 0 m) (rowA (ixN z m) 3 1) :=
 GrM.of (SC_ok r) TOk.nil .nil ⟨1, 2, by
  have hc : cap ≤ 9223372036854775807 := hc
  rw [liR]
  have e' : (bif decide ((18 : Int) < Int.ofNat n) then Int.ofNat 18 else Int.ofNat n) = ((m : Nat) : Int) := by rw [hm]; exact min_k 18 n
  have e2 : (bif decide ((18 : Int) < Int.ofNat n) then (18 : Int) else Int.ofNat n) = ((m : Nat) : Int) := by rw [hm]; exact min_k 18 n
  simp only [e', e2, dT (show (0 : Int) ≤ ((m : Nat) : Int) by omega), natFx (show cap ≠ 9223372036854775809 by omega), Int.toNat_natCast, Nat.ble_eq_true_of_le (show m ≤ cap by omega), natFx (show m ≠ 0 by omega), Nat.ble_eq_true_of_le (show Nat.add 0 (Nat.sub m 0) ≤ 1000000 by simp; omega), cond_true, cond_false]
  have hr' : (match Nat.beq (Nat.sub cap 0) unkE with | true => none | false => takeF (r b) (Nat.add off (Nat.mul 0 1)) (Nat.mul (Nat.sub m 0) 1)) = some (ixN z m) := by
   rw [natFx (show Nat.sub cap 0 ≠ unkE by unfold unkE; simp; omega)]
   show takeF (r b) off (Nat.mul m 1) = _
   rw [Nat.mul_eq, Nat.mul_one]
   exact takeF_z m off hz
  have oc : ∀ {o : Option (List Value)} {c : List Value} (h : o = some c) (a : CR) (F : List Value → CR), (Option.casesOn o a F : CR) = F c := fun h a F => by rw [h]
  refine (oc hr' _ _).trans ?_
  have l1 : Nat.beq (ixN z m).length (Nat.mul (Nat.sub m 0) 1) = true := by
   rw [ix_len, show Nat.mul (Nat.sub m 0) 1 = m by show m * 1 = _; omega]
   exact Nat.beq_refl _
  simp only [l1, natFx (show Nat.sub m 0 ≠ 0 by show m ≠ 0; omega), cond_true, cond_false]
  unfold finM rowOf rowsOf row1
  have hb : Nat.beq (Nat.sub m 0) 0 = false := natFx (by show m ≠ 0; omega)
  simp only [hb, Bool.and_false]
  have hg : gnds (ixN z m) = true := ix_gnd _ _
  show guardK (gnds (ixN z m)) _ = _
  rw [hg]
  rfl⟩
theorem li_0 (hc : cap ≤ maxLen) : GrT Tryz.prog r 4 [RS b off 0 cap] nilV := GrT.of (SC_ok r) TOk.nil .nil rfl ⟨1, 2, by
 have hc : cap ≤ 9223372036854775807 := hc
 rw [liR]
 have e' : (bif decide ((18 : Int) < Int.ofNat 0) then Int.ofNat 18 else Int.ofNat 0) = ((0 : Nat) : Int) := by decide
 simp only [e', dT (show (0 : Int) ≤ ((0 : Nat) : Int) by omega), natFx (show cap ≠ 9223372036854775809 by omega), Int.toNat_natCast, Nat.ble_eq_true_of_le (Nat.zero_le cap), show Nat.beq 0 0 = true from rfl, cond_true, cond_false]
 rfl⟩
theorem tLi_ok (hl : n ≤ cap) (hc : cap ≤ maxLen) (hm : m = min n 18) (h1 : 1 ≤ m) (hz : rowAt r b off m z) : TOk (SC r) (tLi (RS b off n cap) m (ixN z m)) := TOk.nil.cons (show EOk (SC r) 4 (eRow [RS b off n cap] m (ixN z m)) from fun args A hgd F hF k γ W args' hw hR ha => by
 refine ⟨fun hcc => ?_, fun h => nomatch h⟩
 have hs := @of_decide_eq_true _ (Classical.propDecidable _) hgd
 subst hs
 have hof : ofV 0 (gw 0 m) = true := by simp [ofV, of1]
 exact (li_row hl hc hm h1 hz).ends (γ := γ) (A := A) hof (ix_gnd _ _) hF hw (hR.noG noG fun _ => rfl) (ha.of_ros rfl) ha)
end

end Go.Proofs

/- No violation, by the numbers of the statements. Mathematics. -/
namespace Go.Num
set_option linter.unusedVariables false
set_option linter.unusedSimpArgs false

theorem suN_take (e : List Int) : ∀ k, k ≤ e.length → suN (fun j => e.getD j 0) k = (e.take k).sum
 | 0, _ => rfl
 | k + 1, h => by
  have hk : k < e.length := by omega
  have eg : e.getD k 0 = e[k] := by rw [List.getD_eq_getElem?_getD, List.getElem?_eq_getElem hk]; rfl
  rw [suN, suN_take e k (by omega), eg, List.take_succ_eq_append_getElem hk, List.sum_append]
  simp
theorem suN_list (z : Nat → Int) : ∀ n, suN z n = ((List.range n).map z).sum
 | 0 => rfl
 | n + 1 => by
  rw [suN, suN_list z n, List.range_succ, List.map_append, List.sum_append]
  simp
theorem suN_bf (z : Nat → Int) (n k : Nat) : ∀ j, k + j ≤ n → suN (bfN z n k) (j + 1) = k * ((k : Int) - 1) + gS (fun v => min v k) (((fL z n).drop k).take j)
 | 0, _ => by simp [suN, bfN, gS]
 | j + 1, h => by
  have hl := fL_len z n
  have hk : j < ((fL z n).drop k).length := by rw [List.length_drop]; omega
  have eg : dN z n (k + j) = ((fL z n).drop k)[j] := by
   unfold dN
   rw [List.getElem_drop, List.getD_eq_getElem?_getD, List.getElem?_eq_getElem (by omega)]; rfl
  have ih := suN_bf z n k j (by omega)
  have hs : suN (bfN z n k) (j + 1 + 1) = suN (bfN z n k) (j + 1) + bfN z n k (j + 1) := rfl
  have hb : bfN z n k (j + 1) = min (dN z n (k + j)) (k : Nat) := rfl
  rw [hs, ih, hb, eg, List.take_succ_eq_append_getElem hk, gS_app]
  simp only [gS]
  omega
theorem fl_last {z : Nat → Int} {n : Nat} (h1 : 1 ≤ n) : (0 ≤ dN z n (n - 1)) ↔ ∀ v ∈ fL z n, 0 ≤ v := by
 have hl := fL_len z n
 have hs := fL_srt z n
 have hg : dN z n (n - 1) = (fL z n)[n - 1]'(by omega) := by
  unfold dN
  rw [List.getD_eq_getElem?_getD, List.getElem?_eq_getElem (by omega)]; rfl
 rw [hg]
 constructor
 ·intro h v hv
  obtain ⟨i, hi, rfl⟩ := List.mem_iff_getElem.1 hv
  by_cases c : i = n - 1
  ·subst c; exact h
  ·have := List.pairwise_iff_getElem.1 hs i (n - 1) hi (by omega) (by omega)
   omega
 ·intro h
  exact h _ (List.getElem_mem _)
theorem real_iff {z : Nat → Int} {n : Nat} (h1 : 1 ≤ n) : (rlN n (ndL z n)).isSome = true ↔ ∀ k : Nat, k ≤ n → viB z n (k : Nat) = false := by
 have hl := fL_len z n
 have hp := fL_perm z n
 have hsum : suN z n = (fL z n).sum := by rw [suN_list, sum_perm hp]
 rw [rl_eg n (ndL z n) (by rw [ndL_len]; exact Nat.le_refl _), ndL_fst]
 have e1 : (egL ((List.range n).map z) ∧ ((List.range n).map z).sum % 2 = 0) ↔ (egL (fL z n) ∧ (fL z n).sum % 2 = 0) := by
  rw [sum_perm hp]
  exact ⟨fun h => ⟨h.1.perm hp.symm, h.2⟩, fun h => ⟨h.1.perm hp, h.2⟩⟩
 rw [e1, ← nv_eg (fL_srt z n)]
 have ks : ∀ k : Nat, 1 ≤ k → k ≤ n → (viB z n (k : Nat) = false ↔ ((fL z n).take k).sum ≤ k * ((k : Int) - 1) + gS (fun v => min v k) ((fL z n).drop k)) := fun k k1 kn => by
  have b := suN_bf z n k (n - k) (by omega)
  rw [List.take_of_length_le (by rw [List.length_drop]; omega)] at b
  have t := suN_take (fL z n) k (by omega)
  have t' : suN (dN z n) k = ((fL z n).take k).sum := t
  unfold viB
  rw [if_neg (by omega), if_neg (by omega), Int.toNat_natCast, b, t', decide_eq_false_iff_not]
  omega
 constructor
 ·rintro ⟨n1, n2, n3⟩ k hk
  by_cases k0 : k = 0
  ·subst k0
   have hd := (fl_last h1).2 n2
   unfold viB
   rw [if_neg (by omega), if_pos (by rfl), hsum, n1, decide_eq_false (by omega)]
   rfl
  ·exact (ks k (by omega) hk).2 (n3 k (by omega) (by omega))
 ·intro h
  have h0 := h 0 (by omega)
  unfold viB at h0
  rw [if_neg (by omega), if_pos (by rfl), hsum, Bool.or_eq_false_iff, decide_eq_false_iff_not] at h0
  refine ⟨?_, (fl_last h1).1 (by omega), fun k k1 kn => (ks k k1 (by omega)).1 (h k (by omega))⟩
  have := h0.1
  have h2 : ¬ (fL z n).sum % 2 = 1 := by simpa using this
  omega

end Go.Num

/- The law of degrees holds, for all arguments. -/
namespace Go.Proofs
open Go Go.Ev Go.Num
set_option linter.unusedVariables false
set_option linter.unusedSimpArgs false
set_option maxRecDepth 100000

theorem wf64 {x : Int} (h : (Lit.int .i64 x).wf = true) : s64 x := by
 simp [Lit.wf, IntKind.max, IntKind.min, IntKind.signed, IntKind.bits] at h
 unfold s64
 omega
noncomputable def zM (r : Mem) (b off m : Nat) (j : Nat) : Int := if j < m then ofI ((r b (off + j)).getD undef) else 0
theorem rl_len : ∀ (f : Nat) (L : List Nd) (es : List (Int × Int)), rlN f L = some es → es.length ≤ f * L.length
 | 0, L, es, h => by simp only [rlN, Option.some.injEq] at h; subst h; simp
 | f + 1, L, es, h => by
  have hl := srtD_len L
  rw [rlN] at h
  cases hs : srtD L with
  | nil =>
   rw [hs] at h
   simp only [Option.some.injEq] at h
   subst h
   simp
  | cons p R =>
   obtain ⟨x, o⟩ := p
   rw [hs] at h hl
   simp only at h
   split at h
   ·cases h
   ·split at h
    ·cases h
    ·rename_i es1 h1
     have ih := rl_len f _ es1 h1
     rw [decD_len] at ih
     simp only [Option.some.injEq] at h
     subst h
     rw [List.length_append, List.length_map, List.length_take]
     have hl : R.length + 1 = L.length := hl
     have hm : f * R.length ≤ f * L.length := Nat.mul_le_mul (Nat.le_refl _) (by omega)
     rw [Nat.succ_mul]
     omega
section
variable {r : Mem} {b off n cap : Nat} {z : Nat → Int}
theorem zM_row {m : Nat} (h : ∀ i, i < m → ∃ u, r b (off + i) = some u ∧ ArgInt .i64 u) : rowAt r b off m (zM r b off m) := fun j hj => by
 obtain ⟨u, hu, w, rfl, _⟩ := h j hj
 unfold zM
 rw [if_pos hj, hu]
 rfl
theorem zM_64 {m : Nat} (h : ∀ i, i < m → ∃ u, r b (off + i) = some u ∧ ArgInt .i64 u) (j : Nat) (hj : j < m) : s64 (zM r b off m j) := by
 obtain ⟨u, hu, w, rfl, hw⟩ := h j hj
 unfold zM
 rw [if_pos hj, hu]
 exact wf64 hw
theorem re_long (hn : 16 < n) : GrT Tryz.prog r 5 [RS b off n cap] (.tuple ⟨[nilE, .bool false, I 2]⟩) :=
 GrT.of (SC_ok r) (TOk.nil.cons (EOk.ent fun args A hg => by cases hg)) .nil rfl ⟨1, 2, (reP r false b off n cap true fin).trans (by rw [dT (show Int.ofNat n > 16 by simp; omega)]; rfl)⟩
theorem vio_long (hn : 16 < n) : GrT Tryz.prog r 6 [RS b off n cap] (.tuple ⟨[I 0, .bool false, I 2]⟩) :=
 GrT.of (SC_ok r) (TOk.nil.cons (EOk.ent fun args A hg => by cases hg)) .nil rfl ⟨1, 2, (vioP r false b off n cap 0 true fin).trans (by rw [dT (show Int.ofNat n > 16 by simp; omega)]; rfl)⟩
theorem ne0 (h1 : 1 ≤ n) : (Int.ofNat n == Int.ofNat 0) = false := eqF (by simp; omega)
theorem vio_ok (hz : rowAt r b off n z) (h64 : ∀ j, j < n → s64 (z j)) (h1 : 1 ≤ n) (hn : n ≤ 16) (hcap : cap ≠ unkE) : GrT Tryz.prog r 6 [RS b off n cap] (.tuple ⟨[I (lvF (fun k => viB z n (k : Nat)) (n + 1) 0).1, .bool (lvF (fun k => viB z n (k : Nat)) (n + 1) 0).2, I 0]⟩) := by
 have hL := lv_ok hz h64 h1 hn hcap
 generalize lvF (fun k => viB z n (k : Nat)) (n + 1) 0 = L at hL
 refine GrT.of (SC_ok r) (t := tVio true (RS b off n cap) L.1 L.2) (TOk.nil.cons (EOk.ent fun args A hg => ?_)) .nil rfl ⟨1, 2, (vioP r true b off n cap L.1 L.2 fin).trans ?_⟩
 ·have hs := @of_decide_eq_true _ (Classical.propDecidable _) hg
  subst hs
  exact hL.ro rfl A
 ·rw [dF (show ¬ Int.ofNat n > 16 by simp; omega), ne0 h1, svv_rfl]
  cases L.2 <;> rfl
theorem re_P (hz : rowAt r b off n z) (h1 : 1 ≤ n) (hn : n ≤ 16) (hT : rlN n (ndL z n) = none ∨ rlN n (ndL z n) = some []) : GrT Tryz.prog r 5 [RS b off n cap] (.tuple ⟨[nilE, .bool (rlN n (ndL z n)).isSome, I 0]⟩) := by
 have hS : GrT Tryz.prog r 13 [RS b off n cap] (.tuple ⟨[nilE, .bool (rlN n (ndL z n)).isSome]⟩) := GrT.ofS (C := SC r) rfl rfl rfl (SOk.mono (rz_S hz h1 hn) fun v A ⟨vs, os, hq, hA, hv⟩ => by
  rcases hT with h | h
  ·rw [h] at hq
   obtain ⟨rfl, rfl⟩ := hq
   rw [h, hv]; rfl
  ·rw [h] at hq
   rcases hq with ⟨_, rfl, rfl⟩ | ⟨h, _⟩
   ·rw [h, hv]; rfl
   ·exact absurd rfl h)
 generalize (rlN n (ndL z n)).isSome = ok at hS
 refine GrT.of (SC_ok r) (t := tReP true (RS b off n cap) ok) (TOk.nil.cons (EOk.ent fun args A hg => ?_)) .nil rfl ⟨1, 2, (reP r true b off n cap ok fin).trans ?_⟩
 ·have hs := @of_decide_eq_true _ (Classical.propDecidable _) hg
  subst hs
  exact hS.ro rfl A
 ·rw [dF (show ¬ Int.ofNat n > 16 by simp; omega), ne0 h1, svv_rfl]
  cases ok <;> rfl
theorem re_R (hz : rowAt r b off n z) (h1 : 1 ≤ n) (hn : n ≤ 16) {E : List (Int × Int)} (hT : rlN n (ndL z n) = some E) (hE : E ≠ []) : GrM Tryz.prog r 5 [RS b off n cap] (.tuple ⟨[gw 0 E.length, .bool true, I 0]⟩) (rowA ((srtE E).flatMap encP) 57 2) := by
 have hl : 1 ≤ E.length := by
  cases E with
  | nil => exact absurd rfl hE
  | cons _ _ => simp
 have hS : GrM Tryz.prog r 13 [RS b off n cap] (.tuple ⟨[gw 0 E.length, .bool true]⟩) (rowA ((srtE E).flatMap encP) 57 2) := GrM.ofS (C := SC r) rfl rfl (SOk.mono (rz_S hz h1 hn) fun v A ⟨vs, os, hq, hA, hv⟩ => by
  rw [hT] at hq
  rcases hq with ⟨h, _⟩ | ⟨_, rfl, rfl⟩
  ·exact absurd h hE
  ·exact ⟨hv, hA⟩)
 have he : EOk (SC r) 13 (eRzR true [RS b off n cap] E.length ((srtE E).flatMap encP)) := fun args A hgd F hF k γ W args' hw hR ha => by
  refine ⟨fun hcc => ?_, fun h => nomatch h⟩
  have hs := @of_decide_eq_true _ (Classical.propDecidable _) hgd
  subst hs
  have hof : ofV 0 (.tuple ⟨[gw 0 E.length, .bool true]⟩) = true := by simp [ofV, of1, gnd]
  exact hS.ends (γ := γ) (A := A) hof (flat_g _) hF hw (hR.noG noG fun _ => rfl) (ha.of_ros rfl) ha
 refine GrM.of (SC_ok r) (TOk.nil.cons he) .nil ⟨1, 2, (reR r true b off n cap E.length ((srtE E).flatMap encP) finM).trans ?_⟩
 rw [dF (show ¬ Int.ofNat n > 16 by simp; omega), ne0 h1, svv_rfl]
 simp only [cond_true, cond_false]
 unfold finM rowOf rowsOf row1
 have hb : Nat.beq E.length 0 = false := natFx (by omega)
 have hg := flat_g (srtE E)
 simp only [hb, Bool.and_false]
 show guardK (gnds ((srtE E).flatMap encP)) _ = _
 rw [hg]
 rfl
end

section
variable {r : Mem} {m q : Nat} {z zp : Nat → Int} {k : Int}
theorem eXv_ok {f : Nat} {v : Value} (hg : gnd v = true) (h : ∀ (r : Mem) (b off : Nat), rowAt r b off m z → GrT Tryz.prog r f [RS b off m 0] v) : EOk (SC r) f (eXv m (ixN z m) v) := EOk.ent fun args A hgd => POk.of hg fun γ W args' hw hR ha => by
 obtain ⟨b, j, p1, p2⟩ := gOne_all unk_ne hgd hw hR ha
 exact ⟨memW W, _, memW_ro W, p1, h _ b j p2⟩
theorem eXk1_ok (h64 : ∀ j, j < m → s64 (z j)) {v : Bool} (hv : viR z m k = v) : EOk (SC r) 9 (eXk m (ixN z m) k v) := EOk.ent fun args A hg => POk.of rfl fun γ W args' hw hR ha => by
 split at hg
 ·obtain ⟨b, j, p1, p2⟩ := two_k hg hw hR ha
  have h := iv_ok (cap := 0) p2 h64 (by decide) k
  rw [hv] at h
  exact ⟨memW W, _, memW_ro W, p1, h⟩
 ·cases hg
theorem eXPo_ok {f : Nat} {v : Bool} (h : ∀ (r : Mem) (b off : Nat) (P : Value), rowAt r b off m z → PrR r q zp P → GrT Tryz.prog r f [RS b off m 0, P] (.bool v)) : EOk (SC r) f (eXPo m (ixN z m) q (ixN zp (2 * q)) v) := EOk.ent fun args A hg => POk.of rfl fun γ W args' hw hR ha => by
 split at hg
 ·obtain ⟨b, j, P, p1, p2, p3⟩ := two_o hg hw hR ha
  exact ⟨memW W, _, memW_ro W, p1, h _ b j P p2 p3⟩
 ·cases hg
theorem eXPn_ok {f : Nat} {v : Bool} (h : ∀ (r : Mem) (b off : Nat) (P : Value), rowAt r b off m z → PrR r 0 zp P → GrT Tryz.prog r f [RS b off m 0, P] (.bool v)) : EOk (SC r) f (eXPn m (ixN z m) v) := EOk.ent fun args A hg => POk.of rfl fun γ W args' hw hR ha => by
 split at hg
 ·obtain ⟨b, j, P, p1, p2, p3⟩ := two_n (zp := zp) hg hw hR ha
  exact ⟨memW W, _, memW_ro W, p1, h _ b j P p2 p3⟩
 ·cases hg
theorem eXr_ok {E : List (Int × Int)} (h1 : 1 ≤ m) (hm : m ≤ 16) (hT : rlN m (ndL z m) = some E) (hE : E ≠ []) : EOk (SC r) 5 (eXr m (ixN z m) E.length ((srtE E).flatMap encP)) := fun args A hgd F hF k γ W args' hw hR ha => by
 refine ⟨fun hcc => ?_, fun h => nomatch h⟩
 obtain ⟨b, j, p1, p2⟩ := gOne_all unk_ne hgd hw hR ha
 have hof : ofV 0 (.tuple ⟨[gw 0 E.length, .bool true, I 0]⟩) = true := by simp [ofV, of1, gnd]
 exact (re_R (cap := 0) p2 h1 hm hT hE).ends (γ := γ) (A := A) hof (flat_g _) hF hw (memW_ro W) p1 ha
theorem tAw_ok (hm : ∀ b j u, tabM b j = some u → r b j = some u) : TOk (SC r) tAw := TOk.nil.cons (e0_ok (awake_ok.less hm))
variable {b off n cap : Nat}
theorem tLa_ok (hM : ∀ b j u, tabM b j = some u → r b j = some u) (hl : n ≤ cap) (hc : cap ≤ maxLen) (hm : m = min n 18) (h1 : 1 ≤ m) (hz : rowAt r b off m z) : TOk (SC r) (tLa (RS b off n cap) m (ixN z m)) := (tAw_ok hM).cons (show EOk (SC r) 4 (eRow [RS b off n cap] m (ixN z m)) from fun args A hgd F hF k γ W args' hw hR ha => by
 refine ⟨fun hcc => ?_, fun h => nomatch h⟩
 have hs := @of_decide_eq_true _ (Classical.propDecidable _) hgd
 subst hs
 have hof : ofV 0 (gw 0 m) = true := by simp [ofV, of1]
 exact (li_row hl hc hm h1 hz).ends (γ := γ) (A := A) hof (ix_gnd _ _) hF hw (hR.noG noG fun _ => rfl) (ha.of_ros rfl) ha)
theorem viR_B (h1 : 1 ≤ m) (hm : m ≤ 16) (k : Int) : viR z m k = viB z m k := by
 unfold viR
 rw [decide_eq_true ⟨h1, hm⟩, Bool.true_and]
theorem law_row (hM : ∀ b j u, tabM b j = some u → r b j = some u) (hl : n ≤ cap) (hc : cap ≤ maxLen) (hm : m = min n 18) (h1 : 1 ≤ m) (hz : rowAt r b off m z) (h64 : ∀ j, j < m → s64 (z j)) : GrT Tryz.prog r 3 [RS b off n cap] (.bool true) := by
 have hA := tLa_ok hM hl hc hm h1 hz
 have m0 : (Int.ofNat m == Int.ofNat 0) = false := ne0 h1
 by_cases hlong : 16 < m
 ·refine GrT.of (SC_ok r) (t := tDl (RS b off n cap) m (ixN z m)) ((hA.cons (eXv_ok rfl fun r b off hz => vio_long hlong)).cons (eXv_ok rfl fun r b off hz => re_long hlong)) .nil rfl ⟨1, 1, (lwDl r b off n cap m (ixN z m)).trans ?_⟩
  simp only [svv_rfl, cond_true, dT (show Int.ofNat m > 16 by simp; omega)]
  rfl
 have hm16 : m ≤ 16 := by omega
 have hRe : (fun k : Nat => viR z m (k : Int)) = fun k : Nat => viB z m (k : Int) := funext fun k => viR_B h1 hm16 k
 have hV : EOk (SC r) 6 (eXv m (ixN z m) (.tuple ⟨[I (lvF (fun k => viB z m (k : Nat)) (m + 1) 0).1, .bool (lvF (fun k => viB z m (k : Nat)) (m + 1) 0).2, I 0]⟩)) := eXv_ok rfl fun r b off hz => vio_ok (cap := 0) hz h64 h1 hm16 (by decide)
 have hR : EOk (SC r) 8 (eXv m (ixN z m) (.tuple ⟨[I (lvF (fun k => viB z m (k : Nat)) (m + 1) 0).1, .bool (lvF (fun k => viB z m (k : Nat)) (m + 1) 0).2]⟩)) := eXv_ok rfl fun r b off hz => by
  have h := rn_ok (cap := 0) hz h64 (show m ≤ 1000 by omega)
  rw [hRe] at h
  exact h
 have d16 : decide (Int.ofNat m > 16) = false := dF (by simp; omega)
 have hiff := real_iff (z := z) h1
 cases hT : rlN m (ndL z m) with
 | none =>
  have hno : ¬ ∀ k : Nat, k ≤ m → viB z m (k : Nat) = false := fun h => by
   have := hiff.2 h
   rw [hT] at this; cases this
  have hL2 : (lvF (fun k => viB z m (k : Nat)) (m + 1) 0).2 = true := by
   cases hb : (lvF (fun k => viB z m (k : Nat)) (m + 1) 0).2 with
   | true => rfl
   | false => exact absurd (fun k hk => (lvF_no (m + 1) 0).1 hb k (by omega) (by omega)) hno
  obtain ⟨i, i1, i2, i3, i4⟩ := lvF_at (m + 1) 0 hL2
  rw [hL2, i3] at hV hR
  have hI : EOk (SC r) 9 (eXk m (ixN z m) (i : Int) true) := eXk1_ok h64 (by rw [viR_B h1 hm16]; exact i4)
  refine GrT.of (SC_ok r) (t := tDv (RS b off n cap) m (ixN z m) (i : Int)) ((((hA.cons hI).cons hR).cons hV).cons (eXv_ok rfl fun r b off hz => ?_)) .nil rfl ⟨1, 1, (lwDv r b off n cap m (ixN z m) (i : Int)).trans ?_⟩
  ·have h := re_P (cap := 0) hz h1 hm16 (.inl hT)
   rw [hT] at h
   exact h
  ·have kk : (((i : Int)) != (i : Int)) = false := by simp
   simp only [svv_rfl, cond_true, cond_false, d16, m0, kk]
   rfl
 | some E =>
  have hyes := hiff.1 (by rw [hT]; rfl)
  have hL2 : (lvF (fun k => viB z m (k : Nat)) (m + 1) 0).2 = false := (lvF_no (m + 1) 0).2 fun i h1 h2 => hyes i (by omega)
  rw [hL2, lvF_zero (m + 1) 0 hL2] at hV hR
  have hok := real_ok (x := z) (n := m) hT
  by_cases hE : E = []
  ·subst hE
   have hir : irR z (zP []) m 0 = true := by
    unfold irR
    rw [decide_eq_true ⟨h1, hm16⟩, Bool.true_and]
    exact hok
   have e1 : EOk (SC r) 10 (eXPn m (ixN z m) true) := eXPn_ok fun r b off P hz hP => by
    have h := rr_ok (cap := 0) hz hP (by omega)
    rw [hir] at h; exact h
   have e2 : EOk (SC r) 11 (eXPn m (ixN z m) true) := eXPn_ok fun r b off P hz hP => by
    have h := ir_ok (cap := 0) hz hP (by omega)
    rw [hir] at h; exact h
   refine GrT.of (SC_ok r) (t := tDn (RS b off n cap) m (ixN z m)) (((((hA.cons e1).cons e2).cons hR).cons hV).cons (eXv_ok rfl fun r b off hz => ?_)) .nil rfl ⟨1, 1, (lwDn r b off n cap m (ixN z m)).trans ?_⟩
   ·have h := re_P (cap := 0) hz h1 hm16 (.inr hT)
    rw [hT] at h
    exact h
   ·simp only [svv_rfl, cond_true, cond_false, d16, m0]
    rfl
  ·have hlen : (srtE E).length = E.length := srtE_len E
   have hq : E.length ≤ 500000 := by
    have h1 := rl_len m (ndL z m) E hT
    rw [ndL_len] at h1
    have h2 : m * m ≤ 16 * 16 := Nat.mul_le_mul hm16 hm16
    omega
   have hir : irR z (zP (srtE E)) m E.length = true := by
    unfold irR
    rw [decide_eq_true ⟨h1, hm16⟩, Bool.true_and]
    exact hok
   have hc2 : (srtE E).flatMap encP = ixN (zP (srtE E)) (2 * E.length) := by rw [← zP_flat, hlen]
   have e1 : EOk (SC r) 10 (eXPo m (ixN z m) E.length ((srtE E).flatMap encP) true) := by
    rw [hc2]
    exact eXPo_ok fun r b off P hz hP => by
     have h := rr_ok (cap := 0) hz hP hq
     rw [hir] at h; exact h
   have e2 : EOk (SC r) 11 (eXPo m (ixN z m) E.length ((srtE E).flatMap encP) true) := by
    rw [hc2]
    exact eXPo_ok fun r b off P hz hP => by
     have h := ir_ok (cap := 0) hz hP hq
     rw [hir] at h; exact h
   refine GrT.of (SC_ok r) (t := tDr (RS b off n cap) m (ixN z m) E.length ((srtE E).flatMap encP)) (((((hA.cons e1).cons e2).cons hR).cons hV).cons (eXr_ok h1 hm16 hT hE)) .nil rfl ⟨1, 1, (lwDr r b off n cap m (ixN z m) E.length ((srtE E).flatMap encP)).trans ?_⟩
   simp only [svv_rfl, cond_true, cond_false, d16, m0]
   rfl
end

theorem tLx_ok {r : Mem} {b off cap : Nat} (hm : ∀ b j u, tabM b j = some u → r b j = some u) (hc : cap ≤ maxLen) : TOk (SC r) (tLx (RS b off 0 cap)) := (tAw_ok hm).cons (EOk.ent fun args A hg => by
 have hs := @of_decide_eq_true _ (Classical.propDecidable _) hg
 subst hs
 exact (li_0 (r := r) (b := b) (off := off) hc).ro rfl A)
theorem law_nil (r : Mem) (hm : ∀ b j u, tabM b j = some u → r b j = some u) : GrT Tryz.prog r 3 [nilV] (.bool true) := GrT.of (SC_ok r) (tAw_ok hm) .nil rfl ⟨3, 4, lwX1 r⟩
theorem law_0 (r : Mem) (hm : ∀ b j u, tabM b j = some u → r b j = some u) (b off cap : Nat) (hc : cap ≤ maxLen) : GrT Tryz.prog r 3 [RS b off 0 cap] (.bool true) := GrT.of (SC_ok r) (tLx_ok hm hc) .nil rfl ⟨3, 4, by rw [lwX3, svv_rfl]; rfl⟩
theorem law_degrees (r : Mem) (hm : ∀ b j u, tabM b j = some u → r b j = some u) (u0 : Value) (s0 : ArgRowT r 1 (ArgInt .i64) u0) : GrT Tryz.prog r 3 [u0] (.bool true) := by
 cases s0 with
 | nil => exact law_nil r hm
 | row b off n cap hl hc h =>
  by_cases n0 : n = 0
  ·subst n0
   exact law_0 r hm b off cap hc
  ·have hg : ∀ i, i < min n 18 → ∃ u, r b (off + i) = some u ∧ ArgInt .i64 u := fun i hi => h i (by omega)
   exact law_row hm hl hc rfl (by omega) (zM_row hg) (zM_64 hg)

end Go.Proofs

