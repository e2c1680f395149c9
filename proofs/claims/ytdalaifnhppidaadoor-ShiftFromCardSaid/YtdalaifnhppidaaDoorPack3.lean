/- What the claim is proved with, part 3: the evaluator and the contracts of the calls. -/
import Derived.Test.YtdalaifnhppidaaDoorPack2
import Derived.Test.YtdalaifnhppidaaDoorPack1
/- Chapter 10: the example calls, run. -/
namespace Go.Proofs
open Go Go.Ev
set_option linter.unusedVariables false
set_option linter.unusedSimpArgs false
set_option maxRecDepth 100000

theorem awake10 : GrT Tryd.prog tabM 9 [] (.bool true) := GrT.of (CC_ok tabM) (tSF_ok tabM) mskH rfl ⟨1000, 40, by kernel_rfl⟩

end Go.Proofs

/- shift.Boats and the law's intervals: what the calls answer. -/
namespace Go.Proofs
open Go Go.Ev Go.Num
set_option linter.unusedVariables false
set_option linter.unusedSimpArgs false
set_option maxRecDepth 100000

theorem gOwn_use {r : Mem} {n cap : Nat} {z : Nat → Int} {args : List Value} {A : AW} (hcap : Nat.beq cap unkE = false) (hg : gOwn (.slice (some ⟨0, 0, none⟩) n cap) (ixN z (2 * n)) args A = true) {γ : Gam} {W : World} (hw : WRel γ A W) (hR : Ro r γ W) {args' : Array Value} (ha : VsRel γ args args'.toList) :
  ∃ b k, VsRel noG [RS2 b k n 0] args'.toList ∧ rowAt (memW W) b k (2 * n) z := by
 unfold gOwn at hg
 split at hg
 ·rename_i i k l' cap'
  split at hg
  ·rename_i c' e f z' hget
   have hs := @of_decide_eq_true _ (Classical.propDecidable _) hg
   simp only [List.cons.injEq, Value.slice.injEq, Option.some.injEq, Addr.mk.injEq, Value.agg.injEq, Array.mk.injEq, and_true, true_and] at hs
   obtain ⟨⟨rfl, rfl, rfl⟩, rfl⟩ := hs
   obtain ⟨la⟩ := args'
   cases ha with
   | cons hv hrest =>
   cases hrest
   obtain ⟨b, k, p1, p2⟩ := own_row hw hR hcap hget hv
   exact ⟨b, k, .cons p1 .nil, fun j hj => p2 j _ (ix_get hj) rfl⟩
  ·cases hg
 ·cases hg

section
variable {r : Mem} {b off n cap : Nat} {z : Nat → Int}

theorem eBt_ok (h1 : 1 ≤ n) (hn : n ≤ 1000) : EOk (SC r) 22 (eBt n (ixN z (2 * n)) (bts (pkSk z n n) n)) := fun args A hgd F hF k γ W args' hw hR ha => by
 refine ⟨fun hcc => ?_, fun h => nomatch h⟩
 obtain ⟨b, k', p1, p2⟩ := gOwn_use (natFx (by unfold unkE; omega)) hgd hw hR ha
 have hg : GrM Tryd.prog (memW W) 22 [RS2 b k' n 0] (ow 0 n) (rowA (bts (pkSk z n n) n) 3 1) := GrM.ofS (C := SC (memW W)) rfl rfl (bt_S p2 h1 hn)
 have hof : ofV 0 (ow 0 n) = true := by simp [ofV, of1]
 exact hg.ends (γ := γ) (A := A) hof (ix_gnd _ _) hF hw (memW_ro W) p1 ha
theorem ePk_ok (hn : n ≤ 1000) : EOk (SC r) 23 (ePk n (ixN z (2 * n)) (pkB (ea z) (eb z) n n).1) := EOk.ent fun args A hgd => POk.of rfl fun γ W args' hw hR ha => by
 obtain ⟨b, k', p1, p2⟩ := gOwn_use (natFx (by unfold unkE; omega)) hgd hw hR ha
 exact ⟨memW W, _, memW_ro W, p1, pk_ok p2 (by omega)⟩
theorem eRi_ok (hz : rowAt r b off (2 * n) z) (h1 : 1 ≤ n) (hn : n ≤ 12) (hok : okS z n) : EOk (SC r) 19 (eRi (RS2 b off n cap) n (ixN z (2 * n))) := fun args A hgd F hF k γ W args' hw hR ha => by
 refine ⟨fun hcc => ?_, fun h => nomatch h⟩
 have hs := @of_decide_eq_true _ (Classical.propDecidable _) hgd
 subst hs
 have hg : GrM Tryd.prog r 19 [RS2 b off n cap] (.tuple ⟨[ow 0 n, I 0]⟩) (rowA (ixN z (2 * n)) 75 2) := GrM.ofS (C := SC r) rfl rfl (SOk.mono (ri_S hz) fun v A' h => by
  rcases h with ⟨_, _, _, h1, h2⟩ | ⟨h, _⟩
  ·exact ⟨h1, h2⟩
  ·exact absurd ⟨h1, hn, hok⟩ h)
 have hof : ofV 0 (.tuple ⟨[ow 0 n, I 0]⟩) = true := by simp [ofV, of1, gnd]
 exact hg.ends (γ := γ) (A := A) hof (ix_gnd _ _) hF hw (hR.noG noG fun _ => rfl) (ha.of_ros rfl) ha

theorem bo_ok (hz : rowAt r b off (2 * n) z) (h1 : 1 ≤ n) (hn : n ≤ 12) (hok : okS z n) : GrM Tryd.prog r 7 [RS2 b off n cap] (.tuple ⟨[ow 0 n, I (pkB (ea z) (eb z) n n).1, I 0]⟩) (rowA (bts (pkSk z n n) n) 3 1) :=
 GrM.of (SC_ok r) (t := tBo (RS2 b off n cap) n (ixN z (2 * n)) (bts (pkSk z n n) n) (pkB (ea z) (eb z) n n).1) (((TOk.nil.cons (ePk_ok (by omega))).cons (eBt_ok h1 (by omega))).cons (eRi_ok hz h1 hn hok)) .nil ⟨1, 2, by
  rw [boA]
  simp only [sv_rfl, cond_true]
  unfold finM rowOf rowsOf row1
  have hb : Nat.beq n 0 = false := natFx (by omega)
  have hg : gnds (bts (pkSk z n n) n) = true := ix_gnd _ _
  simp only [hb, Bool.and_false]
  show guardK (gnds (bts (pkSk z n n) n)) _ = _
  rw [hg]
  rfl⟩
theorem bo_err (hz : rowAt r b off (2 * n) z) (hno : ¬ (1 ≤ n ∧ n ≤ 12 ∧ okS z n)) : GrT Tryd.prog r 7 [RS2 b off n cap] (.tuple ⟨[.slice none 0 0, I 0, I (erS n)]⟩) := by
 have hr : GrT Tryd.prog r 19 [RS2 b off n cap] (.tuple ⟨[.slice none 0 0, I (erS n)]⟩) := GrT.ofS (C := SC r) rfl rfl rfl (SOk.mono (ri_S hz) fun v A' h => by
  rcases h with ⟨h1, h2, h3, _⟩ | ⟨_, h, _⟩
  ·exact absurd ⟨h1, h2, h3⟩ hno
  ·exact h)
 refine GrT.of (SC_ok r) (t := tBe (RS2 b off n cap) (erS n)) (TOk.nil.cons (EOk.ent fun args A hg => ?_)) .nil rfl ⟨1, 2, ?_⟩
 ·have hs := @of_decide_eq_true _ (Classical.propDecidable _) hg
  subst hs
  exact hr.ro rfl A
 ·rw [boE]
  have : (erS n != Int.ofNat 0) = true := neT (by unfold erS; split <;> decide)
  simp only [sv_rfl, this, cond_true]
  rfl
end

section
variable {r : Mem} {b off n cap m : Nat} {z : Nat → Int}
theorem takeF_ix {f : Nat → Option Value} {z : Nat → Int} : ∀ (n j k : Nat), (∀ i, i < n → f (k + i) = some (I (z (j + i)))) → takeF f k n = some ((List.range' j n).map fun i => I (z i))
 | 0, j, k, _ => rfl
 | n + 1, j, k, h => by
  have h0 := h 0 (by omega)
  have ih := takeF_ix (f := f) (z := z) n (j + 1) (k + 1) fun i hi => by
   have := h (i + 1) (by omega)
   rw [show k + 1 + i = k + (i + 1) by omega, this, show j + 1 + i = j + (i + 1) by omega]
  rw [takeF, show f k = some (I (z j)) from h0, ih]
  rfl
theorem min_13 (n : Nat) : (bif decide ((13 : Int) < Int.ofNat n) then Int.ofNat 13 else Int.ofNat n) = ((min n 13 : Nat) : Int) := by
 by_cases c : (13 : Int) < Int.ofNat n
 ·rw [dT c, cond_true, Nat.min_eq_right (by simp at c; omega)]; rfl
 ·rw [dF c, cond_false, Nat.min_eq_left (by simp at c; omega)]; rfl
theorem sp_row (hl : n ≤ cap) (hc : cap ≤ maxLen) (hm : m = min n 13) (h1 : 1 ≤ m) (hz : rowAt r b off (2 * m) z) : GrM Tryd.prog r 5 [RS2 b off n cap] (gw 0 m) (rowA (ixN z (2 * m)) 61 2) :=
 GrM.of (SC_ok r) TOk.nil .nil ⟨1, 2, by
  have hc : cap ≤ 9223372036854775807 := hc
  rw [spR]
  have e' : (bif decide ((13 : Int) < Int.ofNat n) then (13 : Int) else Int.ofNat n) = ((m : Nat) : Int) := by rw [hm]; exact min_13 n
  rw [min_13, ← hm]
  simp only [e', dT (show (0 : Int) ≤ ((m : Nat) : Int) by omega), natFx (show cap ≠ 9223372036854775809 by omega), Int.toNat_natCast, Nat.ble_eq_true_of_le (show m ≤ cap by omega), natFx (show m ≠ 0 by omega), Nat.ble_eq_true_of_le (show Nat.add 0 (Nat.sub m 0) ≤ 1000000 by simp; omega), cond_true, cond_false]
  have hr : takeF (r b) off (2 * m) = some (ixN z (2 * m)) := by
   rw [takeF_ix (z := z) (2 * m) 0 off fun i hi => by rw [Nat.zero_add]; exact hz i hi]
   unfold ixN
   rw [List.range_eq_range']
  have hr' : (match Nat.beq (Nat.sub cap 0) unkE with | true => none | false => takeF (r b) (Nat.add off (Nat.mul 0 2)) (Nat.mul (Nat.sub m 0) 2)) = some (ixN z (2 * m)) := by
   rw [natFx (show Nat.sub cap 0 ≠ unkE by unfold unkE; simp; omega)]
   show takeF (r b) off (Nat.mul m 2) = _
   rw [Nat.mul_eq, Nat.mul_comm]
   exact hr
  have oc : ∀ {o : Option (List Value)} {c : List Value} (h : o = some c) (a : CR) (F : List Value → CR), (Option.casesOn o a F : CR) = F c := fun h a F => by rw [h]
  refine (oc hr' _ _).trans ?_
  have l1 : Nat.beq (ixN z (2 * m)).length (Nat.mul (Nat.sub m 0) 2) = true := by
   rw [ix_len, show Nat.mul (Nat.sub m 0) 2 = 2 * m by show m * 2 = _; omega]
   exact Nat.beq_refl _
  simp only [l1, natFx (show Nat.sub m 0 ≠ 0 by show m ≠ 0; omega), cond_true, cond_false]
  unfold finM rowOf rowsOf row1
  have hb : Nat.beq (Nat.sub m 0) 0 = false := natFx (by show m ≠ 0; omega)
  simp only [hb, Bool.and_false]
  have hg : gnds (ixN z (2 * m)) = true := ix_gnd _ _
  show guardK (gnds (ixN z (2 * m))) _ = _
  rw [hg]
  rfl⟩
theorem sp_0 (hc : cap ≤ maxLen) : GrT Tryd.prog r 5 [RS2 b off 0 cap] (.slice none 0 0) := GrT.of (SC_ok r) TOk.nil .nil rfl ⟨1, 2, by
 have hc : cap ≤ 9223372036854775807 := hc
 rw [spR, min_13]
 simp only [Nat.zero_min, dT (show (0 : Int) ≤ ((0 : Nat) : Int) by omega), natFx (show cap ≠ 9223372036854775809 by omega), Int.toNat_natCast, Nat.ble_eq_true_of_le (Nat.zero_le cap), show Nat.beq 0 0 = true from rfl, cond_true, cond_false]
 rfl⟩
end

end Go.Proofs

