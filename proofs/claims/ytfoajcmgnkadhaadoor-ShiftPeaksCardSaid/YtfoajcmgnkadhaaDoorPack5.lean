/- What the claim is proved with, part 5: the evaluator and the contracts of the calls. -/
import Derived.Test.YtfoajcmgnkadhaaDoorPack4
import Derived.Test.YtfoajcmgnkadhaaDoorPack1
import Derived.Test.YtfoajcmgnkadhaaDoorPack2
import Derived.Test.YtfoajcmgnkadhaaDoorPack3
/- Chapter 10: the example calls, run. -/
namespace Go.Proofs
open Go Go.Ev
set_option linter.unusedVariables false
set_option linter.unusedSimpArgs false
set_option maxRecDepth 100000

theorem awake10 : GrT Tryd.prog tabM 6 [] (.bool true) := GrT.of (CC_ok tabM) (tSF_ok tabM) mskH rfl ⟨1000, 40, by kernel_rfl⟩

end Go.Proofs

/- shift.Boats and the law's intervals: what the calls answer. -/
namespace Go.Proofs
open Go Go.Ev Go.Num
set_option linter.unusedVariables false
set_option linter.unusedSimpArgs false
set_option maxRecDepth 100000

theorem natFx {i j : Nat} (h : i ≠ j) : Nat.beq i j = false := by
 cases e : Nat.beq i j with
 | false => rfl
 | true => exact absurd (Nat.eq_of_beq_eq_true e) h
theorem own_row {r : Mem} {γ : Gam} {A : AW} {W : World} (hw : WRel γ A W) (hR : Ro r γ W) {i len cap : Nat} (hcap : Nat.beq cap unkE = false) {c : List Value} {e f z : Nat} (hget : A.heap.get i = some (.cells c e f z)) {v' : Value} (hv : VRel γ (.slice (some ⟨i, 0, none⟩) len cap) v') :
  ∃ b k', VRel noG (RS b k' len 0) v' ∧ ∀ j u, c[j]? = some u → gnd u = true → memW W b (k' + j) = some u := by
 obtain ⟨b, k', c', rfl, hrd⟩ := rd_world hw hR hv hcap
 refine ⟨b, k', .sliceRo _ _ _ _ _ _ (by decide) (Nat.zero_le _), fun j u hu hg => hrd j u ?_ hg⟩
 simp only [AW.rd, AW.cell, hget]
 rw [Nat.add_eq, Nat.zero_add]
 exact hu
theorem gOwn_use {r : Mem} {n cap : Nat} {z : Nat → Int} {args : List Value} {A : AW} (hcap : Nat.beq cap unkE = false) (hg : gOwn (.slice (some ⟨0, 0, none⟩) n cap) (ixN z (2 * n)) args A = true) {γ : Gam} {W : World} (hw : WRel γ A W) (hR : Ro r γ W) {args' : Array Value} (ha : VsRel γ args args'.toList) :
  ∃ b k, VsRel noG [RS2 b k n 0] args'.toList ∧ rowAt (memW W) b k (2 * n) z := by
 unfold gOwn at hg
 split at hg
 ·rename_i i k l' cap'
  split at hg
  ·rename_i c' e f z' hget
   have hs := @of_decide_eq_true _ (Classical.propDecidable _) hg
   simp only [List.cons.injEq, Value.slice.injEq, Option.some.injEq, Addr.mk.injEq, Value.agg.injEq, Array.mk.injEq, and_true, true_and] at hs
   obtain ⟨⟨rfl, rfl, rfl⟩, rfl⟩ := hs
   obtain ⟨la⟩ := args'
   cases ha with
   | cons hv hrest =>
   cases hrest
   obtain ⟨b, k, p1, p2⟩ := own_row hw hR hcap hget hv
   exact ⟨b, k, .cons p1 .nil, fun j hj => p2 j _ (ix_get hj) rfl⟩
  ·cases hg
 ·cases hg

section
variable {r : Mem} {b off n cap : Nat} {z : Nat → Int}

theorem eBt_ok (h1 : 1 ≤ n) (hn : n ≤ 1000) : EOk (SC r) 8 (eBt n (ixN z (2 * n)) (bts (pkSk z n n) n)) := fun args A hgd F hF k γ W args' hw hR ha => by
 refine ⟨fun hcc => ?_, fun h => nomatch h⟩
 obtain ⟨b, k', p1, p2⟩ := gOwn_use (natFx (by unfold unkE; omega)) hgd hw hR ha
 have hg : GrM Tryd.prog (memW W) 8 [RS2 b k' n 0] (ow 0 n) (rowA (bts (pkSk z n n) n) 3 1) := GrM.ofS (C := SC (memW W)) rfl rfl (bt_S p2 h1 hn)
 have hof : ofV 0 (ow 0 n) = true := by simp [ofV, of1]
 exact hg.ends (γ := γ) (A := A) hof (ix_gnd _ _) hF hw (memW_ro W) p1 ha
theorem ePk_ok (hn : n ≤ 1000) : EOk (SC r) 9 (ePk n (ixN z (2 * n)) (pkB (ea z) (eb z) n n).1) := EOk.ent fun args A hgd => POk.of rfl fun γ W args' hw hR ha => by
 obtain ⟨b, k', p1, p2⟩ := gOwn_use (natFx (by unfold unkE; omega)) hgd hw hR ha
 exact ⟨memW W, _, memW_ro W, p1, pk_ok p2 (by omega)⟩
theorem eRi_ok (hz : rowAt r b off (2 * n) z) (h1 : 1 ≤ n) (hn : n ≤ 12) (hok : okS z n) : EOk (SC r) 7 (eRi (RS2 b off n cap) n (ixN z (2 * n))) := fun args A hgd F hF k γ W args' hw hR ha => by
 refine ⟨fun hcc => ?_, fun h => nomatch h⟩
 have hs := @of_decide_eq_true _ (Classical.propDecidable _) hgd
 subst hs
 have hg : GrM Tryd.prog r 7 [RS2 b off n cap] (.tuple ⟨[ow 0 n, I 0]⟩) (rowA (ixN z (2 * n)) 52 2) := GrM.ofS (C := SC r) rfl rfl (SOk.mono (ri_S hz) fun v A' h => by
  rcases h with ⟨_, _, _, h1, h2⟩ | ⟨h, _⟩
  ·exact ⟨h1, h2⟩
  ·exact absurd ⟨h1, hn, hok⟩ h)
 have hof : ofV 0 (.tuple ⟨[ow 0 n, I 0]⟩) = true := by simp [ofV, of1, gnd]
 exact hg.ends (γ := γ) (A := A) hof (ix_gnd _ _) hF hw (hR.noG noG fun _ => rfl) (ha.of_ros rfl) ha

theorem bo_ok (hz : rowAt r b off (2 * n) z) (h1 : 1 ≤ n) (hn : n ≤ 12) (hok : okS z n) : GrM Tryd.prog r 5 [RS2 b off n cap] (.tuple ⟨[ow 0 n, I (pkB (ea z) (eb z) n n).1, I 0]⟩) (rowA (bts (pkSk z n n) n) 3 1) :=
 GrM.of (SC_ok r) (t := tBo (RS2 b off n cap) n (ixN z (2 * n)) (bts (pkSk z n n) n) (pkB (ea z) (eb z) n n).1) (((TOk.nil.cons (ePk_ok (by omega))).cons (eBt_ok h1 (by omega))).cons (eRi_ok hz h1 hn hok)) .nil ⟨1, 2, by
  rw [boA]
  simp only [sv_rfl, cond_true]
  unfold finM rowOf rowsOf row1
  have hb : Nat.beq n 0 = false := natFx (by omega)
  have hg : gnds (bts (pkSk z n n) n) = true := ix_gnd _ _
  simp only [hb, Bool.and_false]
  show guardK (gnds (bts (pkSk z n n) n)) _ = _
  rw [hg]
  rfl⟩
theorem bo_err (hz : rowAt r b off (2 * n) z) (hno : ¬ (1 ≤ n ∧ n ≤ 12 ∧ okS z n)) : GrT Tryd.prog r 5 [RS2 b off n cap] (.tuple ⟨[.slice none 0 0, I 0, I (erS n)]⟩) := by
 have hr : GrT Tryd.prog r 7 [RS2 b off n cap] (.tuple ⟨[.slice none 0 0, I (erS n)]⟩) := GrT.ofS (C := SC r) rfl rfl rfl (SOk.mono (ri_S hz) fun v A' h => by
  rcases h with ⟨h1, h2, h3, _⟩ | ⟨_, h, _⟩
  ·exact absurd ⟨h1, h2, h3⟩ hno
  ·exact h)
 refine GrT.of (SC_ok r) (t := tBe (RS2 b off n cap) (erS n)) (TOk.nil.cons (EOk.ent fun args A hg => ?_)) .nil rfl ⟨1, 2, ?_⟩
 ·have hs := @of_decide_eq_true _ (Classical.propDecidable _) hg
  subst hs
  exact hr.ro rfl A
 ·rw [boE]
  have : (erS n != Int.ofNat 0) = true := neT (by unfold erS; split <;> decide)
  simp only [sv_rfl, this, cond_true]
  rfl
end

section
variable {r : Mem} {b off n cap m : Nat} {z : Nat → Int}
theorem takeF_ix {f : Nat → Option Value} {z : Nat → Int} : ∀ (n j k : Nat), (∀ i, i < n → f (k + i) = some (I (z (j + i)))) → takeF f k n = some ((List.range' j n).map fun i => I (z i))
 | 0, j, k, _ => rfl
 | n + 1, j, k, h => by
  have h0 := h 0 (by omega)
  have ih := takeF_ix (f := f) (z := z) n (j + 1) (k + 1) fun i hi => by
   have := h (i + 1) (by omega)
   rw [show k + 1 + i = k + (i + 1) by omega, this, show j + 1 + i = j + (i + 1) by omega]
  rw [takeF, show f k = some (I (z j)) from h0, ih]
  rfl
theorem min_13 (n : Nat) : (bif decide ((13 : Int) < Int.ofNat n) then Int.ofNat 13 else Int.ofNat n) = ((min n 13 : Nat) : Int) := by
 by_cases c : (13 : Int) < Int.ofNat n
 ·rw [dT c, cond_true, Nat.min_eq_right (by simp at c; omega)]; rfl
 ·rw [dF c, cond_false, Nat.min_eq_left (by simp at c; omega)]; rfl
theorem sp_row (hl : n ≤ cap) (hc : cap ≤ maxLen) (hm : m = min n 13) (h1 : 1 ≤ m) (hz : rowAt r b off (2 * m) z) : GrM Tryd.prog r 4 [RS2 b off n cap] (gw 0 m) (rowA (ixN z (2 * m)) 29 2) :=
 GrM.of (SC_ok r) TOk.nil .nil ⟨1, 2, by
  have hc : cap ≤ 9223372036854775807 := hc
  rw [spR]
  have e' : (bif decide ((13 : Int) < Int.ofNat n) then (13 : Int) else Int.ofNat n) = ((m : Nat) : Int) := by rw [hm]; exact min_13 n
  rw [min_13, ← hm]
  simp only [e', dT (show (0 : Int) ≤ ((m : Nat) : Int) by omega), natFx (show cap ≠ 9223372036854775809 by omega), Int.toNat_natCast, Nat.ble_eq_true_of_le (show m ≤ cap by omega), natFx (show m ≠ 0 by omega), Nat.ble_eq_true_of_le (show Nat.add 0 (Nat.sub m 0) ≤ 1000000 by simp; omega), cond_true, cond_false]
  have hr : takeF (r b) off (2 * m) = some (ixN z (2 * m)) := by
   rw [takeF_ix (z := z) (2 * m) 0 off fun i hi => by rw [Nat.zero_add]; exact hz i hi]
   unfold ixN
   rw [List.range_eq_range']
  have hr' : (match Nat.beq (Nat.sub cap 0) unkE with | true => none | false => takeF (r b) (Nat.add off (Nat.mul 0 2)) (Nat.mul (Nat.sub m 0) 2)) = some (ixN z (2 * m)) := by
   rw [natFx (show Nat.sub cap 0 ≠ unkE by unfold unkE; simp; omega)]
   show takeF (r b) off (Nat.mul m 2) = _
   rw [Nat.mul_eq, Nat.mul_comm]
   exact hr
  have oc : ∀ {o : Option (List Value)} {c : List Value} (h : o = some c) (a : CR) (F : List Value → CR), (Option.casesOn o a F : CR) = F c := fun h a F => by rw [h]
  refine (oc hr' _ _).trans ?_
  have l1 : Nat.beq (ixN z (2 * m)).length (Nat.mul (Nat.sub m 0) 2) = true := by
   rw [ix_len, show Nat.mul (Nat.sub m 0) 2 = 2 * m by show m * 2 = _; omega]
   exact Nat.beq_refl _
  simp only [l1, natFx (show Nat.sub m 0 ≠ 0 by show m ≠ 0; omega), cond_true, cond_false]
  unfold finM rowOf rowsOf row1
  have hb : Nat.beq (Nat.sub m 0) 0 = false := natFx (by show m ≠ 0; omega)
  simp only [hb, Bool.and_false]
  have hg : gnds (ixN z (2 * m)) = true := ix_gnd _ _
  show guardK (gnds (ixN z (2 * m))) _ = _
  rw [hg]
  rfl⟩
theorem sp_0 (hc : cap ≤ maxLen) : GrT Tryd.prog r 4 [RS2 b off 0 cap] (.slice none 0 0) := GrT.of (SC_ok r) TOk.nil .nil rfl ⟨1, 2, by
 have hc : cap ≤ 9223372036854775807 := hc
 rw [spR, min_13]
 simp only [Nat.zero_min, dT (show (0 : Int) ≤ ((0 : Nat) : Int) by omega), natFx (show cap ≠ 9223372036854775809 by omega), Int.toNat_natCast, Nat.ble_eq_true_of_le (Nat.zero_le cap), show Nat.beq 0 0 = true from rfl, cond_true, cond_false]
 rfl⟩
end

end Go.Proofs

/- The law of peaks holds. -/
namespace Go.Proofs
open Go Go.Ev Go.Num
set_option linter.unusedVariables false
set_option linter.unusedSimpArgs false
set_option maxRecDepth 100000

noncomputable def LW_p : Code := .seq LW_0 (.seq LW_1 (.seq LW_2 (.seq LW_3 (.seq LW_4 LW_5))))
theorem tAw_ok {r : Mem} (hm : ∀ b j u, tabM b j = some u → r b j = some u) : TOk (SC r) tAw := TOk.nil.cons (e0_ok (awake10.more hm))
def oLe : Outs := ⟨[2], [], fun vs ms os => vs = [some (.bool true)] ∧ ms = [] ∧ os = []⟩
theorem oLe_fin (r : Mem) : ∀ vs ms os, oLe.Q vs ms os → ∃ v A', finish (SC r) 4093 [.tmp 2] (St.of oLe.lv vs ms os) = .ret v A' ∧ (fun v _ => v = Value.bool true) v A' := by
 rintro vs ms os ⟨rfl, rfl, rfl⟩
 exact ⟨_, mkA [], by kernel_rfl, rfl⟩

theorem law_pre {r : Mem} {args : List Value} (hle : Nat.ble args.length 127 = true) {t : Tbl} (ht : TOk (SC r) t) (d : Nat)
  (h : ∀ K kx KR, run (SC r) 4093 127 1 LW_p (lvlT (SC r) t .nil 1 d) none (rbK 0 lvL1 [] K) kx (rbK 0 [2] [] KR) (sc0 4093 args) (tr0 4093 args) [] emptyA = KR [some (.bool true)] [] []) : SOk (SC r) 3 args emptyA fun v _ => v = .bool true := by
 refine callO (SC_ok r) (by kernel_rfl) ((bodySC r _).trans LW_eq) (nt := 127) (by kernel_rfl) (rs := [.tmp 2]) (by kernel_rfl) 4093 hle oLe (oLe_fin r) fun γ W F kk hwr hF hro h0' => ?_
 have h0' : ∀ i, 0 ≤ i → γ i = none := h0'
 exact Go.Ev.Reach.after3R (SC_ok r) ht (tm := .nil) (L := 1) (L' := 1) (d := d) hF hro h0' (.step (.step (.step (.step (.step .base)))))
  (o1 := ⟨lvL1, [], fun _ _ _ => False⟩) (o2 := ⟨lvL4, [], fun _ _ _ => False⟩) [] (fun p hp => nomatch hp) (fun vs ms os h => h.elim) (fun vs ms os h => h.elim) ((h _ _ _).trans (qq_ok ⟨rfl, rfl, rfl⟩))


def mxB (f : Nat → Nat) : Nat → Nat
 | 0 => 0
 | k + 1 => max (mxB f k) (f k + 1)
theorem mxB_le {f : Nat → Nat} {n : Nat} : ∀ {k : Nat}, (∀ i, i < k → f i + 1 ≤ n) → mxB f k ≤ n
 | 0, _ => Nat.zero_le _
 | k + 1, h => by
  have := mxB_le (k := k) fun i hi => h i (by omega)
  have := h k (by omega)
  rw [mxB]
  omega
theorem mxB_ge {f : Nat → Nat} : ∀ {k i : Nat}, i < k → f i + 1 ≤ mxB f k
 | k + 1, i, h => by
  rw [mxB]
  by_cases c : i = k
  ·subst c; omega
  ·have := mxB_ge (f := f) (k := k) (i := i) (by omega)
   omega

section
variable {r : Mem} {b off n cap m : Nat} {z : Nat → Int}
theorem cells_a {k : Nat} (h : k < m) : (ixN z (2 * m))[Nat.add (Nat.add 0 (Nat.mul k 2)) 0]? = some (I (ea z k)) := by
 have e : Nat.add (Nat.add 0 (Nat.mul k 2)) 0 = 2 * k := by simp; omega
 rw [e]
 exact ix_get (by omega)
theorem cells_b {k : Nat} (h : k < m) : (ixN z (2 * m))[Nat.add (Nat.add 0 (Nat.mul k 2)) 1]? = some (I (eb z k)) := by
 have e : Nat.add (Nat.add 0 (Nat.mul k 2)) 1 = 2 * k + 1 := by simp; omega
 rw [e]
 exact ix_get (by omega)
theorem cells_d {s : PkS} {k : Nat} (h : k < m) : (bts s m)[Nat.add 0 (Nat.mul k 1)]? = some (I (s.boat k : Nat)) := by
 have e : Nat.add 0 (Nat.mul k 1) = k := by simp
 rw [e]
 exact ix_get h

theorem eSp_ok (hl : n ≤ cap) (hc : cap ≤ maxLen) (hm : m = min n 13) (h1 : 1 ≤ m) (hz : rowAt r b off (2 * m) z) : EOk (SC r) 4 (eSp (RS2 b off n cap) m (ixN z (2 * m))) := fun args A hgd F hF k γ W args' hw hR ha => by
 refine ⟨fun hcc => ?_, fun h => nomatch h⟩
 have hs := @of_decide_eq_true _ (Classical.propDecidable _) hgd
 subst hs
 have hof : ofV 0 (gw 0 m) = true := by simp [ofV, of1]
 exact (sp_row hl hc hm h1 hz).ends (γ := γ) (A := A) hof (ix_gnd _ _) hF hw (hR.noG noG fun _ => rfl) (ha.of_ros rfl) ha
theorem eBo_ok (h1 : 1 ≤ m) (hm : m ≤ 12) (hok : okS z m) : EOk (SC r) 5 (eBo m (ixN z (2 * m)) (bts (pkSk z m m) m) (pkB (ea z) (eb z) m m).1) := fun args A hgd F hF k γ W args' hw hR ha => by
 refine ⟨fun hcc => ?_, fun h => nomatch h⟩
 obtain ⟨b, k', p1, p2⟩ := gOwn_use (by decide) hgd hw hR ha
 have hof : ofV 0 (.tuple ⟨[ow 0 m, I (pkB (ea z) (eb z) m m).1, I 0]⟩) = true := by simp [ofV, of1, gnd]
 exact (bo_ok (cap := 0) p2 h1 hm hok).ends (γ := γ) (A := A) hof (ix_gnd _ _) hF hw (memW_ro W) p1 ha
theorem eBx_ok (hno : ¬ (1 ≤ m ∧ m ≤ 12 ∧ okS z m)) : EOk (SC r) 5 (eBx m (ixN z (2 * m)) (erS m)) := EOk.ent fun args A hgd => POk.of rfl fun γ W args' hw hR ha => by
 obtain ⟨b, k', p1, p2⟩ := gOwn_use (by decide) hgd hw hR ha
 exact ⟨memW W, _, memW_ro W, p1, bo_err p2 hno⟩

theorem law_go (hl : n ≤ cap) (hc : cap ≤ maxLen) (hmn : m = min n 13) (h1 : 1 ≤ m) (h12 : m ≤ 12) (hz : rowAt r b off (2 * m) z) (hok : ∀ j, ea z j ≤ eb z j) (hm : ∀ b j u, tabM b j = some u → r b j = some u) :
  SOk (SC r) 3 [RS2 b off n cap] emptyA fun v _ => v = .bool true := by
 obtain ⟨hpk, hI⟩ := pk_law (ea z) (eb z) h1 hok (srtV_perm (ea z) m) (srtV_srt (ea z) m)
 have hS : pkL (ea z) (eb z) ⟨[], fun _ => 0⟩ (srtV (ea z) m) = pkSk z m m := by
  unfold pkSk
  rw [List.take_of_length_le (by rw [srtV_len]; exact Nat.le_refl _)]
  rfl
 rw [hS] at hpk hI
 generalize hp : (pkB (ea z) (eb z) m m).1 = p at hpk
 have hB := eBo_ok (r := r) h1 h12 (fun j _ => hok j)
 rw [hp] at hB
 have hle := pkSk_le z m m (Nat.le_refl _)
 generalize pkSk z m m = S at hpk hI hB hle
 have mem : ∀ i, i < m → i ∈ srtV (ea z) m := fun i hi => ((srtV_perm (ea z) m).mem_iff).2 (List.mem_range.2 hi)
 have hbl : ∀ i, i < m → S.boat i + 1 ≤ S.ends.length := fun i hi => (hI.le i (mem i hi)).1
 have hcn : ∀ k, k ≤ m → cnN (ea z) (eb z) p k ≤ k := fun k => by
  induction k with
  | zero => exact fun _ => Nat.le_refl _
  | succ k ih =>
   intro h
   have := ih (by omega)
   rw [cnN]
   split <;> omega
 have hmx : mxB S.boat m = S.ends.length := by
  have h1' := mxB_le (f := S.boat) (n := S.ends.length) (k := m) hbl
  rcases hI.top with h | ⟨i, hi, h⟩
  ·have := hbl 0 (by omega)
   omega
  ·have := mxB_ge (f := S.boat) (k := m) (i := i) (List.mem_range.1 (((srtV_perm (ea z) m).mem_iff).1 hi))
   omega
 have hmb : ∀ k, k ≤ m → mxB S.boat k ≤ S.ends.length := fun k hk => mxB_le fun i hi => hbl i (by omega)
 have nc : m_nns (ixN z (2 * m)) = true := ix_nn _ _
 have nd : m_nns (bts S m) = true := ix_nn _ _
 refine callO (SC_ok r) (by kernel_rfl) ((bodySC r _).trans LW_eq) (nt := 127) (by kernel_rfl) (rs := [.tmp 2]) (by kernel_rfl) 4093 rfl oLe (oLe_fin r) fun γ W F kk hwr hF hro h0' => ?_
 have h0' : ∀ i, 0 ≤ i → γ i = none := h0'
 refine Go.Ev.Reach.after3R (SC_ok r) (t := tLw (RS2 b off n cap) m (ixN z (2 * m)) (bts S m) p) ((TOk.nil.cons hB).cons (eSp_ok hl hc hmn h1 hz)) (tm := .nil) (L := 1) (L' := 1) (d := 1) hF hro h0' (.step (.step (.step (.step (.step .base)))))
  (o1 := ⟨lvL1, [], fun vs ms os => vs = vL1 m p (0 : Nat) (0 : Nat) (0 : Nat) ∧ ms = [] ∧ os = oLw (ixN z (2 * m)) (bts S m)⟩)
  (o2 := ⟨lvL4, [], fun vs ms os => vs = vL4 m (cnN (ea z) (eb z) p m : Nat) (0 : Nat) ∧ ms = [] ∧ os = oLw (ixN z (2 * m)) (bts S m)⟩) [] (fun p hp => nomatch hp) ?_ ?_ ?_
 ·rintro vs ms os ⟨rfl, rfl, rfl⟩
  refine Go.Ev.Reach.blockC (Go.Ev.Reach.loopC (j := m) (lv := lvL1) (fl := []) (I := fun j vs ms os => ∃ k : Nat, k ≤ m ∧ j = m - k ∧ vs = vL1 m p (cnN (ea z) (eb z) p k : Nat) (0 : Nat) (k : Nat) ∧ ms = [] ∧ os = oLw (ixN z (2 * m)) (bts S m)) (fun j vs ms os hI => ?_) ⟨0, by omega, rfl, rfl, rfl, rfl⟩)
  obtain ⟨k, hk, rfl, rfl, rfl, rfl⟩ := hI
  refine Go.Ev.Reach.segR (SC_ok r) TOk.nil (tm := .nil) (L := 1) (L' := 1) (d := 1) hF hro h0' [(0, ⟨lvL4, [], fun vs ms os => vs = vL4 m (cnN (ea z) (eb z) p m : Nat) (0 : Nat) ∧ ms = [] ∧ os = oLw (ixN z (2 * m)) (bts S m)⟩)] (fun p hp => by simp only [List.mem_cons, List.not_mem_nil, or_false] at hp; subst hp; rfl) ?_
  have hn' := lwB r m p (cnN (ea z) (eb z) p k : Nat) (0 : Nat) k (ixN z (2 * m)) (bts S m)
  simp only [Int.ofNat_eq_natCast, Int.toNat_natCast, nc, nd, Bool.and_self, cond_true] at hn'
  by_cases c : k < m
  ·have c1 : (k : Int) < (m : Int) := by omega
   have c3 : Nat.blt k m = true := Nat.ble_eq_true_of_le (by omega)
   have e3 := inc1' (k := k) (by omega)
   have e4 := inc1' (k := cnN (ea z) (eb z) p k) (by have := hcn k hk; omega)
   simp only [Int.ofNat_eq_natCast] at e3 e4
   simp only [dT c1, c3, cond_true, cells_a c, cells_b c, isI_I, e3, e4] at hn'
   dsimp +instances only [ofI_I] at hn'
   by_cases d1 : ea z k ≤ p
   ·by_cases d2 : p ≤ eb z k
    ·simp only [dT d1, dT d2, cond_true] at hn'
     exact (hn' _ _ _ _).trans (qq_ok ⟨m - (k + 1), by omega, k + 1, c, rfl, by rw [cnN, if_pos ⟨d1, d2⟩]; rfl, rfl, rfl⟩)
    ·simp only [dT d1, dF d2, cond_true, cond_false] at hn'
     exact (hn' _ _ _ _).trans (qq_ok ⟨m - (k + 1), by omega, k + 1, c, rfl, by rw [cnN, if_neg fun h => d2 h.2]; rfl, rfl, rfl⟩)
   ·simp only [dF d1, cond_false] at hn'
    exact (hn' _ _ _ _).trans (qq_ok ⟨m - (k + 1), by omega, k + 1, c, rfl, by rw [cnN, if_neg fun h => d1 h.1]; rfl, rfl, rfl⟩)
  ·have hkl : k = m := by omega
   subst hkl
   have c1 : ¬ (k : Int) < (k : Int) := by omega
   simp only [dF c1, cond_false] at hn'
   exact (hn' _ _ _ _).trans (qq_ok ⟨rfl, rfl, rfl⟩)
 ·rintro vs ms os ⟨rfl, rfl, rfl⟩
  refine Go.Ev.Reach.after3R (SC_ok r) TOk.nil (tm := .nil) (L := 1) (L' := 1) (d := 1) hF hro h0' .base
   (o1 := ⟨lvL2, [], fun vs ms os => vs = vL2 m (cnN (ea z) (eb z) p m : Nat) (0 : Nat) (0 : Nat) ∧ ms = [] ∧ os = oLw (ixN z (2 * m)) (bts S m)⟩)
   (o2 := ⟨lvL4, [], fun vs ms os => vs = vL4 m (cnN (ea z) (eb z) p m : Nat) (mxB S.boat m : Nat) ∧ ms = [] ∧ os = oLw (ixN z (2 * m)) (bts S m)⟩) [] (fun p hp => nomatch hp) ?_ ?_ ?_
  ·rintro vs ms os ⟨rfl, rfl, rfl⟩
   refine Go.Ev.Reach.blockC (Go.Ev.Reach.loopC (j := m) (lv := lvL2) (fl := []) (I := fun j vs ms os => ∃ k : Nat, k ≤ m ∧ j = m - k ∧ vs = vL2 m (cnN (ea z) (eb z) p m : Nat) (mxB S.boat k : Nat) (k : Nat) ∧ ms = [] ∧ os = oLw (ixN z (2 * m)) (bts S m)) (fun j vs ms os hI => ?_) ⟨0, by omega, rfl, rfl, rfl, rfl⟩)
   obtain ⟨k, hk, rfl, rfl, rfl, rfl⟩ := hI
   refine Go.Ev.Reach.after3R (SC_ok r) TOk.nil (tm := .nil) (L := 1) (L' := 1) (d := 1) hF hro h0' .flat
    (o1 := ⟨lvL2, [], fun vs ms os => k < m ∧ vs = vL2 m (cnN (ea z) (eb z) p m : Nat) (mxB S.boat k : Nat) (k : Nat) ∧ ms = [] ∧ os = oLw (ixN z (2 * m)) (bts S m)⟩)
    (o2 := ⟨lvL2, [], fun vs ms os => k < m ∧ vs = vL2 m (cnN (ea z) (eb z) p m : Nat) (mxB S.boat (k + 1) : Nat) (k : Nat) ∧ ms = [] ∧ os = oLw (ixN z (2 * m)) (bts S m)⟩) [(2, ⟨lvL4, [], fun vs ms os => vs = vL4 m (cnN (ea z) (eb z) p m : Nat) (mxB S.boat m : Nat) ∧ ms = [] ∧ os = oLw (ixN z (2 * m)) (bts S m)⟩)] (fun p hp => by simp only [List.mem_cons, List.not_mem_nil, or_false] at hp; subst hp; rfl) ?_ ?_ ?_
   ·rintro vs ms os ⟨c, rfl, rfl, rfl⟩
    refine Go.Ev.Reach.blockC (Go.Ev.Reach.afterR (SC_ok r) TOk.nil (tm := .nil) (L := 1) (L' := 1) (d := 1) hF hro h0' (.step .base)
     (o1 := ⟨lvL3, [], fun vs ms os => vs = vL3 m (cnN (ea z) (eb z) p m : Nat) (mxB S.boat (k + 1) : Nat) (k : Nat) (0 : Nat) ∧ ms = [] ∧ os = oLw (ixN z (2 * m)) (bts S m)⟩) [] (fun p hp => nomatch hp) ?_ ?_)
    ·rintro vs ms os ⟨rfl, rfl, rfl⟩
     refine Go.Ev.Reach.blockC (Go.Ev.Reach.loopC (j := k) (lv := lvL3) (fl := []) (I := fun j vs ms os => ∃ i : Nat, i ≤ k ∧ j = k - i ∧ vs = vL3 m (cnN (ea z) (eb z) p m : Nat) (mxB S.boat (k + 1) : Nat) (k : Nat) (i : Nat) ∧ ms = [] ∧ os = oLw (ixN z (2 * m)) (bts S m)) (fun j vs ms os hI => ?_) ⟨0, by omega, rfl, rfl, rfl, rfl⟩)
     obtain ⟨i, hi, rfl, rfl, rfl, rfl⟩ := hI
     refine Go.Ev.Reach.segR (SC_ok r) TOk.nil (tm := .nil) (L := 1) (L' := 1) (d := 1) hF hro h0' [(4, ⟨lvL2, [], fun vs ms os => k < m ∧ vs = vL2 m (cnN (ea z) (eb z) p m : Nat) (mxB S.boat (k + 1) : Nat) (k : Nat) ∧ ms = [] ∧ os = oLw (ixN z (2 * m)) (bts S m)⟩)] (fun p hp => by simp only [List.mem_cons, List.not_mem_nil, or_false] at hp; subst hp; rfl) ?_
     have hn' := lwG r m (cnN (ea z) (eb z) p m : Nat) (mxB S.boat (k + 1) : Nat) k i (ixN z (2 * m)) (bts S m)
     simp only [Int.ofNat_eq_natCast, Int.toNat_natCast, nc, nd, Bool.and_self, cond_true] at hn'
     have c1 : (k : Int) < (m : Int) := by omega
     have c3 : Nat.blt k m = true := Nat.ble_eq_true_of_le (by omega)
     by_cases d : i < k
     ·have d1 : (i : Int) < (k : Int) := by omega
      have d3 : Nat.blt i m = true := Nat.ble_eq_true_of_le (by omega)
      have e3 := inc1' (k := i) (by omega)
      simp only [Int.ofNat_eq_natCast] at e3
      have fin : qq (∃ j', j' < k - i ∧ ∃ i' : Nat, i' ≤ k ∧ j' = k - i' ∧ vL3 m (cnN (ea z) (eb z) p m : Nat) (mxB S.boat (k + 1) : Nat) (k : Nat) ((i + 1 : Nat) : Int) = vL3 m (cnN (ea z) (eb z) p m : Nat) (mxB S.boat (k + 1) : Nat) (k : Nat) (i' : Nat) ∧ ([] : List Nat) = [] ∧ oLw (ixN z (2 * m)) (bts S m) = oLw (ixN z (2 * m)) (bts S m)) = okR := qq_ok ⟨k - (i + 1), by omega, i + 1, d, rfl, rfl, rfl, rfl⟩
      have hk' : k < m := c
      have hi' : i < m := by omega
      simp only [dT c1, dT d1, c3, d3, cond_true, cells_d hk', cells_d hi', isI_I] at hn'
      dsimp +instances only [ofI_I] at hn'
      by_cases q : S.boat k = S.boat i
      ·have q' : ((S.boat k : Nat) : Int) = (S.boat i : Nat) := by omega
       simp only [eqT q', cond_true, cells_a hk', cells_b hi', cells_a hi', cells_b hk', isI_I] at hn'
       dsimp +instances only [ofI_I] at hn'
       have ap := hI.apart k i (mem k hk') (mem i hi') (by omega) q
       by_cases w1 : ea z k ≤ eb z i
       ·have w2 : ¬ ea z i ≤ eb z k := by omega
        simp only [dT w1, dF w2, cond_true, cond_false, e3] at hn'
        exact (hn' _ _ _ _).trans fin
       ·simp only [dF w1, cond_false, e3] at hn'
        exact (hn' _ _ _ _).trans fin
      ·have q' : ((S.boat k : Nat) : Int) ≠ (S.boat i : Nat) := by omega
       simp only [eqF q', cond_false, e3] at hn'
       exact (hn' _ _ _ _).trans fin
     ·have d1 : ¬ (i : Int) < (k : Int) := by omega
      simp only [dF d1, cond_false] at hn'
      exact (hn' _ _ _ _).trans (qq_ok ⟨c, rfl, rfl, rfl⟩)
    ·have hn' := lwF r m (cnN (ea z) (eb z) p m : Nat) (mxB S.boat k : Nat) k (ixN z (2 * m)) (bts S m)
     have c3 : Nat.blt k m = true := Nat.ble_eq_true_of_le (by omega)
     have e4 := inc1' (k := S.boat k) (by have := hbl k c; omega)
     simp only [Int.ofNat_eq_natCast] at e4
     simp only [Int.ofNat_eq_natCast, Int.toNat_natCast, nc, nd, Bool.and_self, cond_true] at hn'
     simp only [c3, cond_true, cells_d c, isI_I] at hn'
     dsimp +instances only [ofI_I] at hn'
     have e5 : (bif decide (IntKind.wrap IntKind.i64 (((S.boat k : Nat) : Int) + ((1 : Nat) : Int)) > (mxB S.boat k : Nat)) then IntKind.wrap IntKind.i64 (((S.boat k : Nat) : Int) + ((1 : Nat) : Int)) else (mxB S.boat k : Nat)) = (mxB S.boat (k + 1) : Nat) := by
      rw [mxB]
      by_cases h : IntKind.wrap IntKind.i64 (((S.boat k : Nat) : Int) + ((1 : Nat) : Int)) > (mxB S.boat k : Nat)
      ·rw [dT h, cond_true, e4, Nat.max_eq_right (by rw [e4] at h; omega)]
      ·rw [dF h, cond_false, Nat.max_eq_left (by rw [e4] at h; omega)]
     have hn2 := fun K kx kr => hn' (lvlT (SC r) (fun _ => none) .nil 1 1) K kx kr
     rw [e5] at hn2
     exact (hn2 _ _ _).trans (qq_ok ⟨rfl, rfl, rfl⟩)
   ·rintro vs ms os ⟨c, rfl, rfl, rfl⟩
    refine Go.Ev.Reach.segR (SC_ok r) TOk.nil (tm := .nil) (L := 1) (L' := 1) (d := 1) hF hro h0' [] (fun p hp => nomatch hp) ?_
    have hn' := lwH r m (cnN (ea z) (eb z) p m : Nat) (mxB S.boat (k + 1) : Nat) k (ixN z (2 * m)) (bts S m)
    have e3 := inc1' (k := k) (by omega)
    simp only [Int.ofNat_eq_natCast] at e3
    simp only [Int.ofNat_eq_natCast, nc, nd, Bool.and_self, cond_true, e3] at hn'
    exact (hn' _ _ _ _).trans (qq_ok ⟨m - (k + 1), by omega, k + 1, c, rfl, rfl, rfl, rfl⟩)
   ·have hn' := lwD r m (cnN (ea z) (eb z) p m : Nat) (mxB S.boat k : Nat) k (ixN z (2 * m)) (bts S m)
    simp only [Int.ofNat_eq_natCast, nc, nd, Bool.and_self, cond_true] at hn'
    by_cases c : k < m
    ·have c1 : (k : Int) < (m : Int) := by omega
     simp only [dT c1, cond_true] at hn'
     exact (hn' _ _ _ _).trans (qq_ok ⟨c, rfl, rfl, rfl⟩)
    ·have hkl : k = m := by omega
     subst hkl
     have c1 : ¬ (k : Int) < (k : Int) := by omega
     simp only [dF c1, cond_false] at hn'
     exact (hn' _ _ _ _).trans (qq_ok ⟨rfl, rfl, rfl⟩)
  ·rintro vs ms os ⟨rfl, rfl, rfl⟩
   refine Go.Ev.Reach.segR (SC_ok r) (tAw_ok hm) (tm := .nil) (L := 1) (L' := 1) (d := 1) hF hro h0' [] (fun p hp => nomatch hp) ?_
   have hn' := lwZ r m (cnN (ea z) (eb z) p m : Nat) (mxB S.boat m : Nat) (ixN z (2 * m)) (bts S m)
   have q1 : (Int.ofNat m == Int.ofNat m) = true := eqT rfl
   have q2 : (((mxB S.boat m : Nat) : Int) == (cnN (ea z) (eb z) p m : Nat)) = true := eqT (by omega)
   simp only [q1, q2, cond_true] at hn'
   exact (hn' _ _ _).trans (qq_ok ⟨rfl, rfl, rfl⟩)
  ·have hn' := lwC r m (cnN (ea z) (eb z) p m : Nat) (0 : Nat) (ixN z (2 * m)) (bts S m)
   simp only [nc, nd, Bool.and_self, cond_true] at hn'
   exact (hn' _ _ _ _).trans (qq_ok ⟨rfl, rfl, rfl⟩)
 ·have hn' := lwA r b off n cap m (ixN z (2 * m)) (bts S m) p
  simp only [sv_rfl, nc, nd, Bool.and_self, cond_true] at hn'
  exact (hn' _ _ _).trans (qq_ok ⟨rfl, rfl, rfl⟩)
end

end Go.Proofs

/- The law of peaks holds, for all arguments. -/
namespace Go.Proofs
open Go Go.Ev Go.Num
set_option linter.unusedVariables false
set_option linter.unusedSimpArgs false
set_option maxRecDepth 100000

theorem law_peaks (r : Mem) (hm : ∀ b j u, tabM b j = some u → r b j = some u) (u0 : Value) (s0 : ArgRowT r 2 (ArgInt .i64) u0) : GrT Tryd.prog r 3 [u0] (.bool true) := by
 refine GrT.ofS (C := SC r) rfl rfl rfl ?_
 cases s0 with
 | nil => exact law_pre rfl (tAw_ok hm) 3 fun K kx KR => lwN r K kx KR
 | row b off n cap hl hc h =>
  by_cases c0 : n = 0
  ·subst c0
   refine law_pre rfl (t := tL0 (RS2 b off 0 cap)) ((tAw_ok hm).cons (EOk.ent fun args A hg => ?_)) 3 fun K kx KR => ?_
   ·have hs := @of_decide_eq_true _ (Classical.propDecidable _) hg
    subst hs
    exact (sp_0 (r := r) (b := b) (off := off) hc).ro rfl A
   ·refine (lw0 r b off 0 cap K kx KR).trans ?_
    rw [sv_rfl, cond_true]
  ·have hmn : min n 13 = min n 13 := rfl
   generalize hmd : min n 13 = m at hmn
   have h1 : 1 ≤ m := by omega
   have hmc : m ≤ n := by omega
   let z : Nat → Int := fun j => if j < 2 * m then ofI ((r b (off + j)).getD undef) else 0
   have hz : rowAt r b off (2 * m) z := fun j hj => by
    obtain ⟨u, hu, w, rfl, _⟩ := h j (by omega)
    have hzj : z j = ofI ((r b (off + j)).getD undef) := if_pos hj
    rw [hzj, hu]
    rfl
   by_cases hok : m ≤ 12 ∧ okS z m
   ·exact law_go hl hc hmd.symm h1 hok.1 hz (fun j => by
     by_cases d : j < m
     ·exact hok.2 j d
     ·have e1 : ea z j = 0 := if_neg (by omega)
      have e2 : eb z j = 0 := if_neg (by omega)
      omega) hm
   ·have hno : ¬ (1 ≤ m ∧ m ≤ 12 ∧ okS z m) := fun h => hok h.2
    refine law_pre rfl (t := tLe (RS2 b off n cap) m (ixN z (2 * m)) (erS m)) (((tAw_ok hm).cons (eBx_ok hno)).cons (eSp_ok hl hc hmd.symm h1 hz)) 1 fun K kx KR => ?_
    refine (lwE r b off n cap m (ixN z (2 * m)) (erS m) K kx KR).trans ?_
    have hne : (erS m != Int.ofNat 0) = true := neT (by unfold erS; split <;> decide)
    simp only [sv_rfl, hne, cond_true]
    unfold erS
    by_cases d : m ≤ 12
    ·rw [if_pos d]; rfl
    ·rw [if_neg d]; rfl

end Go.Proofs

