/- What the claim is proved with, part 3: the evaluator and the contracts of the calls. -/
import Derived.Test.YtdalaifnhppidaaGreatDoorPack2
import Derived.Test.YtdalaifnhppidaaGreatDoorPack1
set_option linter.unusedVariables false
set_option linter.unusedSimpArgs false
set_option maxRecDepth 100000
namespace Go.Proofs
open Go Go.Ev Go.Num
theorem reachG_thenZ {P : Program} {m n : Nat} {F : Fence} {k : Nat} {γ0 : Gam} {W0 : World} {c : Code} {r : Mem} {st : St} {o1 o2 : OutsG} {ox : Nat → OutsG} {orr : OutsG} (h : ReachG P m n F k γ0 W0 c r st (CanG P m n γ0 W0 o1 (fun _ => OutsG.no) OutsG.no)) (hq : ∀ r vs ms os, o1.Q r vs ms os → IsG P m n γ0 W0 o2 r (St.of o1.lv vs ms os)) : ReachG P m n F k γ0 W0 c r st (CanG P m n γ0 W0 o2 ox orr) :=
 ReachG.mono h fun ex r1 st h => by
  cases ex with
  | normal => exact isG_trans h hq
  | exit id =>
   intro γ' a W' hs hb
   obtain ⟨_, _, _, _, _, hf, _⟩ := h γ' a W' hs hb
   exact hf.elim
  | ret =>
   intro γ' a W' hs hb
   obtain ⟨_, _, _, _, _, hf, _⟩ := h γ' a W' hs hb
   exact hf.elim
  | _ => exact h
theorem TabC.tabMZ {r r1 : Mem} (hle : Mem.le r r1) {c : List Value} {T : List (List Bool)} (hT : TabC r c T) {b o : Nat} (hrow : ∀ k u, c[k]? = some u → r1 b (o + k) = some u) : TabM r1 b o T := fun i l hl => by
 have hi : i < T.length := (List.getElem?_eq_some_iff.1 hl).1
 obtain ⟨v, hv⟩ : ∃ v, c[i]? = some v := ⟨_, List.getElem?_eq_getElem (by rw [hT.1]; exact hi)⟩
 exact ⟨v, hrow _ _ hv, (hT.2 i v l hv hl).mono hle⟩
theorem tZc_ok {r : Mem} {bp op m : Nat} {T : List (List Bool)} (hp : TabM r bp op T) (hTl : T.length = m) (hm : m ≤ 1000) {e : Int} (he : e = (if ckO T then 0 else 100)) : TOk (SC r) (tZc (RS bp op m 0) e) := by
 refine TOk.nil.cons (EOk.ent fun args A hgd => ?_)
 have hs := @of_decide_eq_true _ (Classical.propDecidable _) hgd
 subst hs
 subst he
 exact (og_ok hp hTl hm).ro rfl A
def OrdM (r1 : Mem) (v : Value) : Prop := ∃ bo oo T, v = RS bo oo T.length 0 ∧ 1 ≤ T.length ∧ T.length ≤ 14 ∧ TabM r1 bo oo T ∧ ckO T = true
def qZt (r : Mem) : OutsG := ⟨[2], fun r1 vs ms os => ∃ v, Mem.le r r1 ∧ OrdM r1 v ∧ vs = [some v] ∧ ms = [] ∧ os = []⟩
theorem zt_ok {r : Mem} {b off n cap : Nat} (h1 : 1 ≤ n) (hin : ∀ i, i < min n 14 → ∃ u, r b (off + i) = some u ∧ ArgRow r 1 ArgBool u) : SOkG Tryz.prog r 7 [RS b off n cap] emptyA fun v A r1 => Mem.le r r1 ∧ A = mkA [] ∧ OrdM r1 v := by
 refine callOG SC_ok (by kernel_rfl) ((bodySC r _).trans Zt_eq) (nt := 136) (by kernel_rfl) (rs := [.tmp 2]) (by kernel_rfl) mZt rfl (qZt r) ?_ fun γ W F kk hwr hF hro h0' => ?_
 ·rintro r1 vs ms os ⟨v, hle, ⟨bo, oo, T, rfl, hT⟩, rfl, rfl, rfl⟩
  exact ⟨_, mkA [], by kernel_rfl, hle, rfl, bo, oo, T, rfl, hT⟩
 have h0' : ∀ i, 0 ≤ i → γ i = none := h0'
 have hTl := inTab_len r b off (min n 14)
 refine ReachG.seqC (o1 := ⟨[0], fun r1 vs ms os => r1 = r ∧ vs = [some (RS b off n cap)] ∧ ms = [] ∧ os = []⟩) (ReachG.segR (SC_ok r) TOk.nil (tm := .nil) (L := 1) (L' := 1) (d := 1) (n0 := 0) hF hro h0' [] (on := ⟨[0], [], fun vs ms os => vs = [some (RS b off n cap)] ∧ ms = [] ∧ os = []⟩) (ox := fun _ => Outs.no) (orr := Outs.no) (fun p hp => nomatch hp) ?_ (fun vs ms os h => IsG.here ⟨rfl, h⟩) (fun _ _ _ _ h => h.elim) (fun _ _ _ h => h.elim)) fun r1 vs ms os hq => ?_
 ·exact (ztA r b off n cap _ _ _ _).trans (qq_ok ⟨rfl, rfl, rfl⟩)
 obtain ⟨rfl, rfl, rfl, rfl⟩ := hq
 refine ReachG.seqC (o1 := ⟨[3], fun r2 vs ms os => ∃ bp op, Mem.le r1 r2 ∧ TabM r2 bp op (inTab r1 b off (min n 14)) ∧ vs = [some (RS bp op (min n 14) 0)] ∧ ms = [] ∧ os = []⟩) ?_ fun r2 vs ms os hq => ?_
 ·refine reachG_thenZ (o1 := ⟨[3], fun r2 vs ms os => ms = [] ∧ Mem.le r1 r2 ∧ ∃ c, vs = [some (gwT 0 (min n 14))] ∧ os = [oTb c 0] ∧ TabC r2 c (inTab r1 b off (min n 14)) ∧ m_nns c = true⟩) (ReachG.callC (fl := []) SC_ok hF h0' TOk.nil (tm := .nil) (L := 1) (d := 1) 1 (s1 := (enZ (RS b off n cap)).1) (b1 := (enZ (RS b off n cap)).2) (ms1 := []) (A1 := mkA []) (A2 := emptyA) (i := 29) (args := [RS b off n cap]) ?_ (by kernel_rfl) (ta_ok h1 hin) ?_) fun r2 vs ms os h => ?_
  ·exact (ztB r1 b off n cap _ _).trans (qn_ok rfl)
  ·rintro v A' r2 ⟨hle, c, rfl, rfl, hT, hc⟩
   refine ⟨fun _ => none, TOk.nil, .nil, 1, 1, ?_⟩
   have hn' := ztC r2 b off n cap (min n 14) c
   simp only [hc, Bool.and_true, cond_true] at hn'
   exact (hn' _ _).trans (qq_ok ⟨rfl, hle, c, rfl, rfl, hT, hc⟩)
  ·obtain ⟨rfl, hle, c, rfl, rfl, hT, hc⟩ := h
   refine IsG.freeze (os0 := []) (j := 0) h0' rfl (Nat.zero_le _) rfl hc fun b' o' r3 hle2 hrow => ?_
   have hf := frzU 0 b' o' (min n 14)
   exact ⟨[some (RS b' o' (min n 14) 0)], [], by simp only [frzO, hf], rfl, b', o', Mem.le_trans hle hle2, hT.tabMZ hle2 hrow, rfl, rfl, rfl⟩
 obtain ⟨bp, op, hle2, hp, rfl, rfl, rfl⟩ := hq
 have hm : min n 14 ≤ 1000 := by omega
 by_cases hck : ckO (inTab r1 b off (min n 14)) = true
 ·refine ReachG.seqC (o1 := ⟨[3], fun _ _ _ _ => False⟩) (ReachG.segR (SC_ok r2) (tZc_ok hp hTl hm (e := 0) (by rw [hck]; rfl)) (tm := .nil) (L := 1) (L' := 1) (d := 1) (n0 := 0) hF hro h0' [] (on := ⟨[3], [], fun _ _ _ => False⟩) (ox := fun _ => Outs.no) (orr := ⟨[2], [], fun vs ms os => vs = [some (RS bp op (min n 14) 0)] ∧ ms = [] ∧ os = []⟩) (fun p hp => nomatch hp) ?_ (fun vs ms os h => h.elim) (fun _ _ _ _ h => h.elim) ?_) fun r3 vs ms os hq => hq.elim
  ·have hn' := ztD0 r2 bp op (min n 14)
   simp only [svv_rfl, cond_true] at hn'
   exact (hn' _ _ _).trans (qq_ok ⟨rfl, rfl, rfl⟩)
  ·rintro vs ms os ⟨rfl, rfl, rfl⟩
   exact IsG.here ⟨_, hle2, ⟨bp, op, inTab r1 b off (min n 14), by rw [hTl], by rw [hTl]; omega, by rw [hTl]; omega, hp, hck⟩, rfl, rfl, rfl⟩
 refine ReachG.seqC (o1 := ⟨[3], fun r3 vs ms os => r3 = r2 ∧ vs = [some (RS bp op (min n 14) 0)] ∧ ms = [] ∧ os = []⟩) (ReachG.segR (SC_ok r2) (tZc_ok hp hTl hm (e := 100) (by rw [if_neg hck])) (tm := .nil) (L := 1) (L' := 1) (d := 1) (n0 := 0) hF hro h0' [] (on := ⟨[3], [], fun vs ms os => vs = [some (RS bp op (min n 14) 0)] ∧ ms = [] ∧ os = []⟩) (ox := fun _ => Outs.no) (orr := ⟨[2], [], fun _ _ _ => False⟩) (fun p hp => nomatch hp) ?_ (fun vs ms os h => IsG.here ⟨rfl, h⟩) (fun _ _ _ _ h => h.elim) (fun _ _ _ h => h.elim)) fun r3 vs ms os hq => ?_
 ·have hn' := ztD100 r2 bp op (min n 14)
  simp only [svv_rfl, cond_true] at hn'
  exact (hn' _ _ _).trans (qq_ok ⟨rfl, rfl, rfl⟩)
 obtain ⟨rfl, rfl, rfl, rfl⟩ := hq
 obtain ⟨q, hqe⟩ : ∃ q, q = 1 + min n 14 % 12 := ⟨_, rfl⟩
 have hq1 : 1 ≤ q := by omega
 have hq12 : q ≤ 12 := by omega
 have hw : IntKind.wrap .i64 (1 + Int.tmod (min n 14 : Nat) 12) = (q : Nat) := by
  have e1 : Int.tmod ((min n 14 : Nat) : Int) 12 = ((min n 14 % 12 : Nat) : Int) := rfl
  rw [e1]
  have e2 : (1 : Int) + ((min n 14 % 12 : Nat) : Int) = ((q : Nat) : Int) := by omega
  rw [e2]
  exact wrI (by omega)
 refine ReachG.seqC (o1 := ⟨[3, 4], fun r4 vs ms os => r4 = r3 ∧ vs = [some (RS bp op (min n 14) 0), some (I (q : Nat))] ∧ ms = [] ∧ os = []⟩) (ReachG.segR (SC_ok r3) TOk.nil (tm := .nil) (L := 1) (L' := 1) (d := 1) (n0 := 0) hF hro h0' [] (on := ⟨[3, 4], [], fun vs ms os => vs = [some (RS bp op (min n 14) 0), some (I (q : Nat))] ∧ ms = [] ∧ os = []⟩) (ox := fun _ => Outs.no) (orr := Outs.no) (fun p hp => nomatch hp) ?_ (fun vs ms os h => IsG.here ⟨rfl, h⟩) (fun _ _ _ _ h => h.elim) (fun _ _ _ h => h.elim)) fun r4 vs ms os hq => ?_
 ·have hn' := ztE r3 bp op (min n 14)
  simp only [Int.ofNat_eq_natCast] at hn'
  simp only [show ((1 : Nat) : Int) = 1 from rfl, show ((12 : Nat) : Int) = 12 from rfl, hw] at hn'
  exact (hn' _ _ _ _).trans (qq_ok ⟨rfl, rfl, rfl⟩)
 obtain ⟨rfl, rfl, rfl, rfl⟩ := hq
 refine ReachG.seqC (o1 := ⟨[3, 4, 5], fun r5 vs ms os => r5 = r4 ∧ vs = [some (RS bp op (min n 14) 0), some (I (q : Nat)), some nilT] ∧ ms = [] ∧ os = []⟩) (ReachG.segR (SC_ok r4) TOk.nil (tm := .nil) (L := 1) (L' := 1) (d := 1) (n0 := 0) hF hro h0' [] (on := ⟨[3, 4, 5], [], fun vs ms os => vs = [some (RS bp op (min n 14) 0), some (I (q : Nat)), some nilT] ∧ ms = [] ∧ os = []⟩) (ox := fun _ => Outs.no) (orr := Outs.no) (fun p hp => nomatch hp) ((ztF r4 bp op (min n 14) q _ _ _ _).trans (qq_ok ⟨rfl, rfl, rfl⟩)) (fun vs ms os h => IsG.here ⟨rfl, h⟩) (fun _ _ _ _ h => h.elim) (fun _ _ _ h => h.elim)) fun r5 vs ms os hq => ?_
 obtain ⟨rfl, rfl, rfl, rfl⟩ := hq
 refine ReachG.seqC (o1 := ⟨[3, 4, 5], fun r6 vs ms os => ∃ bo oo bk ok, MatM γ W r5 r6 bo oo q bk ok (fun _ _ => false) ∧ vs = [some (RS bp op (min n 14) 0), some (I (q : Nat)), some (RS bo oo q 0)] ∧ ms = [] ∧ os = []⟩) (ReachG.seqC (o1 := ⟨lvZ0, fun r6 vs ms os => r6 = r5 ∧ vs = vZ0 (RS bp op (min n 14) 0) nilT q 0 ∧ ms = [] ∧ os = []⟩) (ReachG.segR (SC_ok r5) TOk.nil (tm := .nil) (L := 1) (L' := 1) (d := 1) (n0 := 0) hF hro h0' [] (on := ⟨lvZ0, [], fun vs ms os => vs = vZ0 (RS bp op (min n 14) 0) nilT q 0 ∧ ms = [] ∧ os = []⟩) (ox := fun _ => Outs.no) (orr := Outs.no) (fun p hp => nomatch hp) ((ztG r5 bp op (min n 14) q _ _ _ _).trans (qq_ok ⟨rfl, rfl, rfl⟩)) (fun vs ms os h => IsG.here ⟨rfl, h⟩) (fun _ _ _ _ h => h.elim) (fun _ _ _ h => h.elim)) fun r6 vs ms os hq => ?_) fun r6 vs ms os hq => ?_
 ·obtain ⟨rfl, rfl, rfl, rfl⟩ := hq
  exact zv_x hq1 hq12 hF hro h0'
 obtain ⟨bo, oo, bk, ok, hM6, rfl, rfl, rfl⟩ := hq
 refine ReachG.seqC (o1 := ⟨[4, 5], fun r7 vs ms os => (∃ M', RankOk q M' ∧ MatM γ W r5 r7 bo oo q bk ok M') ∧ vs = [some (I (q : Nat)), some (RS bo oo q 0)] ∧ ms = [] ∧ os = []⟩) (ReachG.seqC (o1 := ⟨lvZ2, fun r7 vs ms os => r7 = r6 ∧ vs = [some (RS bp op (min n 14) 0), some (I (q : Nat)), some (RS bo oo q 0), some (I (0 : Nat))] ∧ ms = [] ∧ os = []⟩) (ReachG.segR (SC_ok r6) TOk.nil (tm := .nil) (L := 1) (L' := 1) (d := 1) (n0 := 0) hF hro h0' [] (on := ⟨lvZ2, [], fun vs ms os => vs = [some (RS bp op (min n 14) 0), some (I (q : Nat)), some (RS bo oo q 0), some (I (0 : Nat))] ∧ ms = [] ∧ os = []⟩) (ox := fun _ => Outs.no) (orr := Outs.no) (fun p hp => nomatch hp) ((ztI r6 bp op (min n 14) q bo oo _ _ _ _).trans (qq_ok ⟨rfl, rfl, rfl⟩)) (fun vs ms os h => IsG.here ⟨rfl, h⟩) (fun _ _ _ _ h => h.elim) (fun _ _ _ h => h.elim)) fun r7 vs ms os hq => ?_) fun r7 vs ms os hq => ?_
 ·obtain ⟨rfl, rfl, rfl, rfl⟩ := hq
  exact zu_x hq1 hq12 hp hTl hm hF hro h0' (RankOk.none q) hM6
 obtain ⟨⟨M', hR7, hM7⟩, rfl, rfl, rfl⟩ := hq
 refine ReachG.seqC (o1 := ⟨[5], fun r8 vs ms os => (∃ M', RankOk q M' ∧ TrP q M' ∧ MatM γ W r5 r8 bo oo q bk ok M') ∧ vs = [some (RS bo oo q 0)] ∧ ms = [] ∧ os = []⟩) (ReachG.seqC (o1 := ⟨lvZ6, fun r8 vs ms os => r8 = r7 ∧ vs = vZ6 (RS bo oo q 0) q 0 ∧ ms = [] ∧ os = []⟩) (ReachG.segR (SC_ok r7) TOk.nil (tm := .nil) (L := 1) (L' := 1) (d := 1) (n0 := 0) hF hro h0' [] (on := ⟨lvZ6, [], fun vs ms os => vs = vZ6 (RS bo oo q 0) q 0 ∧ ms = [] ∧ os = []⟩) (ox := fun _ => Outs.no) (orr := Outs.no) (fun p hp => nomatch hp) ((ztM r7 bo oo q _ _ _ _).trans (qq_ok ⟨rfl, rfl, rfl⟩)) (fun vs ms os h => IsG.here ⟨rfl, h⟩) (fun _ _ _ _ h => h.elim) (fun _ _ _ h => h.elim)) fun r8 vs ms os hq => ?_) fun r8 vs ms os hq => ?_
 ·obtain ⟨rfl, rfl, rfl, rfl⟩ := hq
  exact zt_z hq12 hR7 hF hro h0' hM7
 obtain ⟨⟨M8, hR8, hT8, hM8⟩, rfl, rfl, rfl⟩ := hq
 have hl8 := tbM_len M8 q
 refine ReachG.segR (SC_ok r8) TOk.nil (tm := .nil) (L := 1) (L' := 1) (d := 1) (n0 := 0) hF hro h0' [] (on := ⟨[2], [], fun _ _ _ => False⟩) (ox := fun _ => Outs.no) (orr := ⟨[2], [], fun vs ms os => vs = [some (RS bo oo q 0)] ∧ ms = [] ∧ os = []⟩) (fun p hp => nomatch hp) ((ztT r8 bo oo q _ _ _ _).trans (qq_ok ⟨rfl, rfl, rfl⟩)) (fun vs ms os h => h.elim) (fun _ _ _ _ h => h.elim) ?_
 rintro vs ms os ⟨rfl, rfl, rfl⟩
 exact IsG.here ⟨_, Mem.le_trans hle2 hM8.le, ⟨bo, oo, tbM M8 q, by rw [hl8], by rw [hl8]; exact hq1, by rw [hl8]; omega, hM8.tab hq1, tbM_ck hq1 hq12 hR8 hT8⟩, rfl, rfl, rfl⟩
theorem zt_end {P : Program} {r : Mem} {γ : Gam} {W : World} (h0' : ∀ i, 0 ≤ i → γ i = none) {m n : Nat} : ∀ vs ms os, vs = [some (gwT 0 1)] ∧ ms = [] ∧ os = [oTb [.slice (some ⟨1, 0, none⟩) 1 1] 0, oBo [.bool false] 1] → IsG P m n γ W (qZt r) r (St.of [2] vs ms os) := by
 rintro vs ms os ⟨rfl, rfl, rfl⟩
 refine isG_trans (o1 := ⟨[2], fun r1 vs ms os => Mem.le r r1 ∧ ∃ b1 o1, r1 b1 (o1 + 0) = some (.bool false) ∧ vs = [some (gwT 0 1)] ∧ ms = [] ∧ os = [oTb [RS b1 o1 1 1] 0]⟩) (IsG.freeze (os0 := [oTb [.slice (some ⟨1, 0, none⟩) 1 1] 0]) (j := 1) h0' rfl (Nat.zero_le _) rfl rfl fun b' o' r2 hle hrow => ?_) ?_
 ·refine ⟨[some (gwT 0 1)], [oTb [RS b' o' 1 1] 0], rfl, ?_, hle, b', o', hrow 0 _ rfl, rfl, rfl, rfl⟩
  have e1 : frzVs 1 b' o' [.slice (some ⟨1, 0, none⟩) 1 1] = some [RS b' o' 1 1] := frzVs_one _ _ _ _ _ (frzZ 1 b' o' 1 (by unfold unk; omega))
  unfold oTb
  simp only [frzAs, frzA, e1]
 ·rintro r1 vs ms os ⟨hle, b1, o1, h1, rfl, rfl, rfl⟩
  refine IsG.freeze (os0 := []) (j := 0) h0' rfl (Nat.zero_le _) rfl rfl fun b' o' r2 hle2 hrow => ?_
  have hf := frzU 0 b' o' 1
  refine ⟨[some (RS b' o' 1 0)], [], by simp only [frzO, hf], rfl, _, Mem.le_trans hle hle2, ⟨b', o', [[false]], rfl, Nat.le_refl _, by decide, ?_, by decide⟩, rfl, rfl, rfl⟩
  intro i l hl
  match i, hl with
  | 0, hl =>
   cases hl
   exact ⟨_, hrow 0 _ rfl, .inr ⟨by decide, b1, o1, 1, rfl, fun j x hx => by
    match j, hx with
    | 0, hx => cases hx; exact hle2 _ _ _ h1⟩⟩
theorem zt_nil {r : Mem} : SOkG Tryz.prog r 7 [nilT] emptyA fun v A r1 => Mem.le r r1 ∧ A = mkA [] ∧ OrdM r1 v := by
 refine callOG SC_ok (by kernel_rfl) (c := cZt) (bodySC r _) (nt := 136) (by kernel_rfl) (rs := [.tmp 2]) (by kernel_rfl) mZt rfl (qZt r) ?_ fun γ W F kk hwr hF hro h0' => ?_
 ·rintro r1 vs ms os ⟨v, hle, ⟨bo, oo, T, rfl, hT⟩, rfl, rfl, rfl⟩
  exact ⟨_, mkA [], by kernel_rfl, hle, rfl, bo, oo, T, rfl, hT⟩
 have h0' : ∀ i, 0 ≤ i → γ i = none := h0'
 exact ReachG.segR (SC_ok r) TOk.nil (tm := .nil) (L := 3) (L' := 3) (d := 8) (n0 := 0) hF hro h0' [] (on := ⟨[2], [], fun _ _ _ => False⟩) (ox := fun _ => Outs.no) (orr := ⟨[2], [.t, .t], fun vs ms os => vs = [some (gwT 0 1)] ∧ ms = [] ∧ os = [oTb [.slice (some ⟨1, 0, none⟩) 1 1] 0, oBo [.bool false] 1]⟩) (fun p hp => nomatch hp) ((ztX r _ _ _).trans (qq_ok ⟨rfl, rfl, rfl⟩)) (fun vs ms os h => h.elim) (fun _ _ _ _ h => h.elim) (zt_end h0')
theorem zt_emp {r : Mem} {b off cap : Nat} : SOkG Tryz.prog r 7 [RS b off 0 cap] emptyA fun v A r1 => Mem.le r r1 ∧ A = mkA [] ∧ OrdM r1 v := by
 refine callOG SC_ok (by kernel_rfl) (c := cZt) (bodySC r _) (nt := 136) (by kernel_rfl) (rs := [.tmp 2]) (by kernel_rfl) mZt rfl (qZt r) ?_ fun γ W F kk hwr hF hro h0' => ?_
 ·rintro r1 vs ms os ⟨v, hle, ⟨bo, oo, T, rfl, hT⟩, rfl, rfl, rfl⟩
  exact ⟨_, mkA [], by kernel_rfl, hle, rfl, bo, oo, T, rfl, hT⟩
 have h0' : ∀ i, 0 ≤ i → γ i = none := h0'
 exact ReachG.segR (SC_ok r) TOk.nil (tm := .nil) (L := 3) (L' := 3) (d := 8) (n0 := 0) hF hro h0' [] (on := ⟨[2], [], fun _ _ _ => False⟩) (ox := fun _ => Outs.no) (orr := ⟨[2], [.t, .t], fun vs ms os => vs = [some (gwT 0 1)] ∧ ms = [] ∧ os = [oTb [.slice (some ⟨1, 0, none⟩) 1 1] 0, oBo [.bool false] 1]⟩) (fun p hp => nomatch hp) ((ztY r b off cap _ _ _).trans (qq_ok ⟨rfl, rfl, rfl⟩)) (fun vs ms os h => h.elim) (fun _ _ _ _ h => h.elim) (zt_end h0')
end Go.Proofs
namespace Go.Proofs
open Go Go.Ev Go.Num
theorem ArgRow.moreT {r r' : Mem} (hle : ∀ b j u, r b j = some u → r' b j = some u) {u : Value} (h : ArgRow r 1 ArgBool u) : ArgRow r' 1 ArgBool u := by
 cases h with
 | nil => exact .nil
 | empty => exact .empty
 | row b off len cap hl hc h =>
  refine .row b off len cap hl hc fun i hi => ?_
  obtain ⟨u, h1, h2⟩ := h i hi
  exact ⟨u, hle _ _ _ h1, h2⟩
def TameK (r : Mem) (L : Value) : Prop := ∀ r', (∀ b j u, r b j = some u → r' b j = some u) → SOkG Tryz.prog r' 7 [L] emptyA fun v A r1 => Mem.le r' r1 ∧ A = mkA [] ∧ OrdM r1 v
theorem tameK_n {r : Mem} : TameK r nilT := fun r' _ => zt_nil
theorem tameK_r {r : Mem} {b off n cap : Nat} (hl : n ≤ cap) (h : ∀ i, i < cap * 1 → ∃ u, r b (off + i) = some u ∧ ArgRow r 1 ArgBool u) : TameK r (RS b off n cap) := fun r' hle => by
 by_cases n0 : n = 0
 ·subst n0
  exact zt_emp
 ·refine zt_ok (by omega) fun i hi => ?_
  obtain ⟨u, h1, h2⟩ := h i (by omega)
  exact ⟨u, hle _ _ _ h1, ArgRow.moreT hle h2⟩
noncomputable def eVv (a0 : List Value) (v : Value) : Ent := ent (fun args _ => m_svv args a0) fun _ _ => v
theorem eVv_ok {r : Mem} {f : Nat} {a0 : List Value} {v : Value} (ha : roVs a0 = true) (h : GrT Tryz.prog r f a0 v) : EOk (SC r) f (eVv a0 v) := EOk.ent fun args A hgd => by
 have hs := @of_decide_eq_true _ (Classical.propDecidable _) hgd
 subst hs
 exact h.ro ha A
section
variable {r : Mem} {f m n : Nat} {L : Value} {c0 c1 c2 : Code} {p : Nat}
theorem tame_law (hbody : bodyOf S0 f = .seq c0 (.seq c1 c2)) (hb : hasBody (SC r) f = true) (hnt : ntm (SC r) f = n) (hrs : resOf (SC r) f = [.tmp 2]) (hle : Nat.ble [L].length n = true) (hL : ∀ b o, frzV 0 b o L = some L)
  (hA : ∀ (fs : FnsC) (K : KO) (kx : Nat → KS) (kr : KS), run (SC r) m n 1 c0 fs none (rbK 0 [0] [] K) kx kr (sc0 m [L]) (tr0 m [L]) [] emptyA = K [some L] [] [])
  (hB : ∀ (fs : FnsC) (K : KS), preK (SC r) m n c1 1 fs K [] (bT [0] [some L] .nil) [] (mkA []) = K [(p, L)] (bT [0] [some L] .nil) [] (mkA []))
  (hY : callAtG (SC r) m c1 1 ⟨[(p, L)], bT [0] [some L] .nil⟩ (mkA []) = some (7, [L], emptyA))
  (hC : ∀ (r : Mem) (bp op k : Nat) (fs : FnsC) (K : KO), tailK (SC r) m n c1 1 fs (rbK 0 [3] [] K) (RS bp op k 0) [(p, L)] (bT [0] [some L] .nil) [] (mkA []) = K [some (RS bp op k 0)] [] [])
  (hfin : ∀ r1, finish (Cfg.sym Tryz.prog r1) m [.tmp 2] (St.of [2] [some (.bool true)] [] []) = .ret (.bool true) (mkA []))
  (htm : TameK r L)
  (hD : ∀ (r2 : Mem) (bp op : Nat) (T : List (List Bool)) (γ : Gam) (W : World) (F : Fence) (kk : Nat), Wide F → RoRel γ none F.round → (∀ i, 0 ≤ i → γ i = none) → TabM r2 bp op T → ckO T = true → Mem.le r r2 → ReachG Tryz.prog m n F kk γ W c2 r2 (St.of [3] [some (RS bp op T.length 0)] [] []) (CanG Tryz.prog m n γ W ⟨[2], fun r1 vs ms os => vs = [some (.bool true)] ∧ ms = [] ∧ os = []⟩ (fun _ => OutsG.no) ⟨[2], fun r1 vs ms os => vs = [some (.bool true)] ∧ ms = [] ∧ os = []⟩)) : GrT Tryz.prog r f [L] (.bool true) := by
 refine SOkG.grT rfl rfl (S := fun _ _ _ => True) (callOG SC_ok hb ((bodySC r _).trans hbody) (nt := n) hnt (rs := [.tmp 2]) hrs m hle ⟨[2], fun r1 vs ms os => vs = [some (.bool true)] ∧ ms = [] ∧ os = []⟩ ?_ fun γ W F kk hwr hF hro h0' => ?_)
 ·rintro r1 vs ms os ⟨rfl, rfl, rfl⟩
  exact ⟨_, mkA [], hfin r1, rfl⟩
 have h0' : ∀ i, 0 ≤ i → γ i = none := h0'
 refine ReachG.seqC (o1 := ⟨[0], fun r1 vs ms os => r1 = r ∧ vs = [some L] ∧ ms = [] ∧ os = []⟩) (ReachG.segR (SC_ok r) TOk.nil (tm := .nil) (L := 1) (L' := 1) (d := 1) (n0 := 0) hF hro h0' [] (on := ⟨[0], [], fun vs ms os => vs = [some L] ∧ ms = [] ∧ os = []⟩) (ox := fun _ => Outs.no) (orr := Outs.no) (fun p hp => nomatch hp) ((hA _ _ _ _).trans (qq_ok ⟨rfl, rfl, rfl⟩)) (fun vs ms os h => IsG.here ⟨rfl, h⟩) (fun _ _ _ _ h => h.elim) (fun _ _ _ h => h.elim)) fun r1 vs ms os hq => ?_
 obtain ⟨rfl, rfl, rfl, rfl⟩ := hq
 refine ReachG.seqC (o1 := ⟨[3], fun r2 vs ms os => ∃ bp op T, TabM r2 bp op T ∧ ckO T = true ∧ Mem.le r1 r2 ∧ vs = [some (RS bp op T.length 0)] ∧ ms = [] ∧ os = []⟩) (ReachG.callC (fl := []) SC_ok hF h0' TOk.nil (tm := .nil) (L := 1) (d := 1) 1 (s1 := [(p, L)]) (b1 := bT [0] [some L] .nil) (ms1 := []) (A1 := mkA []) (A2 := emptyA) (i := 7) (args := [L]) ((hB _ _).trans (qn_ok rfl)) hY (htm r1 fun _ _ _ h => h) ?_) fun r2 vs ms os hq => ?_
 ·rintro v A' r2 ⟨hle, rfl, bp, op, T, rfl, hT1, hT14, hTM, hck⟩
  exact ⟨fun _ => none, TOk.nil, .nil, 1, 1, (hC r2 bp op T.length _ _).trans (qq_ok ⟨bp, op, T, hTM, hck, hle, rfl, rfl, rfl⟩)⟩
 obtain ⟨bp, op, T, hTM, hck, hle2, rfl, rfl, rfl⟩ := hq
 exact hD r2 bp op T γ W F kk hF hro h0' hTM hck hle2
end
end Go.Proofs
namespace Go.Proofs
open Go Go.Ev Go.Num
noncomputable def tTw (m : Nat) (w a : Nat → Nat) (v : Value) : Tbl := tcons 35 (eVv [.agg ⟨orC m w a⟩] v) fun _ => none
noncomputable def tTt (s : Value) (m : Nat) (w a : Nat → Nat) (v : Value) : Tbl := tcons 31 (eRd s m w a) (tTw m w a v)
noncomputable def eN2 (a0 : List Value) (k : Nat) (c : List Value) : Ent := ⟨fun args _ => m_svv args a0, fun _ _ => true, fun _ A => .slice (some ⟨A.next, 0, none⟩) k k, fun _ A => A.new (.cells c 71 A.next 2), fun _ _ => undef, fun _ A => A⟩
noncomputable def tIn0 (s : Value) (m : Nat) (w a : Nat → Nat) : Tbl := tcons 31 (eRd s m w a) (tcons 33 (eVv [.agg ⟨orC m w a⟩] (.bool false)) fun _ => none)
noncomputable def tIn1 (s : Value) (m : Nat) (w a : Nat → Nat) (c : List Value) : Tbl := tcons 31 (eRd s m w a) (tcons 33 (eVv [.agg ⟨orC m w a⟩] (.bool true)) (tcons 34 (eN2 [.agg ⟨orC m w a⟩] m c) fun _ => none))
theorem hiA (r : Mem) (m : Nat) (w a : Nat → Nat) (x : Nat → Int) (v : Bool) : (lvlT (SC r) (tTw m w a (.tuple ⟨[x4 x, .bool v]⟩)) .nil 1 2).call 33 [.agg ⟨orC m w a⟩] emptyA fin =
    bif m_svv [.agg ⟨(orC m w a)⟩] [.agg ⟨(orC m w a)⟩] then bif v then .ret (.bool false) (AW.mk 0 .nil .nil) else .ret (.bool true) (AW.mk 0 .nil .nil) else F4 := by kernel_rfl
theorem ttA (r : Mem) (b off n cap m : Nat) (w a : Nat → Nat) (x : Nat → Int) (v : Bool) : (lvlT (SC r) (tTt (RS b off n cap) m w a (.tuple ⟨[x4 x, .bool v]⟩)) .nil 1 2).call 10 [RS b off n cap] emptyA fin =
    bif m_svv [.slice (some ⟨b, off, some 0⟩) n cap] [.slice (some ⟨b, off, some 0⟩) n cap] then bif m_svv [.agg ⟨(orC m w a)⟩] [.agg ⟨(orC m w a)⟩] then bif v then .ret (.tuple ⟨[.agg ⟨[I (x 0), I (x 1), I (x 2), I (x 3)]⟩, .bool true, I (Int.ofNat 0)]⟩) (AW.mk 0 .nil .nil) else .ret (.tuple ⟨[.agg ⟨[I (x 0), I (x 1), I (x 2), I (x 3)]⟩, .bool false, I (Int.ofNat 0)]⟩) (AW.mk 0 .nil .nil) else F4 else F4 := by kernel_rfl
theorem inA (r : Mem) (b off n cap m : Nat) (w a : Nat → Nat) : (lvlT (SC r) (tIn0 (RS b off n cap) m w a) .nil 1 2).call 9 [RS b off n cap] emptyA fin =
    bif m_svv [.slice (some ⟨b, off, some 0⟩) n cap] [.slice (some ⟨b, off, some 0⟩) n cap] then bif m_svv [.agg ⟨(orC m w a)⟩] [.agg ⟨(orC m w a)⟩] then .ret (.tuple ⟨[.slice none 0 0, I (Int.ofNat 4)]⟩) (AW.mk 0 .nil .nil) else F4 else F4 := by kernel_rfl
theorem inB (r : Mem) (b off n cap m : Nat) (w a : Nat → Nat) (c : List Value) (K : Value → AW → CR) : (lvlT (SC r) (tIn1 (RS b off n cap) m w a c) .nil 1 2).call 9 [RS b off n cap] emptyA K =
    bif m_svv [.slice (some ⟨b, off, some 0⟩) n cap] [.slice (some ⟨b, off, some 0⟩) n cap] then bif m_svv [.agg ⟨(orC m w a)⟩] [.agg ⟨(orC m w a)⟩] then bif m_svv [.agg ⟨(orC m w a)⟩] [.agg ⟨(orC m w a)⟩] then K (.tuple ⟨[.slice (some ⟨1, 0, none⟩) m m, I (Int.ofNat 0)]⟩) (AW.mk 2 (.node (.node .nil (some (.cells c 71 1 2)) .nil) (some (.cells (orC m w a) 59 0 0)) .nil) .nil) else F4 else F4 else F4 := by kernel_rfl
section
variable {r : Mem} {b off n cap : Nat} {T : List (List Bool)}
theorem clW_lt (hn : T.length ≤ 12) : ∀ j, clW T j < 4096 := fun j => lt12 hn (clO_lt T j T.length)
theorem hi_ok (hmt : ∀ b j u, tabM b j = some u → r b j = some u) {m : Nat} {w a : Nat → Nat} (hw : ∀ j, w j < 4096) (h1 : 1 ≤ m) (hm : m ≤ 12) : GrT Tryz.prog r 33 [.agg ⟨orC m w a⟩] (.bool (!(twO w m).isSome)) := by
 have h := tw_okS (a := a) hmt hw h1 hm
 generalize (twO w m).isSome = v at h
 refine GrT.of (SC_ok r) (t := tTw m w a (.tuple ⟨[x4 (twV w m), .bool v]⟩)) (TOk.nil.cons (eVv_ok rfl h)) .nil rfl ⟨1, 2, ?_⟩
 have hn' := hiA r m w a (twV w m) v
 simp only [svv_rfl, cond_true] at hn'
 refine hn'.trans ?_
 cases v <;> rfl
theorem tt_ok (hmt : ∀ b j u, tabM b j = some u → r b j = some u) (hM : TabM r b off T) (hn : T.length = n) (hc : ckO T = true) : GrT Tryz.prog r 10 [RS b off n cap] (.tuple ⟨[x4 (twV (clW T) n), .bool (twO (clW T) n).isSome, I 0]⟩) := by
 have hl := ck_len hc
 have h := tw_okS (a := wA T n 0) hmt (clW_lt hl.2) (show 1 ≤ n by omega) (show n ≤ 12 by omega)
 generalize (twO (clW T) n).isSome = v at h
 refine GrT.of (SC_ok r) (t := tTt (RS b off n cap) n (clW T) (wA T n 0) (.tuple ⟨[x4 (twV (clW T) n), .bool v]⟩)) ((TOk.nil.cons (eVv_ok rfl h)).cons (eRd_okS hmt hM hn hc)) .nil rfl ⟨1, 2, ?_⟩
 have hn' := ttA r b off n cap n (clW T) (wA T n 0) (twV (clW T) n) v
 simp only [svv_rfl, cond_true] at hn'
 refine hn'.trans ?_
 cases v <;> rfl
theorem in_no (hmt : ∀ b j u, tabM b j = some u → r b j = some u) (hM : TabM r b off T) (hn : T.length = n) (hc : ckO T = true) (h2 : (twO (clW T) n).isSome = true) : GrT Tryz.prog r 9 [RS b off n cap] (.tuple ⟨[nilT, I 4]⟩) := by
 have hl := ck_len hc
 have h := hi_ok (a := wA T n 0) hmt (clW_lt hl.2) (show 1 ≤ n by omega) (show n ≤ 12 by omega)
 rw [h2] at h
 refine GrT.of (SC_ok r) (t := tIn0 (RS b off n cap) n (clW T) (wA T n 0)) ((TOk.nil.cons (eVv_ok rfl h)).cons (eRd_okS hmt hM hn hc)) .nil rfl ⟨1, 2, ?_⟩
 have hn' := inA r b off n cap n (clW T) (wA T n 0)
 simp only [svv_rfl, cond_true] at hn'
 exact hn'.trans rfl
theorem eN2_ok {f k : Nat} {a0 : List Value} {c : List Value} (ha0 : roVs a0 = true) (hgc : gnds c = true) (h : SOk (SC r) f a0 emptyA fun v A => v = gy 0 k ∧ A = mkA [oP2 c 0]) : EOk (SC r) f (eN2 a0 k c) := fun args A hgd F hF kk γ W args' hw hR ha => by
 refine ⟨fun hcc => ?_, fun h => nomatch h⟩
 have hs := @of_decide_eq_true _ (Classical.propDecidable _) hgd
 subst hs
 have hg : GrM Tryz.prog r f args (gy 0 k) (rowA c 71 2) := GrM.ofS (C := SC r) rfl rfl h
 have hof : ofV 0 (gy 0 k) = true := by simp [ofV, of1]
 exact hg.ends (γ := γ) (A := A) hof hgc hF hw (hR.noG noG fun _ => rfl) (ha.of_ros ha0) ha
theorem in_yes (hmt : ∀ b j u, tabM b j = some u → r b j = some u) (hM : TabM r b off T) (hn : T.length = n) (hc : ckO T = true) (h2 : (twO (clW T) n).isSome = false) : GrM Tryz.prog r 9 [RS b off n cap] (.tuple ⟨[gy 0 n, I 0]⟩) (rowA (ixN (ciZ (clW T) n) (2 * n)) 71 2) := by
 have hl := ck_len hc
 have h := hi_ok (a := wA T n 0) hmt (clW_lt hl.2) (show 1 ≤ n by omega) (show n ≤ 12 by omega)
 rw [h2] at h
 have hi := iv_S (r := r) (a := wA T n 0) (clW_lt hl.2) (show 1 ≤ n by omega) (show n ≤ 12 by omega)
 exact GrM.of (SC_ok r) (t := tIn1 (RS b off n cap) n (clW T) (wA T n 0) (ixN (ciZ (clW T) n) (2 * n))) (((TOk.nil.cons (eN2_ok rfl (ix_gnd _ _) hi)).cons (eVv_ok rfl h)).cons (eRd_okS hmt hM hn hc)) .nil ⟨1, 2, by
  rw [inB]
  simp only [svv_rfl, cond_true]
  unfold finM rowOf rowsOf row1
  have hb : Nat.beq n 0 = false := natFx (by omega)
  have hg : gnds (ixN (ciZ (clW T) n) (2 * n)) = true := ix_gnd _ _
  simp only [hb, Bool.and_false]
  show guardK (gnds (ixN (ciZ (clW T) n) (2 * n))) _ = _
  rw [hg]
  rfl⟩
end
end Go.Proofs
namespace Go.Proofs
open Go Go.Ev Go.Num
theorem twJ_no {w : Nat → Nat} {b : Nat} : ∀ {k : Nat}, twJ w b k = none → ∀ d, d < k → twI w b d = false
 | k + 1, h, d, hd => by
  rw [twJ] at h
  cases q : twJ w b k with
  | some e => rw [q] at h; cases h
  | none =>
   rw [q] at h
   by_cases c : d = k
   ·subst c
    cases q2 : twI w b d with
    | false => rfl
    | true => simp only [q2, cond_true] at h; cases h
   ·exact twJ_no q d (by omega)
theorem twO_no {w : Nat → Nat} : ∀ {n : Nat}, twO w n = none → ∀ b d, b < n → d < b → twI w b d = false
 | n + 1, h, b, d, hb, hd => by
  rw [twO] at h
  cases q : twO w n with
  | some e => rw [q] at h; cases h
  | none =>
   rw [q] at h
   by_cases c : b = n
   ·subst c
    cases q2 : twJ w b b with
    | some e => simp only [q2] at h; cases h
    | none => exact twJ_no q2 d hd
   ·exact twO_no q b d (by omega) hd
theorem twJ_yes {w : Nat → Nat} {b d : Nat} : ∀ {k : Nat}, twJ w b k = some d → d < k ∧ twI w b d = true
 | k + 1, h => by
  rw [twJ] at h
  cases q : twJ w b k with
  | some e =>
   rw [q] at h
   cases h
   have := twJ_yes q
   exact ⟨by omega, this.2⟩
  | none =>
   rw [q] at h
   cases q2 : twI w b k with
   | false => simp only [q2, cond_false] at h; cases h
   | true =>
    simp only [q2, cond_true] at h
    cases h
    exact ⟨by omega, q2⟩
theorem twO_yes {w : Nat → Nat} {b d : Nat} : ∀ {n : Nat}, twO w n = some (b, d) → b < n ∧ d < b ∧ twI w b d = true
 | n + 1, h => by
  rw [twO] at h
  cases q : twO w n with
  | some e =>
   rw [q] at h
   cases h
   have := twO_yes q
   exact ⟨by omega, this.2⟩
  | none =>
   rw [q] at h
   cases q2 : twJ w n n with
   | none => simp only [q2] at h; cases h
   | some e =>
    simp only [q2] at h
    cases h
    have := twJ_yes q2
    exact ⟨by omega, this⟩
theorem anN_ne {a b : Nat} (h : anN a b = 0) (i : Nat) (ha : a.testBit i = true) : b.testBit i = true := in_bit.1 (an_zero.1 h) i ha
section
variable {T : List (List Bool)}
theorem clW_b {x y : Nat} (hx : x < T.length) : (clW T y).testBit x = gT T x y := by rw [clW_bit, dT hx, Bool.true_and]
theorem clW_t {x y : Nat} (h : (clW T y).testBit x = true) : x < T.length ∧ gT T x y = true := by
 rw [clW_bit, Bool.and_eq_true, decide_eq_true_eq] at h
 exact h
theorem twI_of {a b c d : Nat} (h1 : gT T a b = true) (h2 : gT T c d = true) (h3 : gT T a d = false) (h4 : gT T c b = false) (ha : a < T.length) (hc : c < T.length) : twI (clW T) b d = true := by
 unfold twI
 rw [beq_ne, beq_ne, Bool.and_eq_true, decide_eq_true_eq, decide_eq_true_eq]
 refine ⟨fun h => ?_, fun h => ?_⟩
 ·have := anN_ne h a (by rw [clW_b ha]; exact h1)
  rw [clW_b ha, h3] at this
  cases this
 ·have := anN_ne h c (by rw [clW_b hc]; exact h2)
  rw [clW_b hc, h4] at this
  cases this
end
end Go.Proofs
namespace Go.Proofs
open Go Go.Ev Go.Num
noncomputable def m_bf (m : Nat) (w a : Nat → Nat) (o : Value) (y z : Int) : Bool := @decide (o = .agg ⟨orC m w a⟩ ∧ 0 ≤ y ∧ y < 12 ∧ 0 ≤ z ∧ z < 12) (Classical.propDecidable _)
noncomputable def m_bv (w : Nat → Nat) (y z : Int) : Bool := (w z.toNat).testBit y.toNat
noncomputable def eBf (m : Nat) (w a : Nat → Nat) : Ent := ent (fun args _ => match args with
 | [o, .int .i64 y, .int .i64 z] => m_bf m w a o y z
 | _ => false) fun args _ => match args with
 | [_, .int .i64 y, .int .i64 z] => .bool (m_bv w y z)
 | _ => undef
noncomputable def m_ov (s o : Value) (n : Nat) (y z : Int) : Bool := @decide (o = s ∧ 0 ≤ y ∧ y < n ∧ 0 ≤ z ∧ z < n) (Classical.propDecidable _)
noncomputable def m_ovv (T : List (List Bool)) (y z : Int) : Bool := decide (y ≠ z) && (!gT T y.toNat z.toNat && !gT T z.toNat y.toNat)
noncomputable def eOv (s : Value) (n : Nat) (T : List (List Bool)) : Ent := ent (fun args _ => match args with
 | [o, .int .i64 y, .int .i64 z] => m_ov s o n y z
 | _ => false) fun args _ => match args with
 | [_, .int .i64 y, .int .i64 z] => .bool (m_ovv T y z)
 | _ => undef
noncomputable def tEl (m : Nat) (w a : Nat → Nat) (x : Nat → Int) (v : Bool) : Tbl := tcons 63 (eV [.agg ⟨orC m w a⟩, x4 x] v) (tcons 64 (eBf m w a) fun _ => none)
noncomputable def tIn (s : Value) (n : Nat) (T : List (List Bool)) (x : Nat → Int) (v : Bool) : Tbl := tcons 37 (eV [s, x4 x] v) (tcons 28 (eOv s n T) fun _ => none)
noncomputable def tSh (s : Value) (m : Nat) (w a : Nat → Nat) (x : Nat → Int) (u v : Bool) : Tbl := tcons 31 (eRd s m w a) (tcons 38 (eV [.agg ⟨orC m w a⟩, x4 x] u) (tcons 49 (eV [.agg ⟨orC m w a⟩, x4 x] v) fun _ => none))
noncomputable def m_og (m : Nat) (w a : Nat → Nat) (o : Value) (y : Int) : Bool := @decide (o = .agg ⟨orC m w a⟩ ∧ 0 ≤ y ∧ y < m) (Classical.propDecidable _)
noncomputable def m_ow (s : Nat → Nat) (y : Int) : Int := ((s y.toNat : Nat) : Int)
noncomputable def eOg (m : Nat) (w a s : Nat → Nat) : Ent := ent (fun args _ => match args with
 | [o, .int .i64 y] => m_og m w a o y
 | _ => false) fun args _ => match args with
 | [_, .int .i64 y] => V (m_ow s y)
 | _ => undef
noncomputable def eAl (m : Nat) (w a : Nat → Nat) (q : Nat) : Ent := ent (fun args _ => m_svv args [.agg ⟨orC m w a⟩]) fun _ _ => V ((q : Nat) : Int)
noncomputable def tAll (m : Nat) (w a : Nat → Nat) (q : Nat) : Tbl := tcons 94 (eAl m w a q) fun _ => none
noncomputable def tEh (m : Nat) (w a s : Nat → Nat) (q : Nat) (x : Nat → Int) : Tbl := tcons 95 (eOg m w a s) (tcons 94 (eAl m w a q) (tEl m w a x true))
def qe (y : Nat → Nat) (i : Nat) : Bool := m_eqv (I (Int.ofNat (y i))) (I (Int.ofNat (y i)))
theorem juB (r : Mem) (m : Nat) (w a : Nat → Nat) (y z : Nat) : (lvlT (SC r) (fun _ => none) .nil 2 3).call 64 [.agg ⟨orC m w a⟩, I (y : Nat), I (z : Nat)] emptyA fin =
    bif Nat.blt (Int.toNat (Int.ofNat z)) 12 then Option.casesOn (orC m w a)[Nat.add 1 (Nat.mul (Int.toNat (Int.ofNat z)) 1)]? (.fail 423) fun val => bif isI IntKind.u16 val then bif ibits BinOp.and IntKind.u16 (Int.fdiv (ofI val) (Int.ofNat 2 ^ min (Int.toNat (Int.ofNat y)) 16)) (Int.ofNat 1) == Int.ofNat 1 then .ret (.bool true) (AW.mk 0 .nil .nil) else .ret (.bool false) (AW.mk 0 .nil .nil) else F4 else F4 := by kernel_rfl
theorem juE (r : Mem) (m : Nat) (w a : Nat → Nat) (x : Nat → Int) : (lvlT (SC r) (fun _ => none) .nil 6 8).call 63 [.agg ⟨orC m w a⟩, x4 x] emptyA fin =
    bif decide (x 0 ≥ 0) then bif decide (x 0 < Int.ofNat m) then bif decide (x 1 ≥ 0) then bif decide (x 1 < Int.ofNat m) then bif decide (x 2 ≥ 0) then bif decide (x 2 < Int.ofNat m) then bif decide (x 3 ≥ 0) then bif decide (x 3 < Int.ofNat m) then .ret (.bool true) (AW.mk 0 .nil .nil) else .ret (.bool false) (AW.mk 0 .nil .nil) else .ret (.bool false) (AW.mk 0 .nil .nil) else .ret (.bool false) (AW.mk 0 .nil .nil) else .ret (.bool false) (AW.mk 0 .nil .nil) else .ret (.bool false) (AW.mk 0 .nil .nil) else .ret (.bool false) (AW.mk 0 .nil .nil) else .ret (.bool false) (AW.mk 0 .nil .nil) else .ret (.bool false) (AW.mk 0 .nil .nil) := by kernel_rfl
theorem juI (r : Mem) (b off n cap : Nat) (x : Nat → Int) : (lvlT (SC r) (fun _ => none) .nil 6 8).call 37 [RS b off n cap, x4 x] emptyA fin =
    bif decide (x 0 < 0) then .ret (.bool false) (AW.mk 0 .nil .nil) else bif decide (x 0 ≥ Int.ofNat n) then .ret (.bool false) (AW.mk 0 .nil .nil) else bif decide (x 1 < 0) then .ret (.bool false) (AW.mk 0 .nil .nil) else bif decide (x 1 ≥ Int.ofNat n) then .ret (.bool false) (AW.mk 0 .nil .nil) else bif decide (x 2 < 0) then .ret (.bool false) (AW.mk 0 .nil .nil) else bif decide (x 2 ≥ Int.ofNat n) then .ret (.bool false) (AW.mk 0 .nil .nil) else bif decide (x 3 < 0) then .ret (.bool false) (AW.mk 0 .nil .nil) else bif decide (x 3 ≥ Int.ofNat n) then .ret (.bool false) (AW.mk 0 .nil .nil) else .ret (.bool true) (AW.mk 0 .nil .nil) := by kernel_rfl
theorem juT (r : Mem) (m : Nat) (w a : Nat → Nat) (x : Nat → Int) : (lvlT (SC r) (tEl m w a x true) .nil 2 3).call 38 [.agg ⟨orC m w a⟩, x4 x] emptyA fin =
    bif m_svv [.agg ⟨(orC m w a)⟩, .agg ⟨[I (x 0), I (x 1), I (x 2), I (x 3)]⟩] [.agg ⟨(orC m w a)⟩, .agg ⟨[I (x 0), I (x 1), I (x 2), I (x 3)]⟩] then bif m_bf m w a (.agg ⟨(orC m w a)⟩) (x 0) (x 1) then bif m_bv w (x 0) (x 1) then bif m_bf m w a (.agg ⟨(orC m w a)⟩) (x 2) (x 3) then bif m_bv w (x 2) (x 3) then bif m_bf m w a (.agg ⟨(orC m w a)⟩) (x 0) (x 3) then bif m_bv w (x 0) (x 3) then .ret (.bool false) (AW.mk 0 .nil .nil) else bif m_bf m w a (.agg ⟨(orC m w a)⟩) (x 2) (x 1) then bif m_bv w (x 2) (x 1) then .ret (.bool false) (AW.mk 0 .nil .nil) else .ret (.bool true) (AW.mk 0 .nil .nil) else F4 else F4 else .ret (.bool false) (AW.mk 0 .nil .nil) else F4 else .ret (.bool false) (AW.mk 0 .nil .nil) else F4 else F4 := by kernel_rfl
theorem juTf (r : Mem) (m : Nat) (w a : Nat → Nat) (x : Nat → Int) : (lvlT (SC r) (tEl m w a x false) .nil 2 3).call 38 [.agg ⟨orC m w a⟩, x4 x] emptyA fin =
    bif m_svv [.agg ⟨(orC m w a)⟩, .agg ⟨[I (x 0), I (x 1), I (x 2), I (x 3)]⟩] [.agg ⟨(orC m w a)⟩, .agg ⟨[I (x 0), I (x 1), I (x 2), I (x 3)]⟩] then .ret (.bool false) (AW.mk 0 .nil .nil) else F4 := by kernel_rfl
theorem juH (r : Mem) (m : Nat) (w a s : Nat → Nat) (q : Nat) (y : Nat → Nat) : (lvlT (SC r) (tEh m w a s q (fun i => (y i : Nat))) .nil 6 8).call 49 [.agg ⟨orC m w a⟩, x4 fun i => (y i : Nat)] emptyA fin =
    bif m_svv [.agg ⟨(orC m w a)⟩, .agg ⟨[I (Int.ofNat (y 0)), I (Int.ofNat (y 1)), I (Int.ofNat (y 2)), I (Int.ofNat (y 3))]⟩] [.agg ⟨(orC m w a)⟩, .agg ⟨[I (Int.ofNat (y 0)), I (Int.ofNat (y 1)), I (Int.ofNat (y 2)), I (Int.ofNat (y 3))]⟩] then bif m_bf m w a (.agg ⟨(orC m w a)⟩) (Int.ofNat (y 0)) (Int.ofNat (y 1)) then bif m_bv w (Int.ofNat (y 0)) (Int.ofNat (y 1)) then bif m_bf m w a (.agg ⟨(orC m w a)⟩) (Int.ofNat (y 1)) (Int.ofNat (y 2)) then bif m_bv w (Int.ofNat (y 1)) (Int.ofNat (y 2)) then bif m_svv [.agg ⟨(orC m w a)⟩] [.agg ⟨(orC m w a)⟩] then bif m_og m w a (.agg ⟨(orC m w a)⟩) (Int.ofNat (y 0)) then bif m_og m w a (.agg ⟨(orC m w a)⟩) (Int.ofNat (y 1)) then bif m_og m w a (.agg ⟨(orC m w a)⟩) (Int.ofNat (y 2)) then bif ibits BinOp.and IntKind.u16 (Int.fdiv (ibits BinOp.and IntKind.u16 (ibits BinOp.and IntKind.u16 (ibits BinOp.and IntKind.u16 (Int.ofNat q) (m_ow s (Int.ofNat (y 0)))) (m_ow s (Int.ofNat (y 1)))) (m_ow s (Int.ofNat (y 2)))) (Int.ofNat 2 ^ min (Int.toNat (Int.ofNat (y 3))) 16)) (Int.ofNat 1) == Int.ofNat 1 then .ret (.bool true) (AW.mk 0 .nil .nil) else .ret (.bool false) (AW.mk 0 .nil .nil) else F4 else F4 else F4 else F4 else .ret (.bool false) (AW.mk 0 .nil .nil) else F4 else .ret (.bool false) (AW.mk 0 .nil .nil) else F4 else F4 := by kernel_rfl
theorem juHf (r : Mem) (m : Nat) (w a : Nat → Nat) (x : Nat → Int) : (lvlT (SC r) (tEl m w a x false) .nil 2 3).call 49 [.agg ⟨orC m w a⟩, x4 x] emptyA fin =
    bif m_svv [.agg ⟨(orC m w a)⟩, .agg ⟨[I (x 0), I (x 1), I (x 2), I (x 3)]⟩] [.agg ⟨(orC m w a)⟩, .agg ⟨[I (x 0), I (x 1), I (x 2), I (x 3)]⟩] then .ret (.bool false) (AW.mk 0 .nil .nil) else F4 := by kernel_rfl
theorem juS (r : Mem) (b off n cap m : Nat) (w a : Nat → Nat) (x : Nat → Int) (u v : Bool) : (lvlT (SC r) (tSh (RS b off n cap) m w a x u v) .nil 2 3).call 14 [RS b off n cap, x4 x] emptyA fin =
    bif m_svv [.slice (some ⟨b, off, some 0⟩) n cap] [.slice (some ⟨b, off, some 0⟩) n cap] then bif m_svv [.agg ⟨(orC m w a)⟩, .agg ⟨[I (x 0), I (x 1), I (x 2), I (x 3)]⟩] [.agg ⟨(orC m w a)⟩, .agg ⟨[I (x 0), I (x 1), I (x 2), I (x 3)]⟩] then bif u then .ret (.bool true) (AW.mk 0 .nil .nil) else .ret (.bool false) (AW.mk 0 .nil .nil) else F4 else F4 := by kernel_rfl
theorem jrT (r : Mem) (b off n cap : Nat) (y : Nat → Nat) (T : List (List Bool)) : (lvlT (SS r 2) (tIn (RS b off n cap) n T (fun i => (y i : Nat)) true) .nil 2 3).call 13 [RS b off n cap, x4 fun i => (y i : Nat)] emptyA fin =
    bif m_svv [.slice (some ⟨b, off, some 0⟩) n cap, .agg ⟨[I (Int.ofNat (y 0)), I (Int.ofNat (y 1)), I (Int.ofNat (y 2)), I (Int.ofNat (y 3))]⟩] [.slice (some ⟨b, off, some 0⟩) n cap, .agg ⟨[I (Int.ofNat (y 0)), I (Int.ofNat (y 1)), I (Int.ofNat (y 2)), I (Int.ofNat (y 3))]⟩] then bif Nat.blt (Int.toNat (Int.ofNat (y 0))) n then Option.casesOn (r b (Nat.add off (Nat.mul (Int.toNat (Int.ofNat (y 0))) 1))) (.fail 423) fun val => bif isRoS val then bif Nat.blt (Int.toNat (Int.ofNat (y 1))) (lnOf val) then Option.casesOn (r (blkOf val) (Nat.add (offOf val) (Nat.mul (Int.toNat (Int.ofNat (y 1))) 1))) (.fail 423) fun val => bif isB val then bif ofB val then bif Nat.blt (Int.toNat (Int.ofNat (y 2))) n then Option.casesOn (r b (Nat.add off (Nat.mul (Int.toNat (Int.ofNat (y 2))) 1))) (.fail 423) fun val => bif isRoS val then bif Nat.blt (Int.toNat (Int.ofNat (y 3))) (lnOf val) then Option.casesOn (r (blkOf val) (Nat.add (offOf val) (Nat.mul (Int.toNat (Int.ofNat (y 3))) 1))) (.fail 423) fun val => bif isB val then bif ofB val then bif Nat.blt (Int.toNat (Int.ofNat (y 0))) n then Option.casesOn (r b (Nat.add off (Nat.mul (Int.toNat (Int.ofNat (y 0))) 1))) (.fail 423) fun val => bif isRoS val then bif Nat.blt (Int.toNat (Int.ofNat (y 3))) (lnOf val) then Option.casesOn (r (blkOf val) (Nat.add (offOf val) (Nat.mul (Int.toNat (Int.ofNat (y 3))) 1))) (.fail 423) fun val => bif isB val then bif ofB val then bif qe y 3 then bif qe y 0 then bif qe y 3 then bif qe y 2 then bif qe y 1 then bif qe y 0 then bif m_eqv (.agg ⟨[I (Int.ofNat (y 0)), I (Int.ofNat (y 1)), I (Int.ofNat (y 2)), I (Int.ofNat (y 3))]⟩) (.agg ⟨[I (Int.ofNat (y 0)), I (Int.ofNat (y 1)), I (Int.ofNat (y 2)), I (Int.ofNat (y 3))]⟩) then .ret (.bool false) (AW.mk 0 .nil .nil) else F4 else F4 else F4 else F4 else F4 else F4 else F4 else bif Nat.blt (Int.toNat (Int.ofNat (y 2))) n then Option.casesOn (r b (Nat.add off (Nat.mul (Int.toNat (Int.ofNat (y 2))) 1))) (.fail 423) fun val => bif isRoS val then bif Nat.blt (Int.toNat (Int.ofNat (y 1))) (lnOf val) then Option.casesOn (r (blkOf val) (Nat.add (offOf val) (Nat.mul (Int.toNat (Int.ofNat (y 1))) 1))) (.fail 423) fun val => bif isB val then bif ofB val then bif qe y 1 then bif qe y 2 then bif qe y 3 then bif qe y 0 then bif qe y 3 then bif qe y 2 then bif qe y 1 then bif qe y 0 then bif m_eqv (.agg ⟨[I (Int.ofNat (y 0)), I (Int.ofNat (y 1)), I (Int.ofNat (y 2)), I (Int.ofNat (y 3))]⟩) (.agg ⟨[I (Int.ofNat (y 0)), I (Int.ofNat (y 1)), I (Int.ofNat (y 2)), I (Int.ofNat (y 3))]⟩) then .ret (.bool false) (AW.mk 0 .nil .nil) else F4 else F4 else F4 else F4 else F4 else F4 else F4 else F4 else F4 else bif qe y 1 then bif qe y 2 then bif qe y 3 then bif qe y 0 then bif qe y 3 then bif qe y 2 then bif qe y 1 then bif qe y 0 then bif m_eqv (.agg ⟨[I (Int.ofNat (y 0)), I (Int.ofNat (y 1)), I (Int.ofNat (y 2)), I (Int.ofNat (y 3))]⟩) (.agg ⟨[I (Int.ofNat (y 0)), I (Int.ofNat (y 1)), I (Int.ofNat (y 2)), I (Int.ofNat (y 3))]⟩) then .ret (.bool true) (AW.mk 0 .nil .nil) else F4 else F4 else F4 else F4 else F4 else F4 else F4 else F4 else F4 else F4 else F4 else F4 else F4 else F4 else F4 else F4 else F4 else bif qe y 3 then bif qe y 2 then bif qe y 1 then bif qe y 0 then bif m_eqv (.agg ⟨[I (Int.ofNat (y 0)), I (Int.ofNat (y 1)), I (Int.ofNat (y 2)), I (Int.ofNat (y 3))]⟩) (.agg ⟨[I (Int.ofNat (y 0)), I (Int.ofNat (y 1)), I (Int.ofNat (y 2)), I (Int.ofNat (y 3))]⟩) then .ret (.bool false) (AW.mk 0 .nil .nil) else F4 else F4 else F4 else F4 else F4 else F4 else F4 else F4 else F4 else bif qe y 1 then bif qe y 0 then bif m_eqv (.agg ⟨[I (Int.ofNat (y 0)), I (Int.ofNat (y 1)), I (Int.ofNat (y 2)), I (Int.ofNat (y 3))]⟩) (.agg ⟨[I (Int.ofNat (y 0)), I (Int.ofNat (y 1)), I (Int.ofNat (y 2)), I (Int.ofNat (y 3))]⟩) then .ret (.bool false) (AW.mk 0 .nil .nil) else F4 else F4 else F4 else F4 else F4 else F4 else F4 else F4 := by kernel_rfl
theorem jrTf (r : Mem) (b off n cap : Nat) (x : Nat → Int) (T : List (List Bool)) : (lvlT (SC r) (tIn (RS b off n cap) n T x false) .nil 2 3).call 13 [RS b off n cap, x4 x] emptyA fin =
    bif m_svv [.slice (some ⟨b, off, some 0⟩) n cap, .agg ⟨[I (x 0), I (x 1), I (x 2), I (x 3)]⟩] [.slice (some ⟨b, off, some 0⟩) n cap, .agg ⟨[I (x 0), I (x 1), I (x 2), I (x 3)]⟩] then bif m_eqv (.agg ⟨[I (x 0), I (x 1), I (x 2), I (x 3)]⟩) (.agg ⟨[I (x 0), I (x 1), I (x 2), I (x 3)]⟩) then .ret (.bool false) (AW.mk 0 .nil .nil) else F4 else F4 := by kernel_rfl
theorem jrO (r : Mem) (b off n cap : Nat) (y z : Nat) : (lvlT (SS r 2) (fun _ => none) .nil 2 3).call 28 [RS b off n cap, I (y : Nat), I (z : Nat)] emptyA fin =
    bif Int.ofNat y != Int.ofNat z then bif Nat.blt (Int.toNat (Int.ofNat y)) n then Option.casesOn (r b (Nat.add off (Nat.mul (Int.toNat (Int.ofNat y)) 1))) (.fail 423) fun val => bif isRoS val then bif Nat.blt (Int.toNat (Int.ofNat z)) (lnOf val) then Option.casesOn (r (blkOf val) (Nat.add (offOf val) (Nat.mul (Int.toNat (Int.ofNat z)) 1))) (.fail 423) fun val => bif isB val then bif ofB val then .ret (.bool false) (AW.mk 0 .nil .nil) else bif Nat.blt (Int.toNat (Int.ofNat z)) n then Option.casesOn (r b (Nat.add off (Nat.mul (Int.toNat (Int.ofNat z)) 1))) (.fail 423) fun val => bif isRoS val then bif Nat.blt (Int.toNat (Int.ofNat y)) (lnOf val) then Option.casesOn (r (blkOf val) (Nat.add (offOf val) (Nat.mul (Int.toNat (Int.ofNat y)) 1))) (.fail 423) fun val => bif isB val then bif ofB val then .ret (.bool false) (AW.mk 0 .nil .nil) else .ret (.bool true) (AW.mk 0 .nil .nil) else F4 else F4 else F4 else F4 else F4 else F4 else F4 else F4 else .ret (.bool false) (AW.mk 0 .nil .nil) := by kernel_rfl
theorem jrH (r : Mem) (b off n cap : Nat) (y : Nat → Nat) (T : List (List Bool)) : (lvlT (SS r 2) (tIn (RS b off n cap) n T (fun i => (y i : Nat)) true) .nil 2 3).call 21 [RS b off n cap, x4 fun i => (y i : Nat)] emptyA fin =
    bif m_svv [.slice (some ⟨b, off, some 0⟩) n cap, .agg ⟨[I (Int.ofNat (y 0)), I (Int.ofNat (y 1)), I (Int.ofNat (y 2)), I (Int.ofNat (y 3))]⟩] [.slice (some ⟨b, off, some 0⟩) n cap, .agg ⟨[I (Int.ofNat (y 0)), I (Int.ofNat (y 1)), I (Int.ofNat (y 2)), I (Int.ofNat (y 3))]⟩] then bif Nat.blt (Int.toNat (Int.ofNat (y 0))) n then Option.casesOn (r b (Nat.add off (Nat.mul (Int.toNat (Int.ofNat (y 0))) 1))) (.fail 423) fun val => bif isRoS val then bif Nat.blt (Int.toNat (Int.ofNat (y 1))) (lnOf val) then Option.casesOn (r (blkOf val) (Nat.add (offOf val) (Nat.mul (Int.toNat (Int.ofNat (y 1))) 1))) (.fail 423) fun val => bif isB val then bif ofB val then bif Nat.blt (Int.toNat (Int.ofNat (y 1))) n then Option.casesOn (r b (Nat.add off (Nat.mul (Int.toNat (Int.ofNat (y 1))) 1))) (.fail 423) fun val => bif isRoS val then bif Nat.blt (Int.toNat (Int.ofNat (y 2))) (lnOf val) then Option.casesOn (r (blkOf val) (Nat.add (offOf val) (Nat.mul (Int.toNat (Int.ofNat (y 2))) 1))) (.fail 423) fun val => bif isB val then bif ofB val then bif m_ov (.slice (some ⟨b, off, some 0⟩) n cap) (.slice (some ⟨b, off, some 0⟩) n cap) n (Int.ofNat (y 3)) (Int.ofNat (y 0)) then bif m_ovv T (Int.ofNat (y 3)) (Int.ofNat (y 0)) then bif m_ov (.slice (some ⟨b, off, some 0⟩) n cap) (.slice (some ⟨b, off, some 0⟩) n cap) n (Int.ofNat (y 3)) (Int.ofNat (y 1)) then bif m_ovv T (Int.ofNat (y 3)) (Int.ofNat (y 1)) then bif m_ov (.slice (some ⟨b, off, some 0⟩) n cap) (.slice (some ⟨b, off, some 0⟩) n cap) n (Int.ofNat (y 3)) (Int.ofNat (y 2)) then bif m_ovv T (Int.ofNat (y 3)) (Int.ofNat (y 2)) then bif qe y 2 then bif qe y 3 then bif qe y 1 then bif qe y 3 then bif qe y 0 then bif qe y 3 then bif qe y 2 then bif qe y 1 then bif qe y 1 then bif qe y 0 then bif m_eqv (.agg ⟨[I (Int.ofNat (y 0)), I (Int.ofNat (y 1)), I (Int.ofNat (y 2)), I (Int.ofNat (y 3))]⟩) (.agg ⟨[I (Int.ofNat (y 0)), I (Int.ofNat (y 1)), I (Int.ofNat (y 2)), I (Int.ofNat (y 3))]⟩) then .ret (.bool true) (AW.mk 0 .nil .nil) else F4 else F4 else F4 else F4 else F4 else F4 else F4 else F4 else F4 else F4 else F4 else bif qe y 2 then bif qe y 3 then bif qe y 1 then bif qe y 3 then bif qe y 0 then bif qe y 3 then bif qe y 2 then bif qe y 1 then bif qe y 1 then bif qe y 0 then bif m_eqv (.agg ⟨[I (Int.ofNat (y 0)), I (Int.ofNat (y 1)), I (Int.ofNat (y 2)), I (Int.ofNat (y 3))]⟩) (.agg ⟨[I (Int.ofNat (y 0)), I (Int.ofNat (y 1)), I (Int.ofNat (y 2)), I (Int.ofNat (y 3))]⟩) then .ret (.bool false) (AW.mk 0 .nil .nil) else F4 else F4 else F4 else F4 else F4 else F4 else F4 else F4 else F4 else F4 else F4 else F4 else bif qe y 1 then bif qe y 3 then bif qe y 0 then bif qe y 3 then bif qe y 2 then bif qe y 1 then bif qe y 1 then bif qe y 0 then bif m_eqv (.agg ⟨[I (Int.ofNat (y 0)), I (Int.ofNat (y 1)), I (Int.ofNat (y 2)), I (Int.ofNat (y 3))]⟩) (.agg ⟨[I (Int.ofNat (y 0)), I (Int.ofNat (y 1)), I (Int.ofNat (y 2)), I (Int.ofNat (y 3))]⟩) then .ret (.bool false) (AW.mk 0 .nil .nil) else F4 else F4 else F4 else F4 else F4 else F4 else F4 else F4 else F4 else F4 else bif qe y 0 then bif qe y 3 then bif qe y 2 then bif qe y 1 then bif qe y 1 then bif qe y 0 then bif m_eqv (.agg ⟨[I (Int.ofNat (y 0)), I (Int.ofNat (y 1)), I (Int.ofNat (y 2)), I (Int.ofNat (y 3))]⟩) (.agg ⟨[I (Int.ofNat (y 0)), I (Int.ofNat (y 1)), I (Int.ofNat (y 2)), I (Int.ofNat (y 3))]⟩) then .ret (.bool false) (AW.mk 0 .nil .nil) else F4 else F4 else F4 else F4 else F4 else F4 else F4 else F4 else bif qe y 2 then bif qe y 1 then bif qe y 1 then bif qe y 0 then bif m_eqv (.agg ⟨[I (Int.ofNat (y 0)), I (Int.ofNat (y 1)), I (Int.ofNat (y 2)), I (Int.ofNat (y 3))]⟩) (.agg ⟨[I (Int.ofNat (y 0)), I (Int.ofNat (y 1)), I (Int.ofNat (y 2)), I (Int.ofNat (y 3))]⟩) then .ret (.bool false) (AW.mk 0 .nil .nil) else F4 else F4 else F4 else F4 else F4 else F4 else F4 else F4 else F4 else bif qe y 1 then bif qe y 0 then bif m_eqv (.agg ⟨[I (Int.ofNat (y 0)), I (Int.ofNat (y 1)), I (Int.ofNat (y 2)), I (Int.ofNat (y 3))]⟩) (.agg ⟨[I (Int.ofNat (y 0)), I (Int.ofNat (y 1)), I (Int.ofNat (y 2)), I (Int.ofNat (y 3))]⟩) then .ret (.bool false) (AW.mk 0 .nil .nil) else F4 else F4 else F4 else F4 else F4 else F4 else F4 else F4 := by kernel_rfl
theorem jrHf (r : Mem) (b off n cap : Nat) (x : Nat → Int) (T : List (List Bool)) : (lvlT (SC r) (tIn (RS b off n cap) n T x false) .nil 2 3).call 21 [RS b off n cap, x4 x] emptyA fin =
    bif m_svv [.slice (some ⟨b, off, some 0⟩) n cap, .agg ⟨[I (x 0), I (x 1), I (x 2), I (x 3)]⟩] [.slice (some ⟨b, off, some 0⟩) n cap, .agg ⟨[I (x 0), I (x 1), I (x 2), I (x 3)]⟩] then bif m_eqv (.agg ⟨[I (x 0), I (x 1), I (x 2), I (x 3)]⟩) (.agg ⟨[I (x 0), I (x 1), I (x 2), I (x 3)]⟩) then .ret (.bool false) (AW.mk 0 .nil .nil) else F4 else F4 := by kernel_rfl
theorem jvA (r : Mem) (m : Nat) (w a : Nat → Nat) : (lvlT (SC r) (fun _ => none) .nil 2 3).call 94 [.agg ⟨orC m w a⟩] emptyA fin =
    .ret (.int .u16 (IntKind.wrap .u16 (IntKind.wrap .u16 (Int.ofNat 1 * Int.ofNat 2 ^ min (Int.toNat (Int.ofNat m)) 16) - Int.ofNat 1))) (AW.mk 0 .nil .nil) := by kernel_rfl
theorem jvO (r : Mem) (m : Nat) (w a : Nat → Nat) (q x : Nat) : (lvlT (SC r) (tAll m w a q) .nil 2 3).call 95 [.agg ⟨orC m w a⟩, I (x : Nat)] emptyA fin =
    bif m_svv [.agg ⟨(orC m w a)⟩] [.agg ⟨(orC m w a)⟩] then bif Nat.blt (Int.toNat (Int.ofNat x)) 12 then Option.casesOn (orC m w a)[Nat.add 1 (Nat.mul (Int.toNat (Int.ofNat x)) 1)]? (.fail 423) fun val => bif isI IntKind.u16 val then bif Nat.blt (Int.toNat (Int.ofNat x)) 12 then Option.casesOn (orC m w a)[Nat.add 13 (Nat.mul (Int.toNat (Int.ofNat x)) 1)]? (.fail 423) fun val_1 => bif isI IntKind.u16 val_1 then Option.casesOn (orC m w a)[Nat.add 13 (Nat.mul (Int.toNat (Int.ofNat x)) 1)]? (.fail 423) fun val_2 => bif isI IntKind.u16 val_2 then bif m_eqv (.int .u16 (ofI val_2)) (.int .u16 (ofI val_1)) then Option.casesOn (orC m w a)[Nat.add 13 (Nat.mul (Int.toNat (Int.ofNat x)) 1)]? (.fail 423) fun val_3 => bif isI IntKind.u16 val_3 then bif m_eqv (.int .u16 (ofI val_3)) (.int .u16 (ofI val_1)) then Option.casesOn (orC m w a)[Nat.add 13 (Nat.mul (Int.toNat (Int.ofNat x)) 1)]? (.fail 423) fun val_4 => bif isI IntKind.u16 val_4 then bif m_eqv (.int .u16 (ofI val_4)) (.int .u16 (ofI val_1)) then Option.casesOn (orC m w a)[Nat.add 1 (Nat.mul (Int.toNat (Int.ofNat x)) 1)]? (.fail 423) fun val_5 => bif isI IntKind.u16 val_5 then bif m_eqv (.int .u16 (ofI val_5)) (.int .u16 (ofI val)) then Option.casesOn (orC m w a)[Nat.add 1 (Nat.mul (Int.toNat (Int.ofNat x)) 1)]? (.fail 423) fun val_6 => bif isI IntKind.u16 val_6 then bif m_eqv (.int .u16 (ofI val_6)) (.int .u16 (ofI val)) then Option.casesOn (orC m w a)[Nat.add 1 (Nat.mul (Int.toNat (Int.ofNat x)) 1)]? (.fail 423) fun val_7 => bif isI IntKind.u16 val_7 then bif m_eqv (.int .u16 (ofI val_7)) (.int .u16 (ofI val)) then bif m_eqv (.agg ⟨(orC m w a)⟩) (.agg ⟨(orC m w a)⟩) then .ret (.int .u16 (ibits BinOp.andNot IntKind.u16 (Int.ofNat q) (ibits BinOp.or IntKind.u16 (ibits BinOp.or IntKind.u16 (ofI val) (ofI val_1)) (IntKind.wrap .u16 (Int.ofNat 1 * Int.ofNat 2 ^ min (Int.toNat (Int.ofNat x)) 16))))) (AW.mk 0 .nil .nil) else F4 else F4 else F4 else F4 else F4 else F4 else F4 else F4 else F4 else F4 else F4 else F4 else F4 else F4 else F4 else F4 else F4 else F4 := by kernel_rfl
end Go.Proofs
namespace Go.Proofs
open Go Go.Ev Go.Num
theorem eqv_or (m : Nat) (w a : Nat → Nat) : m_eqv (.agg ⟨orC m w a⟩) (.agg ⟨orC m w a⟩) = true := by
 simp [m_eqv, veq, veqs, orC, List.range, List.range.loop]
theorem eqv_x4 (a b c d : Int) : m_eqv (.agg ⟨[I a, I b, I c, I d]⟩) (.agg ⟨[I a, I b, I c, I d]⟩) = true := by
 simp [m_eqv, veq, veqs]
def insB (n : Nat) (x : Nat → Int) : Bool := decide (0 ≤ x 0 ∧ x 0 < n) && (decide (0 ≤ x 1 ∧ x 1 < n) && (decide (0 ≤ x 2 ∧ x 2 < n) && decide (0 ≤ x 3 ∧ x 3 < n)))
theorem insB_iff {n : Nat} {x : Nat → Int} : insB n x = true ↔ (0 ≤ x 0 ∧ x 0 < n) ∧ (0 ≤ x 1 ∧ x 1 < n) ∧ (0 ≤ x 2 ∧ x 2 < n) ∧ (0 ≤ x 3 ∧ x 3 < n) := by
 unfold insB
 simp only [Bool.and_eq_true, decide_eq_true_eq]
def twB (T : List (List Bool)) (x : Nat → Int) : Bool := insB T.length x && (gT T (x 0).toNat (x 1).toNat && (gT T (x 2).toNat (x 3).toNat && (!gT T (x 0).toNat (x 3).toNat && !gT T (x 2).toNat (x 1).toNat)))
noncomputable def thB (T : List (List Bool)) (x : Nat → Int) : Bool := insB T.length x && (gT T (x 0).toNat (x 1).toNat && (gT T (x 1).toNat (x 2).toNat && (m_ovv T (x 3) (x 0) && (m_ovv T (x 3) (x 1) && m_ovv T (x 3) (x 2)))))
theorem x4_nat {n : Nat} {x : Nat → Int} (h : insB n x = true) : ∃ y : Nat → Nat, x4 x = x4 (fun i => (y i : Nat)) ∧ (∀ i, i < 4 → x i = (y i : Nat)) ∧ ∀ i, i < 4 → y i < n := by
 rw [insB_iff] at h
 have e : ∀ i, i < 4 → 0 ≤ x i ∧ x i < n := fun i hi => by
  match i, hi with
  | 0, _ => exact h.1
  | 1, _ => exact h.2.1
  | 2, _ => exact h.2.2.1
  | 3, _ => exact h.2.2.2
 have e2 : ∀ i, i < 4 → x i = ((x i).toNat : Nat) := fun i hi => by have := e i hi; omega
 refine ⟨fun i => (x i).toNat, ?_, e2, fun i hi => by have := e i hi; show (x i).toNat < n; omega⟩
 unfold x4
 have a0 := e2 0 (by omega)
 have a1 := e2 1 (by omega)
 have a2 := e2 2 (by omega)
 have a3 := e2 3 (by omega)
 show Value.agg ⟨[I (x 0), I (x 1), I (x 2), I (x 3)]⟩ = Value.agg ⟨[I ((x 0).toNat : Nat), I ((x 1).toNat : Nat), I ((x 2).toNat : Nat), I ((x 3).toNat : Nat)]⟩
 rw [← a0, ← a1, ← a2, ← a3]
section
variable {r : Mem} {m : Nat} {w a : Nat → Nat}
def ovW (m : Nat) (w a : Nat → Nat) (x : Nat) : Nat := anN (2 ^ m - 1) ((w x ||| a x) ||| 2 ^ x)
theorem m_lt16 (hm : m ≤ 12) : 2 ^ m - 1 < 4096 := by
 have : 2 ^ m ≤ 2 ^ 12 := Nat.pow_le_pow_right (by decide) hm
 omega
theorem ovW_lt (hm : m ≤ 12) (x : Nat) : ovW m w a x < 4096 := by
 have := m_lt16 hm
 exact an_lt (k := 12) this
theorem bef_ok (hw : ∀ j, w j < 4096) {y z : Nat} (hy : y < 12) (hz : z < 12) : GrT Tryz.prog r 64 [.agg ⟨orC m w a⟩, I (y : Nat), I (z : Nat)] (.bool ((w z).testBit y)) := by
 refine GrT.of (SC_ok r) TOk.nil .nil rfl ⟨2, 3, ?_⟩
 have hn' := juB r m w a y z
 have b1 : Nat.blt z 12 = true := Nat.ble_eq_true_of_le hz
 have g1 : (orC m w a)[Nat.add 1 (Nat.mul z 1)]? = some (V ((w z : Nat) : Int)) := by
  rw [show Nat.add 1 (Nat.mul z 1) = 1 + z by simp]; exact orC_w hz
 have := hw z
 simp only [tnO, b1, g1, isV_V, ofI_V, has_v (show w z < 65536 by omega) (show y ≤ 16 by omega), cond_true] at hn'
 refine hn'.trans ?_
 cases (w z).testBit y <;> rfl
theorem eBf_ok (hw : ∀ j, w j < 4096) : EOk (SC r) 64 (eBf m w a) := EOk.ent fun args A hgd => by
 split at hgd
 ·rename_i o y z
  obtain ⟨rfl, h1, h2, h3, h4⟩ := @of_decide_eq_true _ (Classical.propDecidable _) hgd
  have h := bef_ok (r := r) (m := m) (a := a) hw (y := y.toNat) (z := z.toNat) (by omega) (by omega)
  rw [show ((y.toNat : Nat) : Int) = y by omega, show ((z.toNat : Nat) : Int) = z by omega] at h
  exact h.ro (by rfl) A
 ·cases hgd
theorem all_okJ (hm : m ≤ 12) : GrT Tryz.prog r 94 [.agg ⟨orC m w a⟩] (V ((2 ^ m - 1 : Nat) : Int)) := by
 refine GrT.of (SC_ok r) TOk.nil .nil rfl ⟨2, 3, ?_⟩
 have hn' := jvA r m w a
 have e1 : IntKind.wrap .u16 (((2 ^ m : Nat) : Int) - Int.ofNat 1) = ((2 ^ m - 1 : Nat) : Int) := by
  have h0 : 1 ≤ 2 ^ m := Nat.one_le_two_pow
  have h1 := m_lt16 hm
  have h2 : ((2 ^ m : Nat) : Int) - Int.ofNat 1 = ((2 ^ m - 1 : Nat) : Int) := by
   show ((2 ^ m : Nat) : Int) - 1 = _
   omega
  rw [h2]
  exact wrapV (by omega)
 simp only [tnO, shlV (show m < 16 by omega), e1] at hn'
 exact hn'.trans rfl
theorem eAl_ok (hm : m ≤ 12) : EOk (SC r) 94 (eAl m w a (2 ^ m - 1)) := EOk.ent fun args A hgd => by
 have hs := @of_decide_eq_true _ (Classical.propDecidable _) hgd
 subst hs
 exact (all_okJ hm).ro rfl A
theorem ol_ok (hm : m ≤ 12) (hw : ∀ j, w j < 4096) (ha : ∀ j, a j < 4096) {x : Nat} (hx : x < 12) : GrT Tryz.prog r 95 [.agg ⟨orC m w a⟩, I (x : Nat)] (V ((ovW m w a x : Nat) : Int)) := by
 refine GrT.of (SC_ok r) (t := tAll m w a (2 ^ m - 1)) (TOk.nil.cons (eAl_ok hm)) .nil rfl ⟨2, 3, ?_⟩
 have hn' := jvO r m w a (2 ^ m - 1) x
 have b1 : Nat.blt x 12 = true := Nat.ble_eq_true_of_le hx
 have g1 : (orC m w a)[Nat.add 1 (Nat.mul x 1)]? = some (V ((w x : Nat) : Int)) := by
  rw [show Nat.add 1 (Nat.mul x 1) = 1 + x by simp]; exact orC_w hx
 have g2 : (orC m w a)[Nat.add 13 (Nat.mul x 1)]? = some (V ((a x : Nat) : Int)) := by
  rw [show Nat.add 13 (Nat.mul x 1) = 13 + x by simp]; exact orC_a hx
 have h1 := hw x
 have h2 := ha x
 have h3 := m_lt16 hm
 have h4 : 2 ^ x < 65536 := Nat.pow_lt_pow_right (n := 16) (by decide) (by omega)
 have h5 : w x ||| a x < 65536 := Nat.or_lt_two_pow (n := 16) (by omega) (by omega)
 have h6 : (w x ||| a x) ||| 2 ^ x < 65536 := Nat.or_lt_two_pow (n := 16) h5 h4
 have o1 := (uV (show w x < 65536 by omega) (show a x < 65536 by omega)).1
 have o2 := (uV h5 h4).1
 have o3 := (uV (show 2 ^ m - 1 < 65536 by omega) h6).2.2
 simp only [tnO, b1, g1, g2, svv_rfl, isV_V, ofI_V, eqv_v, cond_true, shlV (show x < 16 by omega), o1, o2, eqv_or] at hn'
 simp only [Int.ofNat_eq_natCast, o3] at hn'
 exact hn'.trans rfl
theorem eOg_ok (hm : m ≤ 12) (hw : ∀ j, w j < 4096) (ha : ∀ j, a j < 4096) : EOk (SC r) 95 (eOg m w a (ovW m w a)) := EOk.ent fun args A hgd => by
 split at hgd
 ·rename_i o y
  obtain ⟨rfl, h1, h2⟩ := @of_decide_eq_true _ (Classical.propDecidable _) hgd
  have h := ol_ok (r := r) hm hw ha (x := y.toNat) (by omega)
  rw [show ((y.toNat : Nat) : Int) = y by omega] at h
  exact h.ro (by rfl) A
 ·cases hgd
theorem el_ok (x : Nat → Int) : GrT Tryz.prog r 63 [.agg ⟨orC m w a⟩, x4 x] (.bool (insB m x)) := by
 refine GrT.of (SC_ok r) TOk.nil .nil rfl ⟨6, 8, ?_⟩
 refine (juE r m w a x).trans ?_
 unfold insB
 simp only [ge_iff_le, Int.ofNat_eq_natCast, Bool.decide_and]
 cases decide (0 ≤ x 0) <;> cases decide (x 0 < (m : Int)) <;> cases decide (0 ≤ x 1) <;> cases decide (x 1 < (m : Int)) <;> cases decide (0 ≤ x 2) <;> cases decide (x 2 < (m : Int)) <;> cases decide (0 ≤ x 3) <;> cases decide (x 3 < (m : Int)) <;> rfl
end
section
variable {r : Mem} {b off n cap : Nat} {T : List (List Bool)}
theorem in_ok (x : Nat → Int) : GrT Tryz.prog r 37 [RS b off n cap, x4 x] (.bool (insB n x)) := by
 refine GrT.of (SC_ok r) TOk.nil .nil rfl ⟨6, 8, ?_⟩
 refine (juI r b off n cap x).trans ?_
 unfold insB
 have e : ∀ i, decide (0 ≤ x i ∧ x i < (n : Int)) = (!decide (x i < 0) && !decide (x i ≥ Int.ofNat n)) := fun i => by
  rw [Bool.eq_iff_iff]
  simp
 simp only [e]
 cases decide (x 0 < 0) <;> cases decide (x 0 ≥ Int.ofNat n) <;> cases decide (x 1 < 0) <;> cases decide (x 1 ≥ Int.ofNat n) <;> cases decide (x 2 < 0) <;> cases decide (x 2 ≥ Int.ofNat n) <;> cases decide (x 3 < 0) <;> cases decide (x 3 ≥ Int.ofNat n) <;> rfl
end
end Go.Proofs
namespace Go.Proofs
open Go Go.Ev Go.Num
noncomputable def cBf : Code := bodyOf S0 42
noncomputable def Bf_0 : Code := (lc cBf)
noncomputable def Bf_1 : Code := (lc (rc cBf))
noncomputable def Bf_2 : Code := (lc (lc (rc (rc cBf))))
noncomputable def Bf_3 : Code := (ic (ic (rc (lc (rc (rc cBf))))))
noncomputable def Bf_4 : Code := (rc (rc (rc cBf)))
theorem Bf_eq : cBf = (.seq Bf_0 (.seq Bf_1 (.seq (.seq Bf_2 (.block 0 (.loop Bf_3))) Bf_4))) := by kernel_rfl
noncomputable def cSz : Code := bodyOf S0 62
noncomputable def Sz_0 : Code := (lc cSz)
noncomputable def Sz_1 : Code := (lc (rc cSz))
noncomputable def Sz_2 : Code := (lc (lc (rc (rc cSz))))
noncomputable def Sz_3 : Code := (ic (ic (rc (lc (rc (rc cSz))))))
noncomputable def Sz_4 : Code := (rc (rc (rc cSz)))
theorem Sz_eq : cSz = (.seq Sz_0 (.seq Sz_1 (.seq (.seq Sz_2 (.block 0 (.loop Sz_3))) Sz_4))) := by kernel_rfl
noncomputable def cRs : Code := bodyOf S0 36
noncomputable def Rs_0 : Code := (lc cRs)
noncomputable def Rs_1 : Code := (lc (rc cRs))
noncomputable def Rs_2 : Code := (lc (lc (rc (rc cRs))))
noncomputable def Rs_3 : Code := (lc (ic (ic (rc (lc (rc (rc cRs)))))))
noncomputable def Rs_4 : Code := (lc (ic (lc (rc (ic (ic (rc (lc (rc (rc cRs))))))))))
noncomputable def Rs_5 : Code := (lc (rc (ic (lc (rc (ic (ic (rc (lc (rc (rc cRs)))))))))))
noncomputable def Rs_6 : Code := (ic (ic (lc (rc (rc (ic (lc (rc (ic (ic (rc (lc (rc (rc cRs))))))))))))))
noncomputable def Rs_7 : Code := (rc (rc (rc (ic (lc (rc (ic (ic (rc (lc (rc (rc cRs))))))))))))
noncomputable def Rs_8 : Code := (rc (rc (ic (ic (rc (lc (rc (rc cRs))))))))
noncomputable def Rs_9 : Code := (rc (rc (rc cRs)))
theorem Rs_eq : cRs = (.seq Rs_0 (.seq Rs_1 (.seq (.seq Rs_2 (.block 0 (.loop (.seq Rs_3 (.seq (.block 1 (.seq Rs_4 (.seq Rs_5 (.seq (.block 2 (.loop Rs_6)) Rs_7)))) Rs_8))))) Rs_9))) := by kernel_rfl
def lvBf : List Nat := [0, 1, 5, 6]
def vBf (b off n cap x s k : Nat) : OV := [some (RS b off n cap), some (I (x : Nat)), some (I (s : Nat)), some (I (k : Nat))]
def lvSz : List Nat := [0, 3, 4]
def vSz (s z k : Nat) : OV := [some (I (s : Nat)), some (I (z : Nat)), some (I (k : Nat))]
noncomputable def m_bg (s : Value) (n : Nat) (o : Value) (y : Int) : Bool := @decide (o = s ∧ 0 ≤ y ∧ y < n) (Classical.propDecidable _)
noncomputable def eBe (s : Value) (n : Nat) (w : Nat → Nat) : Ent := ent (fun args _ => match args with
 | [o, .int .i64 y] => m_bg s n o y
 | _ => false) fun args _ => match args with
 | [_, .int .i64 y] => I (m_ow w y)
 | _ => undef
def m_s12 (s : Int) : Bool := decide (0 ≤ s ∧ s < 4096)
def m_szI (s : Int) : Int := ((szN s.toNat : Nat) : Int)
noncomputable def eS12 : Ent := ent (fun args _ => match args with
 | [.int .i64 s] => m_s12 s
 | _ => false) fun args _ => match args with
 | [.int .i64 s] => I (m_szI s)
 | _ => undef
noncomputable def tRs (s : Value) (n : Nat) (w : Nat → Nat) : Tbl := tcons 42 (eBe s n w) (tcons 62 eS12 fun _ => none)
def lvRn : List Nat := [0, 3, 4]
def vRn (b off n cap x : Nat) (o : Value) : OV := [some (RS b off n cap), some o, some (I (x : Nat))]
def lvRm : List Nat := [0, 3, 4, 5, 6]
def vRm (b off n cap x : Nat) (o : Value) (s k : Nat) : OV := [some (RS b off n cap), some o, some (I (x : Nat)), some (I (s : Nat)), some (I (k : Nat))]
theorem bfA (r : Mem) (b off n cap x : Nat) (fs : FnsC) (K : KO) (kx : Nat → KS) (kr : KS) : run (SC r) 115 25 1 (.seq Bf_0 (.seq Bf_1 Bf_2)) fs none (rbK 0 lvBf [] K) kx kr (sc0 115 [RS b off n cap, I (x : Nat)]) (tr0 115 [RS b off n cap, I (x : Nat)]) [] emptyA =
    K [some (RS b off n cap), some (I (Int.ofNat x)), some (I (Int.ofNat 0)), some (I (Int.ofNat 0))] [] [] := by kernel_rfl
theorem bfB (r : Mem) (b off n cap x s k : Nat) (fs : FnsC) (K : KO) (KX : Nat → KO) (kr : KS) : run (SS r 2) 115 25 1 Bf_3 fs none (rbK 0 lvBf [] K) (fun j => rbK 0 [5] [] (KX j)) kr [] (bT lvBf (vBf b off n cap x s k) .nil) [] (mkA []) =
    bif decide (Int.ofNat k < Int.ofNat n) then bif Nat.blt (Int.toNat (Int.ofNat k)) n then Option.casesOn (r b (Nat.add off (Nat.mul (Int.toNat (Int.ofNat k)) 1))) (.fail 423) fun val => bif isRoS val then bif Nat.blt (Int.toNat (Int.ofNat x)) (lnOf val) then Option.casesOn (r (blkOf val) (Nat.add (offOf val) (Nat.mul (Int.toNat (Int.ofNat x)) 1))) (.fail 423) fun val => bif isB val then bif ofB val then K [some (RS b off n cap), some (I (Int.ofNat x)), some (I (ibits BinOp.or IntKind.i64 (Int.ofNat s) (IntKind.wrap .i64 (Int.ofNat 1 * Int.ofNat 2 ^ min (Int.toNat (Int.ofNat k)) 64)))), some (I (IntKind.wrap .i64 (Int.ofNat k + Int.ofNat 1)))] [] [] else K [some (RS b off n cap), some (I (Int.ofNat x)), some (I (Int.ofNat s)), some (I (IntKind.wrap .i64 (Int.ofNat k + Int.ofNat 1)))] [] [] else F4 else F4 else F4 else F4 else KX 0 [some (I (Int.ofNat s))] [] [] := by kernel_rfl
theorem bfC (r : Mem) (s : Nat) (fs : FnsC) (K KR : KO) (kx : Nat → KS) : run (SC r) 115 25 1 Bf_4 fs none (rbK 0 [4] [] K) kx (rbK 0 [4] [] KR) [] (bT [5] [some (I (s : Nat))] .nil) [] (mkA []) =
    KR [some (I (Int.ofNat s))] [] [] := by kernel_rfl
theorem szA (r : Mem) (s : Nat) (fs : FnsC) (K : KO) (kx : Nat → KS) (kr : KS) : run (SC r) 29 18 1 (.seq Sz_0 (.seq Sz_1 Sz_2)) fs none (rbK 0 lvSz [] K) kx kr (sc0 29 [I (s : Nat)]) (tr0 29 [I (s : Nat)]) [] emptyA =
    K [some (I (Int.ofNat s)), some (I (Int.ofNat 0)), some (I (Int.ofNat 0))] [] [] := by kernel_rfl
theorem szB (r : Mem) (s z k : Nat) (fs : FnsC) (K : KO) (KX : Nat → KO) (kr : KS) : run (SC r) 29 18 1 Sz_3 fs none (rbK 0 lvSz [] K) (fun j => rbK 0 [3] [] (KX j)) kr [] (bT lvSz (vSz s z k) .nil) [] (mkA []) =
    bif decide (Int.fdiv (Int.ofNat s) (Int.ofNat 2 ^ min (Int.toNat (Int.ofNat k)) 64) > 0) then K [some (I (Int.ofNat s)), some (I (IntKind.wrap .i64 (Int.ofNat z + Int.tmod (Int.fdiv (Int.ofNat s) (Int.ofNat 2 ^ min (Int.toNat (Int.ofNat k)) 64)) (Int.ofNat 2)))), some (I (IntKind.wrap .i64 (Int.ofNat k + Int.ofNat 1)))] [] [] else KX 0 [some (I (Int.ofNat z))] [] [] := by kernel_rfl
theorem szC (r : Mem) (s : Nat) (fs : FnsC) (K KR : KO) (kx : Nat → KS) : run (SC r) 29 18 1 Sz_4 fs none (rbK 0 [2] [] K) kx (rbK 0 [2] [] KR) [] (bT [3] [some (I (s : Nat))] .nil) [] (mkA []) =
    KR [some (I (Int.ofNat s))] [] [] := by kernel_rfl
theorem rzA (r : Mem) (b off n cap : Nat) (fs : FnsC) (K : KO) (kx : Nat → KS) (kr : KS) : run (SC r) 253 78 1 (.seq Rs_0 (.seq Rs_1 Rs_2)) fs none (rbK 0 lvRn [] K) kx kr (sc0 253 [RS b off n cap]) (tr0 253 [RS b off n cap]) [] emptyA =
    K [some (RS b off n cap), some (.slice none 0 0), some (I (Int.ofNat 0))] [] [] := by kernel_rfl
theorem rzN (r : Mem) (b off n cap : Nat) (w : Nat → Nat) (K : KO) (kx : Nat → KS) (kr : KS) : run (SC r) 253 78 3 (.seq Rs_3 (.seq (.block 1 (.seq Rs_4 (.seq Rs_5 (.seq (.block 2 (.loop Rs_6)) Rs_7)))) Rs_8)) (lvlT (SC r) (tRs (RS b off n cap) n w) .nil 1 1) none (rbK 0 lvRn [] K) kx kr [] (bT lvRn (vRn b off n cap 0 nilT) .nil) [] (mkA []) =
    bif decide (0 < Int.ofNat n) then bif m_bg (RS b off n cap) n (RS b off n cap) (Int.ofNat 0) then K [some (RS b off n cap), some (.slice (some ⟨0, 0, none⟩) 1 unk), some (I (Int.ofNat 1))] [] [some (.cells [I (m_ow w (Int.ofNat 0))] 3 0 1)] else F4 else kx 0 [(11, .bool false), (10, I (Int.ofNat n)), (9, RS b off n cap), (8, I (Int.ofNat 0))] (.node (.node (.node .nil (some (.slice none 0 0)) .nil) none .nil) (some (RS b off n cap)) (.node (.node .nil (some (I (Int.ofNat 0))) .nil) none .nil)) [] (AW.mk 0 .nil .nil) := by kernel_rfl
theorem rzB (r : Mem) (b off n cap x q : Nat) (c : List Value) (fs : FnsC) (K : KO) (KX : Nat → KO) (kr : KS) : run (SC r) 253 78 1 Rs_3 fs none (rbK 0 lvRn [] K) (fun j => rbK 0 [3] [] (KX j)) kr [] (bT lvRn (vRn b off n cap x (gx 0 q)) .nil) [] (mkA [oI1 c 0]) =
    bif decide (Int.ofNat x < Int.ofNat n) then bif m_nns c && true then K [some (RS b off n cap), some (gx 0 q), some (I (Int.ofNat x))] [] [some (.cells c 3 0 1)] else F4 else bif m_nns c && true then KX 0 [some (gx 0 q)] [] [some (.cells c 3 0 1)] else F4 := by kernel_rfl
theorem rzC (r : Mem) (b off n cap x q : Nat) (c : List Value) (w : Nat → Nat) (K : KO) (kx : Nat → KS) (kr : KS) : run (SC r) 253 78 1 (.seq Rs_4 Rs_5) (lvlT (SC r) (tRs (RS b off n cap) n w) .nil 1 1) none (rbK 0 lvRm [] K) kx kr [] (bT lvRn (vRn b off n cap x (gx 0 q)) .nil) [] (mkA [oI1 c 0]) =
    bif m_bg (RS b off n cap) n (RS b off n cap) (Int.ofNat x) then bif m_nns c && true then K [some (RS b off n cap), some (gx 0 q), some (I (Int.ofNat x)), some (I (m_ow w (Int.ofNat x))), some (I (Int.ofNat 0))] [] [some (.cells c 3 0 1)] else F4 else F4 := by kernel_rfl
theorem rzD (r : Mem) (b off n cap x q s k : Nat) (c : List Value) (w : Nat → Nat) (K : KO) (KX : Nat → KO) (kr : KS) : run (SC r) 253 78 1 Rs_6 (lvlT (SC r) (tRs (RS b off n cap) n w) .nil 1 1) none (rbK 0 lvRm [] K) (fun j => rbK 0 lvRm [] (KX j)) kr [] (bT lvRm (vRm b off n cap x (gx 0 q) s k) .nil) [] (mkA [oI1 c 0]) =
    bif decide (Int.ofNat k < Int.ofNat q) then bif Nat.blt (Int.toNat (Int.ofNat k)) q then Option.casesOn c[Nat.add 0 (Nat.mul (Int.toNat (Int.ofNat k)) 1)]? (.fail 423) fun val => bif isI IntKind.i64 val then bif m_s12 (ofI val) then bif m_s12 (Int.ofNat s) then bif decide (m_szI (ofI val) < m_szI (Int.ofNat s)) then bif m_nns c && true then K [some (RS b off n cap), some (gx 0 q), some (I (Int.ofNat x)), some (I (Int.ofNat s)), some (I (IntKind.wrap .i64 (Int.ofNat k + Int.ofNat 1)))] [] [some (.cells c 3 0 1)] else F4 else bif Nat.blt (Int.toNat (Int.ofNat k)) q then Option.casesOn c[Nat.add 0 (Nat.mul (Int.toNat (Int.ofNat k)) 1)]? (.fail 423) fun val => bif isI IntKind.i64 val then bif m_s12 (ofI val) then bif m_s12 (Int.ofNat s) then bif m_szI (ofI val) == m_szI (Int.ofNat s) then bif Nat.blt (Int.toNat (Int.ofNat k)) q then Option.casesOn c[Nat.add 0 (Nat.mul (Int.toNat (Int.ofNat k)) 1)]? (.fail 423) fun val => bif isI IntKind.i64 val then bif decide (ofI val < Int.ofNat s) then bif m_nns c && true then K [some (RS b off n cap), some (gx 0 q), some (I (Int.ofNat x)), some (I (Int.ofNat s)), some (I (IntKind.wrap .i64 (Int.ofNat k + Int.ofNat 1)))] [] [some (.cells c 3 0 1)] else F4 else bif m_nns c && true then KX 2 [some (RS b off n cap), some (gx 0 q), some (I (Int.ofNat x)), some (I (Int.ofNat s)), some (I (Int.ofNat k))] [] [some (.cells c 3 0 1)] else F4 else F4 else F4 else bif m_nns c && true then KX 2 [some (RS b off n cap), some (gx 0 q), some (I (Int.ofNat x)), some (I (Int.ofNat s)), some (I (Int.ofNat k))] [] [some (.cells c 3 0 1)] else F4 else F4 else F4 else F4 else F4 else F4 else F4 else F4 else F4 else bif m_nns c && true then KX 2 [some (RS b off n cap), some (gx 0 q), some (I (Int.ofNat x)), some (I (Int.ofNat s)), some (I (Int.ofNat k))] [] [some (.cells c 3 0 1)] else F4 := by kernel_rfl
theorem rzF (r : Mem) (b off n cap x q : Nat) (c : List Value) (fs : FnsC) (K : KO) (kx : Nat → KS) (kr : KS) : run (SC r) 253 78 1 Rs_8 fs none (rbK 0 lvRn [] K) kx kr [] (bT lvRn (vRn b off n cap x (gx 0 q)) .nil) [] (mkA [oI1 c 0]) =
    bif m_nns c && true then K [some (RS b off n cap), some (gx 0 q), some (I (IntKind.wrap .i64 (Int.ofNat x + Int.ofNat 1)))] [] [some (.cells c 3 0 1)] else F4 := by kernel_rfl
theorem rzG (r : Mem) (q : Nat) (c : List Value) (fs : FnsC) (K KR : KO) (kx : Nat → KS) : run (SC r) 253 78 1 Rs_9 fs none (rbK 0 [2] [] K) kx (rbK 0 [2] [] KR) [] (bT [3] [some (gx 0 q)] .nil) [] (mkA [oI1 c 0]) =
    bif m_nns c && true then KR [some (gx 0 q)] [] [some (.cells c 3 0 1)] else F4 := by kernel_rfl
end Go.Proofs
namespace Go.Proofs
open Go Go.Ev Go.Num
theorem fin_b (v : Bool) : (bif v then CR.ret (.bool true) emptyA else CR.ret (.bool false) emptyA) = .ret (.bool v) emptyA := by cases v <;> rfl
section
variable {r : Mem} {m : Nat} {w a : Nat → Nat}
theorem tEl_ok (hm : m ≤ 12) (hw : ∀ j, w j < 4096) {x : Nat → Int} {v : Bool} (hv : insB m x = v) : TOk (SC r) (tEl m w a x v) := (TOk.nil.cons (eBf_ok hw)).cons (eV_ok rfl (by subst hv; exact el_ok x))
theorem tEh_ok (hm : m ≤ 12) (hw : ∀ j, w j < 4096) (ha : ∀ j, a j < 4096) {x : Nat → Int} (hv : insB m x = true) : TOk (SC r) (tEh m w a (ovW m w a) (2 ^ m - 1) x) := (((tEl_ok hm hw hv)).cons (eAl_ok hm)).cons (eOg_ok hm hw ha)
theorem bf_t {x y : Int} (hx : 0 ≤ x ∧ x < m) (hy : 0 ≤ y ∧ y < m) (hm : m ≤ 12) : m_bf m w a (.agg ⟨orC m w a⟩) x y = true := @decide_eq_true _ (Classical.propDecidable _) ⟨rfl, by omega, by omega, by omega, by omega⟩
theorem og_t {x : Int} (hx : 0 ≤ x ∧ x < m) : m_og m w a (.agg ⟨orC m w a⟩) x = true := @decide_eq_true _ (Classical.propDecidable _) ⟨rfl, hx.1, hx.2⟩
theorem tw_or (hm : m ≤ 12) (hw : ∀ j, w j < 4096) (x : Nat → Int) : GrT Tryz.prog r 38 [.agg ⟨orC m w a⟩, x4 x] (.bool (insB m x && (m_bv w (x 0) (x 1) && (m_bv w (x 2) (x 3) && (!m_bv w (x 0) (x 3) && !m_bv w (x 2) (x 1)))))) := by
 by_cases c : insB m x = true
 ·have hi := insB_iff.1 c
  refine GrT.of (SC_ok r) (tEl_ok (a := a) hm hw c) .nil rfl ⟨2, 3, ?_⟩
  have hn' := juT r m w a x
  simp only [svv_rfl, bf_t hi.1 hi.2.1 hm, bf_t hi.2.2.1 hi.2.2.2 hm, bf_t hi.1 hi.2.2.2 hm, bf_t hi.2.2.1 hi.2.1 hm, cond_true] at hn'
  refine hn'.trans ?_
  rw [c]
  cases m_bv w (x 0) (x 1) <;> cases m_bv w (x 2) (x 3) <;> cases m_bv w (x 0) (x 3) <;> cases m_bv w (x 2) (x 1) <;> rfl
 ·have c : insB m x = false := by simpa using c
  refine GrT.of (SC_ok r) (tEl_ok (a := a) hm hw c) .nil rfl ⟨2, 3, ?_⟩
  have hn' := juTf r m w a x
  simp only [svv_rfl, cond_true] at hn'
  refine hn'.trans ?_
  rw [c]; rfl
def ovB (w a : Nat → Nat) (x d : Nat) : Bool := !(w x).testBit d && (!(a x).testBit d && !decide (x = d))
theorem ovW_bit (x : Nat) {d : Nat} (hd : d < m) : (ovW m w a x).testBit d = ovB w a x d := by
 unfold ovW ovB
 rw [an_bit, Nat.testBit_two_pow_sub_one, Nat.testBit_or, Nat.testBit_or, Nat.testBit_two_pow]
 simp only [hd, decide_true, Bool.true_and, Bool.not_or, Bool.and_assoc]
theorem th_or (hm : m ≤ 12) (hw : ∀ j, w j < 4096) (ha : ∀ j, a j < 4096) (x : Nat → Int) : GrT Tryz.prog r 49 [.agg ⟨orC m w a⟩, x4 x] (.bool (insB m x && (m_bv w (x 0) (x 1) && (m_bv w (x 1) (x 2) && (ovB w a (x 0).toNat (x 3).toNat && (ovB w a (x 1).toNat (x 3).toNat && ovB w a (x 2).toNat (x 3).toNat)))))) := by
 by_cases c : insB m x = true
 ·have hi := insB_iff.1 c
  obtain ⟨y, hy, hxy, hyn⟩ := x4_nat c
  have c2 : insB m (fun i => (y i : Nat)) = true := by
   rw [insB_iff]
   have h0 := hyn 0 (by omega)
   have h1 := hyn 1 (by omega)
   have h2 := hyn 2 (by omega)
   have h3 := hyn 3 (by omega)
   exact ⟨⟨by omega, by omega⟩, ⟨by omega, by omega⟩, ⟨by omega, by omega⟩, by omega, by omega⟩
  have i2 := insB_iff.1 c2
  rw [hy, c, hxy 0 (by omega), hxy 1 (by omega), hxy 2 (by omega), hxy 3 (by omega)]
  refine GrT.of (SC_ok r) (tEh_ok hm hw ha c2) .nil rfl ⟨6, 8, ?_⟩
  have hn' := juH r m w a (ovW m w a) (2 ^ m - 1) y
  have l := fun x => ovW_lt (m := m) (w := w) (a := a) hm x
  have l0 := l (y 0)
  have l1 := l (y 1)
  have l2 := l (y 2)
  have lm := m_lt16 hm
  have a1 : 2 ^ m - 1 &&& ovW m w a (y 0) < 65536 := Nat.and_lt_two_pow (n := 16) _ (by omega)
  have a2 : (2 ^ m - 1 &&& ovW m w a (y 0)) &&& ovW m w a (y 1) < 65536 := Nat.and_lt_two_pow (n := 16) _ (by omega)
  have a3 : ((2 ^ m - 1 &&& ovW m w a (y 0)) &&& ovW m w a (y 1)) &&& ovW m w a (y 2) < 65536 := Nat.and_lt_two_pow (n := 16) _ (by omega)
  have o1 := (uV (show 2 ^ m - 1 < 65536 by omega) (show ovW m w a (y 0) < 65536 by omega)).2.1
  have o2 := (uV a1 (show ovW m w a (y 1) < 65536 by omega)).2.1
  have o3 := (uV a2 (show ovW m w a (y 2) < 65536 by omega)).2.1
  have hd := hyn 3 (by omega)
  have ow : ∀ z : Nat, m_ow (ovW m w a) (Int.ofNat z) = ((ovW m w a z : Nat) : Int) := fun _ => rfl
  have t1 : ((((2 ^ m - 1 &&& ovW m w a (y 0)) &&& ovW m w a (y 1)) &&& ovW m w a (y 2))).testBit (y 3) = (ovB w a (y 0) (y 3) && (ovB w a (y 1) (y 3) && ovB w a (y 2) (y 3))) := by
   rw [Nat.testBit_and, Nat.testBit_and, Nat.testBit_and, Nat.testBit_two_pow_sub_one, ovW_bit _ hd, ovW_bit _ hd, ovW_bit _ hd]
   simp only [hd, decide_true, Bool.true_and, Bool.and_assoc]
  have b0 : ∀ (i j : Nat), i < 4 → j < 4 → m_bf m w a (.agg ⟨orC m w a⟩) (Int.ofNat (y i)) (Int.ofNat (y j)) = true := fun i j hi hj => by
   have h1 := hyn i hi
   have h2 := hyn j hj
   exact bf_t ⟨by simp, by simpa using h1⟩ ⟨by simp, by simpa using h2⟩ hm
  have b1 : ∀ (i : Nat), i < 4 → m_og m w a (.agg ⟨orC m w a⟩) (Int.ofNat (y i)) = true := fun i hi => by
   have h1 := hyn i hi
   exact og_t ⟨by simp, by simpa using h1⟩
  have q0 : (Int.ofNat (2 ^ m - 1)) = ((2 ^ m - 1 : Nat) : Int) := rfl
  simp only [svv_rfl, b0 0 1 (by omega) (by omega), b0 1 2 (by omega) (by omega), b1 0 (by omega), b1 1 (by omega), b1 2 (by omega), cond_true, ow, q0, o1, o2, o3] at hn'
  simp only [tnO, has_v a3 (show y 3 ≤ 16 by omega), t1] at hn'
  refine hn'.trans ?_
  simp only [Int.ofNat_eq_natCast, Int.toNat_natCast]
  cases m_bv w (y 0 : Nat) (y 1 : Nat) <;> cases m_bv w (y 1 : Nat) (y 2 : Nat) <;> cases ovB w a (y 0) (y 3) <;> cases ovB w a (y 1) (y 3) <;> cases ovB w a (y 2) (y 3) <;> rfl
 ·have c : insB m x = false := by simpa using c
  refine GrT.of (SC_ok r) (tEl_ok (a := a) hm hw c) .nil rfl ⟨2, 3, ?_⟩
  have hn' := juHf r m w a x
  simp only [svv_rfl, cond_true] at hn'
  refine hn'.trans ?_
  rw [c]; rfl
end
section
variable {r : Mem} {b off n cap : Nat} {T : List (List Bool)}
theorem wB_bitJ {i j : Nat} (hi : i < T.length) : (wB T T.length 0 j).testBit i = gT T i j := by
 rw [wB_cl, clW_bit]
 simp [hi]
theorem rd_okJ (hmt : ∀ b j u, tabM b j = some u → r b j = some u) (hM : TabM r b off T) (hn : T.length = n) (hc : ckO T = true) {x : Nat → Int} {u v : Bool} (hu : ∀ r : Mem, GrT Tryz.prog r 38 [.agg ⟨orC n (wB T n 0) (wA T n 0)⟩, x4 x] (.bool u)) (hv : ∀ r : Mem, GrT Tryz.prog r 49 [.agg ⟨orC n (wB T n 0) (wA T n 0)⟩, x4 x] (.bool v)) : TOk (SC r) (tSh (RS b off n cap) n (wB T n 0) (wA T n 0) x u v) := by
 refine ((TOk.nil.cons (eV_ok rfl (hv r))).cons (eV_ok rfl (hu r))).cons (EOk.ent fun args A hgd => ?_)
 have hs := @of_decide_eq_true _ (Classical.propDecidable _) hgd
 subst hs
 have h := ro_ok (cap := cap) hmt hM hn (by have := (ck_len hc).2; omega)
 unfold roC at h
 rw [hc, if_pos rfl, if_pos rfl, hn] at h
 exact h.ro rfl A
theorem toN {x : Int} {n : Nat} (h : 0 ≤ x ∧ x < n) : x.toNat < n := by omega
theorem sh_tw (hmt : ∀ b j u, tabM b j = some u → r b j = some u) (hM : TabM r b off T) (hn : T.length = n) (hc : ckO T = true) (x : Nat → Int) : GrT Tryz.prog r 14 [RS b off n cap, x4 x] (.bool (twB T x)) := by
 have hl := (ck_len hc).2
 subst hn
 have hw : ∀ j, wB T T.length 0 j < 4096 := fun j => by rw [wB_cl]; exact Nat.lt_of_lt_of_le (clO_lt T j T.length) (Nat.pow_le_pow_right (by decide) hl)
 have ha : ∀ j, wA T T.length 0 j < 4096 := fun j => wA_lt hl (by omega) _ j
 refine GrT.of (SC_ok r) (rd_okJ (cap := cap) hmt hM rfl hc (fun r => tw_or hl hw x) (fun r => th_or hl hw ha x)) .nil rfl ⟨2, 3, ?_⟩
 have hn' := juS r b off T.length cap T.length (wB T T.length 0) (wA T T.length 0) x
 simp only [svv_rfl, cond_true] at hn'
 refine ((hn' _ _).trans (fin_b _)).trans ?_
 unfold twB
 by_cases c : insB T.length x = true
 ·have hi := insB_iff.1 c
  unfold m_bv
  rw [wB_bitJ (toN hi.1), wB_bitJ (toN hi.2.2.1), wB_bitJ (toN hi.1), wB_bitJ (toN hi.2.2.1)]
 ·have c : insB T.length x = false := by simpa using c
  rw [c, Bool.false_and, Bool.false_and]
end
end Go.Proofs
namespace Go.Proofs
open Go Go.Ev Go.Num
section
variable {r : Mem} {b off n cap : Nat} {T : List (List Bool)}
theorem qe_t (y : Nat → Nat) (i : Nat) : qe y i = true := eqv_i _
theorem tab_all (hM : TabM r b off T) (hc : ckO T = true) (hn : T.length = n) : ∃ b2 o2 c2 : Nat → Nat, ∀ i, i < n → r b (off + i) = some (RS (b2 i) (o2 i) n (c2 i)) ∧ ∀ k, k < n → r (b2 i) (o2 i + k) = some (.bool (gT T i k)) := by
 subst hn
 have h : ∀ i, ∃ q : Nat × Nat × Nat, i < T.length → r b (off + i) = some (RS q.1 q.2.1 T.length q.2.2) ∧ ∀ k, k < T.length → r q.1 (q.2.1 + k) = some (.bool (gT T i k)) := fun i => by
  by_cases hi : i < T.length
  ·have hr := (ck_row hc hi).1
   obtain ⟨b2, o2, c2, h1, h2⟩ := tab_RS hM hi (by rw [hr]; omega)
   rw [hr] at h1 h2
   exact ⟨(b2, o2, c2), fun _ => ⟨h1, h2⟩⟩
  ·exact ⟨(0, 0, 0), fun h => absurd h hi⟩
 exact ⟨fun i => (Classical.choose (h i)).1, fun i => (Classical.choose (h i)).2.1, fun i => (Classical.choose (h i)).2.2, fun i hi => Classical.choose_spec (h i) hi⟩
theorem rf_ov (hM : TabM r b off T) (hn : T.length = n) (hc : ckO T = true) {y z : Nat} (hy : y < n) (hz : z < n) : GrT Tryz.prog r 28 [RS b off n cap, I (y : Nat), I (z : Nat)] (.bool (m_ovv T (y : Nat) (z : Nat))) := by
 obtain ⟨b2, o2, c2, h⟩ := tab_all hM hc hn
 refine GrT.of (C := SS r 2) (SS_ok r 2) TOk.nil .nil rfl ⟨2, 3, ?_⟩
 have hn' := jrO r b off n cap y z
 have b1 : Nat.blt y n = true := Nat.ble_eq_true_of_le hy
 have b2' : Nat.blt z n = true := Nat.ble_eq_true_of_le hz
 have e0 : ∀ o k : Nat, Nat.add o (Nat.mul k 1) = o + k := fun o k => by simp
 simp only [tnO, b1, b2', e0, (h y hy).1, (h z hz).1, (h y hy).2 z hz, (h z hz).2 y hy, ro_RS, ln_RS, bk_RS, of_RS, b_bl, o_bl, cond_true] at hn'
 refine hn'.trans ?_
 have e1 : (Int.ofNat y != Int.ofNat z) = decide ((y : Int) ≠ (z : Int)) := by
  rw [Bool.eq_iff_iff]; simp
 rw [e1]
 unfold m_ovv
 simp only [Int.toNat_natCast]
 cases decide ((y : Int) ≠ (z : Int)) <;> cases gT T y z <;> cases gT T z y <;> rfl
theorem eOv_ok (hM : TabM r b off T) (hn : T.length = n) (hc : ckO T = true) {sh : Nat} : EOk (SS r sh) 28 (eOv (RS b off n cap) n T) := EOk.ent fun args A hgd => by
 split at hgd
 ·rename_i o y z
  obtain ⟨rfl, h1, h2, h3, h4⟩ := @of_decide_eq_true _ (Classical.propDecidable _) hgd
  have h := rf_ov (cap := cap) hM hn hc (y := y.toNat) (z := z.toNat) (by omega) (by omega)
  rw [show ((y.toNat : Nat) : Int) = y by omega, show ((z.toNat : Nat) : Int) = z by omega] at h
  exact GrT.ro (C := SS r sh) h (by rfl) A
 ·cases hgd
theorem tIn_ok (hM : TabM r b off T) (hn : T.length = n) (hc : ckO T = true) {x : Nat → Int} {v : Bool} (hv : insB n x = v) : TOk (SC r) (tIn (RS b off n cap) n T x v) := (TOk.nil.cons (eOv_ok (sh := 0) hM hn hc)).cons (eV_ok rfl (by subst hv; exact in_ok x))
theorem ov_t {s : Value} {x y : Int} (hx : 0 ≤ x ∧ x < n) (hy : 0 ≤ y ∧ y < n) : m_ov s s n x y = true := @decide_eq_true _ (Classical.propDecidable _) ⟨rfl, hx.1, hx.2, hy.1, hy.2⟩
theorem rf_tw (hM : TabM r b off T) (hn : T.length = n) (hc : ckO T = true) (x : Nat → Int) : GrT Tryz.prog r 13 [RS b off n cap, x4 x] (.bool (twB T x)) := by
 subst hn
 by_cases c : insB T.length x = true
 ·obtain ⟨y, hy, hxy, hyn⟩ := x4_nat c
  have c2 : insB T.length (fun i => (y i : Nat)) = true := by
   rw [insB_iff]
   have h0 := hyn 0 (by omega)
   have h1 := hyn 1 (by omega)
   have h2 := hyn 2 (by omega)
   have h3 := hyn 3 (by omega)
   exact ⟨⟨by omega, by omega⟩, ⟨by omega, by omega⟩, ⟨by omega, by omega⟩, by omega, by omega⟩
  unfold twB
  rw [hy, c, hxy 0 (by omega), hxy 1 (by omega), hxy 2 (by omega), hxy 3 (by omega)]
  obtain ⟨b2, o2, c2', h⟩ := tab_all hM hc rfl
  refine GrT.of (C := SS r 2) (SS_ok r 2) (TOk.sh 2 (tIn_ok (cap := cap) hM rfl hc c2)) .nil rfl ⟨2, 3, ?_⟩
  have hn' := jrT r b off T.length cap y T
  have b1 : ∀ i, i < 4 → Nat.blt (y i) T.length = true := fun i hi => Nat.ble_eq_true_of_le (hyn i hi)
  have e0 : ∀ o k : Nat, Nat.add o (Nat.mul k 1) = o + k := fun o k => by simp
  have h0 := hyn 0 (by omega)
  have h1 := hyn 1 (by omega)
  have h2 := hyn 2 (by omega)
  have h3 := hyn 3 (by omega)
  simp only [svv_rfl, qe_t, eqv_i, eqv_x4, tnO, b1 0 (by omega), b1 1 (by omega), b1 2 (by omega), b1 3 (by omega), e0, (h _ h0).1, (h _ h2).1, (h _ h0).2 _ h1, (h _ h2).2 _ h3, (h _ h0).2 _ h3, (h _ h2).2 _ h1, ro_RS, ln_RS, bk_RS, of_RS, b_bl, o_bl, cond_true] at hn'
  refine hn'.trans ?_
  simp only [Int.toNat_natCast]
  cases gT T (y 0) (y 1) <;> cases gT T (y 2) (y 3) <;> cases gT T (y 0) (y 3) <;> cases gT T (y 2) (y 1) <;> rfl
 ·have c : insB T.length x = false := by simpa using c
  refine GrT.of (SC_ok r) (tIn_ok (cap := cap) hM rfl hc c) .nil rfl ⟨2, 3, ?_⟩
  have hn' := jrTf r b off T.length cap x T
  simp only [svv_rfl, eqv_x4, cond_true] at hn'
  refine hn'.trans ?_
  unfold twB
  rw [c]; rfl
theorem rf_th (hM : TabM r b off T) (hn : T.length = n) (hc : ckO T = true) (x : Nat → Int) : GrT Tryz.prog r 21 [RS b off n cap, x4 x] (.bool (thB T x)) := by
 subst hn
 by_cases c : insB T.length x = true
 ·obtain ⟨y, hy, hxy, hyn⟩ := x4_nat c
  have c2 : insB T.length (fun i => (y i : Nat)) = true := by
   rw [insB_iff]
   have h0 := hyn 0 (by omega)
   have h1 := hyn 1 (by omega)
   have h2 := hyn 2 (by omega)
   have h3 := hyn 3 (by omega)
   exact ⟨⟨by omega, by omega⟩, ⟨by omega, by omega⟩, ⟨by omega, by omega⟩, by omega, by omega⟩
  have i2 := insB_iff.1 c2
  unfold thB
  rw [hy, c, hxy 0 (by omega), hxy 1 (by omega), hxy 2 (by omega), hxy 3 (by omega)]
  obtain ⟨b2, o2, c2', h⟩ := tab_all hM hc rfl
  refine GrT.of (C := SS r 2) (SS_ok r 2) (TOk.sh 2 (tIn_ok (cap := cap) hM rfl hc c2)) .nil rfl ⟨2, 3, ?_⟩
  have hn' := jrH r b off T.length cap y T
  have b1 : ∀ i, i < 4 → Nat.blt (y i) T.length = true := fun i hi => Nat.ble_eq_true_of_le (hyn i hi)
  have e0 : ∀ o k : Nat, Nat.add o (Nat.mul k 1) = o + k := fun o k => by simp
  have h0 := hyn 0 (by omega)
  have h1 := hyn 1 (by omega)
  have h2 := hyn 2 (by omega)
  have h3 := hyn 3 (by omega)
  have v0 : m_ov (RS b off T.length cap) (RS b off T.length cap) T.length (Int.ofNat (y 3)) (Int.ofNat (y 0)) = true := ov_t i2.2.2.2 i2.1
  have v1 : m_ov (RS b off T.length cap) (RS b off T.length cap) T.length (Int.ofNat (y 3)) (Int.ofNat (y 1)) = true := ov_t i2.2.2.2 i2.2.1
  have v2 : m_ov (RS b off T.length cap) (RS b off T.length cap) T.length (Int.ofNat (y 3)) (Int.ofNat (y 2)) = true := ov_t i2.2.2.2 i2.2.2.1
  simp only [svv_rfl, qe_t, eqv_i, eqv_x4, v0, v1, v2, tnO, b1 0 (by omega), b1 1 (by omega), b1 2 (by omega), b1 3 (by omega), e0, (h _ h0).1, (h _ h1).1, (h _ h0).2 _ h1, (h _ h1).2 _ h2, ro_RS, ln_RS, bk_RS, of_RS, b_bl, o_bl, cond_true] at hn'
  refine hn'.trans ?_
  simp only [Int.toNat_natCast, Int.ofNat_eq_natCast]
  cases gT T (y 0) (y 1) <;> cases gT T (y 1) (y 2) <;> cases m_ovv T (y 3 : Nat) (y 0 : Nat) <;> cases m_ovv T (y 3 : Nat) (y 1 : Nat) <;> cases m_ovv T (y 3 : Nat) (y 2 : Nat) <;> rfl
 ·have c : insB T.length x = false := by simpa using c
  refine GrT.of (SC_ok r) (tIn_ok (cap := cap) hM rfl hc c) .nil rfl ⟨2, 3, ?_⟩
  have hn' := jrHf r b off T.length cap x T
  simp only [svv_rfl, eqv_x4, cond_true] at hn'
  refine hn'.trans ?_
  unfold thB
  rw [c]; rfl
end
end Go.Proofs
namespace Go.Proofs
open Go Go.Ev Go.Num
theorem e0x (o k : Nat) : Nat.add o (Nat.mul k 1) = o + k := by simp
theorem bvI (a : Nat) (h : a < 65536) : (BitVec.ofInt 64 (a : Int)).toNat = a := by
 rw [BitVec.ofInt_natCast, BitVec.toNat_ofNat]
 exact Nat.mod_eq_of_lt (by omega)
theorem orI {a b : Nat} (ha : a < 4096) (hb : b < 4096) : ibits .or .i64 (a : Int) (b : Int) = ((a ||| b : Nat) : Int) := by
 have e1 : (BitVec.ofInt 64 (a : Int) ||| BitVec.ofInt 64 (b : Int)).toNat = a ||| b := by rw [BitVec.toNat_or, bvI a (by omega), bvI b (by omega)]
 show IntKind.wrap .i64 ((BitVec.ofInt 64 (a : Int) ||| BitVec.ofInt 64 (b : Int)).toNat : Int) = _
 have h : a ||| b < 4096 := Nat.or_lt_two_pow (n := 12) ha hb
 rw [e1, wrI (by omega)]
theorem shl12 {k : Nat} (h : k ≤ 12) : IntKind.wrap .i64 (Int.ofNat 1 * Int.ofNat 2 ^ min k 64) = ((2 ^ k : Nat) : Int) := by
 have h2 : 2 ^ k ≤ 4096 := Nat.pow_le_pow_right (n := 2) (by decide) h
 rw [Nat.min_eq_left (by omega), show (Int.ofNat 1 * Int.ofNat 2 ^ k : Int) = ((2 ^ k : Nat) : Int) by simp]
 generalize 2 ^ k = x at *
 exact wrI (by omega)
theorem shr12 (s : Nat) {k : Nat} (h : k ≤ 12) : Int.fdiv (Int.ofNat s) (Int.ofNat 2 ^ min k 64) = ((s / 2 ^ k : Nat) : Int) := by
 rw [Nat.min_eq_left (by omega), show (Int.ofNat 2 ^ k : Int) = ((2 ^ k : Nat) : Int) by simp, Int.fdiv_eq_ediv_of_nonneg _ (Int.natCast_nonneg _)]
 rfl
section
variable {r : Mem} {b off n cap : Nat} {T : List (List Bool)}
theorem bf_ok (hM : TabM r b off T) (hn : T.length = n) (hc : ckO T = true) {x : Nat} (hx : x < n) : GrT Tryz.prog r 42 [RS b off n cap, I (x : Nat)] (I (clW T x : Nat)) := by
 obtain ⟨rb, ro, rc2, hrow⟩ := tab_all hM hc hn
 have hl := ck_len hc
 refine GrT.ofS (C := SC r) rfl rfl rfl (callO (SC_ok r) (by kernel_rfl) ((bodySC r _).trans Bf_eq) (nt := 25) (by kernel_rfl) (rs := [.tmp 4]) (by kernel_rfl) 115 rfl ⟨[4], [], fun vs ms os => vs = [some (I (clW T x : Nat))] ∧ ms = [] ∧ os = []⟩ ?_ fun γ W F kk hwr hF hro h0' => ?_)
 ·rintro vs ms os ⟨rfl, rfl, rfl⟩
  exact ⟨_, mkA [], by kernel_rfl, rfl⟩
 have h0' : ∀ i, 0 ≤ i → γ i = none := h0'
 refine Go.Ev.Reach.after3R (SC_ok r) TOk.nil (tm := .nil) (L := 1) (L' := 1) (d := 1) hF hro h0' (.step (.step .base)) (o1 := ⟨lvBf, [], fun vs ms os => vs = vBf b off n cap x 0 0 ∧ ms = [] ∧ os = []⟩) (o2 := ⟨[5], [], fun vs ms os => vs = [some (I (clW T x : Nat))] ∧ ms = [] ∧ os = []⟩) [] (fun p hp => nomatch hp) ?_ ?_ ((bfA r b off n cap x _ _ _ _).trans (qq_ok ⟨rfl, rfl, rfl⟩))
 ·rintro vs ms os ⟨rfl, rfl, rfl⟩
  refine Go.Ev.Reach.blockC (Go.Ev.Reach.loopC (j := n) (lv := lvBf) (fl := []) (I := fun j vs ms os => ∃ k : Nat, k ≤ n ∧ j = n - k ∧ vs = vBf b off n cap x (clO T x k) k ∧ ms = [] ∧ os = []) (fun j vs ms os hI => ?_) ⟨0, by omega, rfl, rfl, rfl, rfl⟩)
  obtain ⟨k, hk, rfl, rfl, rfl, rfl⟩ := hI
  refine segSh 2 TOk.nil (tm := .nil) (L := 1) (L' := 1) (d := 1) hF hro h0' [(0, ⟨[5], [], fun vs ms os => vs = [some (I (clW T x : Nat))] ∧ ms = [] ∧ os = []⟩)] (fun p hp => by simp only [List.mem_cons, List.not_mem_nil, or_false] at hp; subst hp; rfl) ?_
  have hn' := bfB r b off n cap x (clO T x k) k
  simp only [tnO] at hn'
  by_cases c : k < n
  ·have q1 : Nat.blt k n = true := Nat.ble_eq_true_of_le c
   have q2 : Nat.blt x n = true := Nat.ble_eq_true_of_le hx
   have q3 := lt12 (show k ≤ 12 by omega) (clO_lt T x k)
   have q4 : 2 ^ k < 4096 := Nat.pow_lt_pow_right (n := 12) (by decide) (by omega)
   have q5 : ibits BinOp.or IntKind.i64 (Int.ofNat (clO T x k)) ((2 ^ k : Nat) : Int) = ((clO T x k ||| 2 ^ k : Nat) : Int) := orI q3 q4
   simp only [dT (show Int.ofNat k < Int.ofNat n by simp; omega), q1, q2, e0x, (hrow k c).1, (hrow k c).2 x hx, ro_RS, ln_RS, bk_RS, of_RS, b_bl, o_bl, cond_true] at hn'
   simp only [shl12 (show k ≤ 12 by omega), q5] at hn'
   rw [show IntKind.wrap .i64 (Int.ofNat k + Int.ofNat 1) = ((k + 1 : Nat) : Int) from inc1 (by omega)] at hn'
   cases hg : gT T k x with
   | true =>
    simp only [hg, cond_true] at hn'
    exact (hn' _ _ _ _).trans (qq_ok ⟨n - (k + 1), by omega, k + 1, c, rfl, by rw [clO, if_pos hg]; rfl, rfl, rfl⟩)
   | false =>
    simp only [hg, cond_false] at hn'
    exact (hn' _ _ _ _).trans (qq_ok ⟨n - (k + 1), by omega, k + 1, c, rfl, by rw [clO, if_neg (by rw [hg]; simp)]; rfl, rfl, rfl⟩)
  ·obtain rfl : k = n := by omega
   simp only [dF (show ¬ Int.ofNat k < Int.ofNat k by simp), cond_false] at hn'
   exact (hn' _ _ _ _).trans (qq_ok ⟨by unfold clW; rw [hn]; rfl, rfl, rfl⟩)
 ·rintro vs ms os ⟨rfl, rfl, rfl⟩
  exact Go.Ev.Reach.segR (SC_ok r) TOk.nil (tm := .nil) (L := 1) (L' := 1) (d := 1) hF hro h0' [] (fun p hp => nomatch hp) ((bfC r (clW T x) _ _ _ _).trans (qq_ok ⟨rfl, rfl, rfl⟩))
theorem sz_ok {s : Nat} (hs : s < 4096) : GrT Tryz.prog r 62 [I (s : Nat)] (I (szN s : Nat)) := by
 refine GrT.ofS (C := SC r) rfl rfl rfl (callL (SC_ok r) (by kernel_rfl) ((bodySC r _).trans Sz_eq) (nt := 18) (by kernel_rfl) (rs := [.tmp 2]) (by kernel_rfl) 29 rfl (.step (.step .base)) TOk.nil (tm := .nil) (L := 1) (d := 1) lvSz []
  (fun j vs ms os => ∃ k, k ≤ 12 ∧ j = 12 - k ∧ vs = vSz s (szK s k) k ∧ ms = [] ∧ os = [])
  ⟨[3], [], fun vs ms os => vs = [some (I (szN s : Nat))] ∧ ms = [] ∧ os = []⟩
  ⟨[2], [], fun vs ms os => vs = [some (I (szN s : Nat))] ∧ ms = [] ∧ os = []⟩ ?_ ?_ ?_ ?_)
 ·exact (szA r s _ _ _ _).trans (qq_ok ⟨12, 0, Nat.zero_le _, rfl, rfl, rfl, rfl⟩)
 ·rintro j vs ms os ⟨k, hk, rfl, rfl, rfl, rfl⟩
  refine ⟨_, TOk.nil, .nil, 1, 1, 1, ?_⟩
  have hn' := szB r s (szK s k) k
  simp only [tnO, shr12 s hk] at hn'
  have hz : szK s (k + 1) = szK s k + s / 2 ^ k % 2 := rfl
  by_cases c : s / 2 ^ k = 0
  ·rw [c] at hn'
   simp only [dF (show ¬ ((0 : Nat) : Int) > 0 by omega), cond_false] at hn'
   exact (hn' _ _ _ _).trans (qq_ok ⟨by rw [← szK_end hs hk c]; rfl, rfl, rfl⟩)
  ·have hk2 : k ≠ 12 := fun e => c (by subst e; exact Nat.div_eq_of_lt hs)
   have h1 := szK_le s k
   obtain ⟨y, hy⟩ : ∃ y, s / 2 ^ k = y := ⟨_, rfl⟩
   rw [hy] at hn' hz c
   have e1 : IntKind.wrap .i64 (Int.ofNat (szK s k) + Int.tmod ((y : Nat) : Int) (Int.ofNat 2)) = ((szK s (k + 1) : Nat) : Int) := by
    have e2 : Int.tmod ((y : Nat) : Int) (Int.ofNat 2) = ((y % 2 : Nat) : Int) := rfl
    have e3 : Int.ofNat (szK s k) = ((szK s k : Nat) : Int) := rfl
    rw [e2, e3, hz, wrI (by omega)]
    omega
   simp only [dT (show ((y : Nat) : Int) > 0 by omega), cond_true, e1] at hn'
   rw [show IntKind.wrap .i64 (Int.ofNat k + Int.ofNat 1) = ((k + 1 : Nat) : Int) from inc1 (by omega)] at hn'
   exact (hn' _ _ _ _).trans (qq_ok ⟨12 - (k + 1), by omega, k + 1, by omega, rfl, rfl, rfl, rfl⟩)
 ·rintro vs ms os ⟨rfl, rfl, rfl⟩
  exact ⟨_, TOk.nil, .nil, 1, 1, 1, (szC r _ _ _ _ _).trans (qq_ok ⟨rfl, rfl, rfl⟩)⟩
 ·rintro vs ms os ⟨rfl, rfl, rfl⟩
  exact ⟨_, mkA [], by kernel_rfl, rfl⟩
theorem eBe_ok (hM : TabM r b off T) (hn : T.length = n) (hc : ckO T = true) : EOk (SC r) 42 (eBe (RS b off n cap) n (clW T)) := EOk.ent fun args A hgd => by
 split at hgd
 ·rename_i o y
  obtain ⟨rfl, h1, h2⟩ := @of_decide_eq_true _ (Classical.propDecidable _) hgd
  have h := bf_ok (cap := cap) hM hn hc (x := y.toNat) (by omega)
  rw [show ((y.toNat : Nat) : Int) = y by omega] at h
  exact h.ro (by rfl) A
 ·cases hgd
theorem eS12_ok : EOk (SC r) 62 eS12 := EOk.ent fun args A hgd => by
 split at hgd
 ·rename_i s
  have h0 := of_decide_eq_true hgd
  have h := sz_ok (r := r) (s := s.toNat) (by omega)
  rw [show ((s.toNat : Nat) : Int) = s by omega] at h
  exact h.ro (by rfl) A
 ·cases hgd
theorem tRs_ok (hM : TabM r b off T) (hn : T.length = n) (hc : ckO T = true) : TOk (SC r) (tRs (RS b off n cap) n (clW T)) := (TOk.nil.cons eS12_ok).cons (eBe_ok hM hn hc)
end
end Go.Proofs
namespace Go.Proofs
open Go Go.Ev Go.Num
noncomputable def Ru_1 : Code := lc Rs_7
noncomputable def Ru_2 : Code := lc (rc Rs_7)
noncomputable def Ru_3 : Code := lc (rc (rc Rs_7))
noncomputable def Ru_4 : Code := lc (rc (rc (rc Rs_7)))
noncomputable def Ru_5 : Code := rc (rc (rc (rc Rs_7)))
theorem Ru_eq : Rs_7 = (.seq Ru_1 (.seq Ru_2 (.seq Ru_3 (.seq Ru_4 Ru_5)))) := by kernel_rfl
def lvRo : List Nat := [0, 3, 4, 6, 7]
def vRo (b off n cap x q k : Nat) : OV := [some (RS b off n cap), some (gx 0 q), some (I (x : Nat)), some (I (k : Nat)), some (gx 1 (k + 1))]
theorem ruA (r : Mem) (b off n cap x q s k : Nat) (c : List Value) (fs : FnsC) (K : KO) (KX : Nat → KO) (kr : KS) : run (SC r) 253 78 1 Ru_1 fs none (rbK 0 lvRm [] K) (fun j => rbK 0 lvRn [] (KX j)) kr [] (bT lvRm (vRm b off n cap x (gx 0 q) s k) .nil) [] (mkA [oI1 c 0]) =
    bif decide (Int.ofNat k < Int.ofNat q) then bif Nat.blt (Int.toNat (Int.ofNat k)) q then Option.casesOn c[Nat.add 0 (Nat.mul (Int.toNat (Int.ofNat k)) 1)]? (.fail 423) fun val => bif isI IntKind.i64 val then bif ofI val == Int.ofNat s then bif m_nns c && true then KX 1 [some (RS b off n cap), some (gx 0 q), some (I (Int.ofNat x))] [] [some (.cells c 3 0 1)] else F4 else bif m_nns c && true then K [some (RS b off n cap), some (gx 0 q), some (I (Int.ofNat x)), some (I (Int.ofNat s)), some (I (Int.ofNat k))] [] [some (.cells c 3 0 1)] else F4 else F4 else F4 else bif m_nns c && true then K [some (RS b off n cap), some (gx 0 q), some (I (Int.ofNat x)), some (I (Int.ofNat s)), some (I (Int.ofNat k))] [] [some (.cells c 3 0 1)] else F4 := by kernel_rfl
theorem ruB (r : Mem) (b off n cap x q s k : Nat) (c : List Value) (fs : FnsC) (K : KO) (kx : Nat → KS) (kr : KS) : run (SC r) 253 78 1 (.seq Ru_2 (.seq Ru_3 Ru_4)) fs none (rbK 0 lvRo [] K) kx kr [] (bT lvRm (vRm b off n cap x (gx 0 q) s k) .nil) [] (mkA [oI1 c 0]) =
    bif Nat.ble (Int.toNat (Int.ofNat k)) q then bif Nat.ble (Nat.add 0 (Int.toNat (Int.ofNat k))) 1000000 then Option.casesOn (takeAt c 0 (Nat.mul (Int.toNat (Int.ofNat k)) 1)) (.fail 443) fun val => bif Nat.beq (List.length val) (Nat.mul (Int.toNat (Int.ofNat k)) 1) then bif Nat.beq (Int.toNat (Int.ofNat k)) 0 then bif m_nns c && (m_nns [I (Int.ofNat s)] && true) then K [some (RS b off n cap), some (gx 0 q), some (I (Int.ofNat x)), some (I (Int.ofNat k)), some (.slice (some ⟨1, 0, none⟩) 1 unk)] [] [some (.cells c 3 0 1), some (.cells [I (Int.ofNat s)] 3 1 1)] else F4 else bif Nat.ble (Nat.add (Int.toNat (Int.ofNat k)) 1) 1000000 then Option.casesOn (takeAt val 0 (Nat.mul (Int.toNat (Int.ofNat k)) 1)) (.fail 439) fun val => bif m_nns c && (m_nns (val ++ [I (Int.ofNat s)]) && true) then K [some (RS b off n cap), some (gx 0 q), some (I (Int.ofNat x)), some (I (Int.ofNat k)), some (.slice (some ⟨1, 0, none⟩) (Nat.add (Int.toNat (Int.ofNat k)) 1) unk)] [] [some (.cells c 3 0 1), some (.cells (val ++ [I (Int.ofNat s)]) 3 1 1)] else F4 else F4 else F4 else F4 else F4 := by kernel_rfl
theorem ruC (r : Mem) (b off n cap x q k : Nat) (c d : List Value) (fs : FnsC) (K : KO) (kx : Nat → KS) (kr : KS) : run (SC r) 253 78 1 Ru_5 fs none (rbK 0 lvRn [] K) kx kr [] (bT lvRo (vRo b off n cap x q k) .nil) [] (mkA [oI1 c 0, oI1 d 1]) =
    bif Nat.ble (Int.toNat (Int.ofNat k)) q then bif Nat.ble q q then bif Nat.beq (Int.toNat (Int.ofNat k)) 0 then bif Nat.ble (Nat.add (k + 1) q) 1000000 then Option.casesOn (takeAt c 0 (Nat.mul q 1)) (.fail 443) fun val => bif Nat.beq (List.length val) (Nat.mul q 1) then bif Nat.beq q 0 then bif m_nns d && true then K [some (RS b off n cap), some (.slice (some ⟨0, 0, none⟩) (k + 1) unk), some (I (Int.ofNat x))] [] [some (.cells d 3 0 1)] else F4 else bif Ev.ones val then Option.casesOn (takeAt d 0 (Nat.mul (k + 1) 1)) (.fail 439) fun val_1 => bif m_nns (val_1 ++ val) && true then K [some (RS b off n cap), some (.slice (some ⟨0, 0, none⟩) (Nat.add (k + 1) q) unk), some (I (Int.ofNat x))] [] [some (.cells (val_1 ++ val) 3 0 1)] else F4 else F4 else F4 else F4 else bif Nat.blt (Int.toNat (Int.ofNat k)) q then bif Nat.ble (Nat.add (k + 1) (Nat.sub q (Int.toNat (Int.ofNat k)))) 1000000 then Option.casesOn (takeAt c (Nat.add 0 (Nat.mul (Int.toNat (Int.ofNat k)) 1)) (Nat.mul (Nat.sub q (Int.toNat (Int.ofNat k))) 1)) (.fail 443) fun val => bif Nat.beq (List.length val) (Nat.mul (Nat.sub q (Int.toNat (Int.ofNat k))) 1) then bif Nat.beq (Nat.sub q (Int.toNat (Int.ofNat k))) 0 then bif m_nns d && true then K [some (RS b off n cap), some (.slice (some ⟨0, 0, none⟩) (k + 1) unk), some (I (Int.ofNat x))] [] [some (.cells d 3 0 1)] else F4 else bif Ev.ones val then Option.casesOn (takeAt d 0 (Nat.mul (k + 1) 1)) (.fail 439) fun val_1 => bif m_nns (val_1 ++ val) && true then K [some (RS b off n cap), some (.slice (some ⟨0, 0, none⟩) (Nat.add (k + 1) (Nat.sub q (Int.toNat (Int.ofNat k)))) unk), some (I (Int.ofNat x))] [] [some (.cells (val_1 ++ val) 3 0 1)] else F4 else F4 else F4 else F4 else bif Nat.ble (Nat.add (k + 1) 0) 1000000 then bif m_nns d && true then K [some (RS b off n cap), some (.slice (some ⟨0, 0, none⟩) (k + 1) unk), some (I (Int.ofNat x))] [] [some (.cells d 3 0 1)] else F4 else F4 else F4 else F4 := by kernel_rfl
end Go.Proofs
namespace Go.Proofs
open Go Go.Ev Go.Num
def eI (l : List Nat) : List Int := l.map fun x : Nat => (x : Int)
theorem eI_len (l : List Nat) : (eI l).length = l.length := by simp [eI]
theorem eI_get {l : List Nat} {k : Nat} (h : k < l.length) : (eI l).getD k 0 = ((l[k] : Nat) : Int) := by simp [eI, h]
theorem insU_at {s : Nat} : ∀ {l : List Nat} {k : Nat}, (∀ j, (h : j < l.length) → j < k → ltS l[j] s = true) → k ≤ l.length → (∀ h : k < l.length, ltS l[k] s = false) →
  insU s l = (if ∃ h : k < l.length, l[k] = s then l else l.take k ++ s :: l.drop k)
 | [], k, _, hk, _ => by
  have : k = 0 := by simpa using hk
  subst this
  simp [insU]
 | y :: l, 0, _, _, hf => by
  have h0 := hf (by simp)
  simp only [List.getElem_cons_zero] at h0
  rw [insU, h0, cond_false]
  by_cases c : y = s
  ·subst c
   rw [Nat.beq_refl, cond_true, if_pos ⟨by simp, rfl⟩]
  ·rw [natFx c, cond_false, if_neg (fun ⟨_, h⟩ => c h)]
   simp
 | y :: l, k + 1, hp, hk, hf => by
  have h0 := hp 0 (by simp) (by omega)
  simp only [List.getElem_cons_zero] at h0
  have ih := insU_at (s := s) (l := l) (k := k) (fun j hj hjk => by
   have := hp (j + 1) (by simpa using hj) (by omega)
   simpa using this) (by simpa using hk) (fun h => by
   have := hf (by simpa using h)
   simpa using this)
  rw [insU, h0, cond_true, ih]
  by_cases c : ∃ h : k < l.length, l[k] = s
  ·rw [if_pos c, if_pos]
   obtain ⟨h1, h2⟩ := c
   exact ⟨by simpa using h1, by simpa using h2⟩
  ·rw [if_neg c, if_neg]
   ·simp
   ·rintro ⟨h1, h2⟩
    exact c ⟨by simpa using h1, by simpa using h2⟩
theorem rs_lt {w : Nat → Nat} (hw : ∀ j, w j < 4096) {n k : Nat} (h : k < (rsN w n).length) : (rsN w n)[k] < 4096 := by
 obtain ⟨j, _, e⟩ := rsN_mem.1 (List.getElem_mem h)
 rw [← e]; exact hw j
section
variable {r : Mem} {b off n cap : Nat} {T : List (List Bool)}
theorem sy_round (hM : TabM r b off T) (hn : T.length = n) (hc : ckO T = true) {w : Nat → Nat} (hwT : w = clW T) (hw : ∀ j, w j < 4096) {x : Nat} (hx : x < n) (hn12 : n ≤ 12) (hx1 : 1 ≤ x) {F : Fence} {kk : Nat} {γ : Gam} {W : World} (hF : Wide F) (hro : RoRel γ none F.round) (h0' : ∀ i, 0 ≤ i → γ i = none) {ox : Nat → Outs} {orr : Outs} :
  Go.Ev.Reach (SC r) 253 78 F kk γ W (.block 1 (.seq Rs_4 (.seq Rs_5 (.seq (.block 2 (.loop Rs_6)) Rs_7)))) (St.of lvRn (vRn b off n cap x (gx 0 (rsN w x).length)) [] [oI1 (rowI (eI (rsN w x))) 0]) (CanQ (SC r) 253 78 γ W ⟨lvRn, [], fun vs ms os => vs = vRn b off n cap x (gx 0 (rsN w (x + 1)).length) ∧ ms = [] ∧ os = [oI1 (rowI (eI (rsN w (x + 1)))) 0]⟩ ox orr) := by
 have htR : TOk (SC r) (tRs (RS b off n cap) n w) := by rw [hwT]; exact tRs_ok hM hn hc
 obtain ⟨L, hL⟩ : ∃ L, L = rsN w x := ⟨_, rfl⟩
 have hLn : rsN w (x + 1) = insU (w x) L := by rw [hL]; rfl
 have hlen : L.length ≤ x := by rw [hL]; exact rs_len w x
 have hlt : ∀ k, (h : k < L.length) → L[k] < 4096 := fun k h => by subst hL; exact rs_lt hw h
 rw [← hL, hLn]
 have hnn := rowI_nn (eI L)
 refine Go.Ev.Reach.blockC (Go.Ev.Reach.afterR (SC_ok r) htR (tm := .nil) (L := 1) (L' := 1) (d := 1) hF hro h0' (.step .base) (o1 := ⟨lvRm, [], fun vs ms os => vs = vRm b off n cap x (gx 0 L.length) (w x) 0 ∧ ms = [] ∧ os = [oI1 (rowI (eI L)) 0]⟩) [] (fun p hp => nomatch hp) (fun vs ms os hq => ?_) ?_)
 ·obtain ⟨rfl, rfl, rfl⟩ := hq
  refine Go.Ev.Reach.seqC (o1 := ⟨lvRm, [], fun vs ms os => ∃ k, k ≤ L.length ∧ (∀ j, (h : j < L.length) → j < k → ltS L[j] (w x) = true) ∧ (∀ h : k < L.length, ltS L[k] (w x) = false) ∧ vs = vRm b off n cap x (gx 0 L.length) (w x) k ∧ ms = [] ∧ os = [oI1 (rowI (eI L)) 0]⟩) (Go.Ev.Reach.blockC (Go.Ev.Reach.loopC (j := L.length) (lv := lvRm) (fl := []) (I := fun j vs ms os => ∃ k : Nat, k ≤ L.length ∧ j = L.length - k ∧ (∀ j, (h : j < L.length) → j < k → ltS L[j] (w x) = true) ∧ vs = vRm b off n cap x (gx 0 L.length) (w x) k ∧ ms = [] ∧ os = [oI1 (rowI (eI L)) 0]) (fun j vs ms os hI => ?_) ⟨0, by omega, rfl, fun _ _ h => absurd h (by omega), rfl, rfl, rfl⟩)) ?_
  ·obtain ⟨k, hk, rfl, hp, rfl, rfl, rfl⟩ := hI
   refine Go.Ev.Reach.segR (SC_ok r) htR (tm := .nil) (L := 1) (L' := 1) (d := 1) hF hro h0' [(2, ⟨lvRm, [], fun vs ms os => ∃ k, k ≤ L.length ∧ (∀ j, (h : j < L.length) → j < k → ltS L[j] (w x) = true) ∧ (∀ h : k < L.length, ltS L[k] (w x) = false) ∧ vs = vRm b off n cap x (gx 0 L.length) (w x) k ∧ ms = [] ∧ os = [oI1 (rowI (eI L)) 0]⟩)] (fun p hp => by simp only [List.mem_cons, List.not_mem_nil, or_false] at hp; subst hp; rfl) ?_
   have hn' := rzD r b off n cap x L.length (w x) k (rowI (eI L)) w
   simp only [tnO, hnn, Bool.and_true, cond_true] at hn'
   by_cases c : k < L.length
   ·have q1 : Nat.blt k L.length = true := Nat.ble_eq_true_of_le c
    have q2 : (rowI (eI L))[Nat.add 0 (Nat.mul k 1)]? = some (I ((L[k] : Nat) : Int)) := by
     rw [show Nat.add 0 (Nat.mul k 1) = k by simp, rowI_get (by rw [eI_len]; exact c), eI_get c]
    have q3 : m_s12 ((L[k] : Nat) : Int) = true := by have := hlt k c; exact dT (by omega)
    have q4 : m_s12 (Int.ofNat (w x)) = true := by have := hw x; exact dT (by simp; omega)
    have q5 : m_szI ((L[k] : Nat) : Int) = (szN L[k] : Int) := by unfold m_szI; rw [Int.toNat_natCast]
    have q6 : m_szI (Int.ofNat (w x)) = (szN (w x) : Int) := rfl
    simp only [dT (show Int.ofNat k < Int.ofNat L.length by simp; omega), q1, q2, isI_I, cond_true] at hn'
    dsimp +instances only [ofI_I] at hn'
    simp only [q3, q4, q5, q6, cond_true] at hn'
    rw [show IntKind.wrap .i64 (Int.ofNat k + Int.ofNat 1) = ((k + 1 : Nat) : Int) from inc1 (by omega)] at hn'
    have hlts : ltS L[k] (w x) = decide (szN L[k] < szN (w x) ∨ (szN L[k] = szN (w x) ∧ L[k] < w x)) := rfl
    have next : ltS L[k] (w x) = true → ∀ j, (h : j < L.length) → j < k + 1 → ltS L[j] (w x) = true := fun h j hj hjk => by
     by_cases e : j = k
     ·subst e; exact h
     ·exact hp j hj (by omega)
    by_cases d1 : szN L[k] < szN (w x)
    ·simp only [dT (show (szN L[k] : Int) < (szN (w x) : Int) by omega), cond_true] at hn'
     exact (hn' _ _ _).trans (qq_ok ⟨L.length - (k + 1), by omega, k + 1, c, rfl, next (by rw [hlts]; exact dT (.inl d1)), rfl, rfl, rfl⟩)
    ·simp only [dF (show ¬ (szN L[k] : Int) < (szN (w x) : Int) by omega), cond_false] at hn'
     by_cases d2 : szN L[k] = szN (w x)
     ·simp only [eqT (show (szN L[k] : Int) = (szN (w x) : Int) by omega), cond_true] at hn'
      by_cases d3 : L[k] < w x
      ·simp only [dT (show ((L[k] : Nat) : Int) < Int.ofNat (w x) by simp; omega), cond_true] at hn'
       exact (hn' _ _ _).trans (qq_ok ⟨L.length - (k + 1), by omega, k + 1, c, rfl, next (by rw [hlts]; exact dT (.inr ⟨d2, d3⟩)), rfl, rfl, rfl⟩)
      ·simp only [dF (show ¬ ((L[k] : Nat) : Int) < Int.ofNat (w x) by simp; omega), cond_false] at hn'
       exact (hn' _ _ _).trans (qq_ok ⟨k, hk, hp, fun _ => by rw [hlts]; exact dF (by omega), rfl, rfl, rfl⟩)
     ·simp only [eqF (show (szN L[k] : Int) ≠ (szN (w x) : Int) by omega), cond_false] at hn'
      exact (hn' _ _ _).trans (qq_ok ⟨k, hk, hp, fun _ => by rw [hlts]; exact dF (by omega), rfl, rfl, rfl⟩)
   ·obtain rfl : k = L.length := by omega
    simp only [dF (show ¬ Int.ofNat L.length < Int.ofNat L.length by simp), cond_false] at hn'
    exact (hn' _ _ _).trans (qq_ok ⟨L.length, hk, hp, fun h => absurd h c, rfl, rfl, rfl⟩)
  rintro vs ms os ⟨k, hk, hp, hf, rfl, rfl, rfl⟩
  have hins := insU_at hp hk hf
  rw [Ru_eq]
  have hq1 : 1 ≤ L.length := by
   have : w 0 ∈ rsN w x := rsN_mem.2 ⟨0, by omega, rfl⟩
   rw [← hL] at this
   exact List.length_pos_of_mem this
  refine Go.Ev.Reach.seqC (o1 := ⟨lvRm, [], fun vs ms os => (¬ ∃ h : k < L.length, L[k] = w x) ∧ vs = vRm b off n cap x (gx 0 L.length) (w x) k ∧ ms = [] ∧ os = [oI1 (rowI (eI L)) 0]⟩) (Go.Ev.Reach.segR (SC_ok r) TOk.nil (tm := .nil) (L := 1) (L' := 1) (d := 1) hF hro h0' [(1, ⟨lvRn, [], fun vs ms os => vs = vRn b off n cap x (gx 0 (insU (w x) L).length) ∧ ms = [] ∧ os = [oI1 (rowI (eI (insU (w x) L))) 0]⟩)] (fun p hp => by simp only [List.mem_cons, List.not_mem_nil, or_false] at hp; subst hp; rfl) ?_) ?_
  ·have hn' := ruA r b off n cap x L.length (w x) k (rowI (eI L))
   simp only [tnO, hnn, Bool.and_true, cond_true] at hn'
   by_cases c : k < L.length
   ·have q1 : Nat.blt k L.length = true := Nat.ble_eq_true_of_le c
    have q2 : (rowI (eI L))[Nat.add 0 (Nat.mul k 1)]? = some (I ((L[k] : Nat) : Int)) := by
     rw [show Nat.add 0 (Nat.mul k 1) = k by simp, rowI_get (by rw [eI_len]; exact c), eI_get c]
    simp only [dT (show Int.ofNat k < Int.ofNat L.length by simp; omega), q1, q2, isI_I, cond_true] at hn'
    dsimp +instances only [ofI_I] at hn'
    by_cases d : L[k] = w x
    ·simp only [eqT (show ((L[k] : Nat) : Int) = Int.ofNat (w x) by simp; omega), cond_true] at hn'
     rw [if_pos ⟨c, d⟩] at hins
     rw [hins]
     exact (hn' _ _ _ _).trans (qq_ok ⟨rfl, rfl, rfl⟩)
    ·simp only [eqF (show ((L[k] : Nat) : Int) ≠ Int.ofNat (w x) by simp; omega), cond_false] at hn'
     exact (hn' _ _ _ _).trans (qq_ok ⟨fun ⟨_, h⟩ => d h, rfl, rfl, rfl⟩)
   ·simp only [dF (show ¬ Int.ofNat k < Int.ofNat L.length by simp; omega), cond_false] at hn'
    exact (hn' _ _ _ _).trans (qq_ok ⟨fun ⟨h, _⟩ => c h, rfl, rfl, rfl⟩)
  rintro vs ms os ⟨hno, rfl, rfl, rfl⟩
  rw [if_neg hno] at hins
  have hel : (eI L).length = L.length := eI_len L
  have htk : takeAt (rowI (eI L)) 0 k = some (rowI ((eI L).take k)) := rowI_take (by omega)
  have hdl : ((eI L).take k ++ [Int.ofNat (w x)]).length = k + 1 := by simp [hel]; omega
  refine Go.Ev.Reach.afterR (SC_ok r) TOk.nil (tm := .nil) (L := 1) (L' := 1) (d := 1) hF hro h0' (.step (.step .base)) (o1 := ⟨lvRo, [], fun vs ms os => vs = vRo b off n cap x L.length k ∧ ms = [] ∧ os = [oI1 (rowI (eI L)) 0, oI1 (rowI ((eI L).take k ++ [Int.ofNat (w x)])) 1]⟩) [] (fun p hp => nomatch hp) (fun vs ms os hq => ?_) ?_
  ·obtain ⟨rfl, rfl, rfl⟩ := hq
   have hn' := ruC r b off n cap x L.length k (rowI (eI L)) (rowI ((eI L).take k ++ [Int.ofNat (w x)]))
   have hres : eI (insU (w x) L) = (eI L).take k ++ [Int.ofNat (w x)] ++ (eI L).drop k := by
    rw [hins]
    simp [eI, List.map_take, List.map_drop]
   have hrl : (insU (w x) L).length = k + 1 + (L.length - k) := by
    rw [hins]; simp; omega
   rw [hres, hrl]
   have b1 : Nat.ble k L.length = true := Nat.ble_eq_true_of_le hk
   have b2 : Nat.ble L.length L.length = true := Nat.ble_eq_true_of_le (Nat.le_refl _)
   have hdd : takeAt (rowI ((eI L).take k ++ [Int.ofNat (w x)])) 0 (k + 1) = some (rowI ((eI L).take k ++ [Int.ofNat (w x)])) := takeL_row _ _ (by rw [rowI_len, hdl])
   simp only [tnO, Nat.mul_eq, Nat.mul_one, b1, b2, hdd, rowI_nn, Bool.and_true, cond_true] at hn'
   have happ : ∀ e1 e2 : List Int, rowI e1 ++ rowI e2 = rowI (e1 ++ e2) := fun e1 e2 => by simp [rowI]
   by_cases k0 : k = 0
   ·subst k0
    have ht : takeAt (rowI (eI L)) 0 L.length = some (rowI (eI L)) := takeL_row _ _ (by rw [rowI_len, hel])
    simp only [show Nat.beq 0 0 = true from rfl, ht, rowI_len, hel, Nat.beq_refl, natFx (show L.length ≠ 0 by omega), Nat.ble_eq_true_of_le (show Nat.add (0 + 1) L.length ≤ 1000000 by simp; omega), rowI_ones, happ, rowI_nn, Bool.and_true, cond_true, cond_false] at hn'
    exact Go.Ev.Reach.segR (SC_ok r) TOk.nil (tm := .nil) (L := 1) (L' := 1) (d := 1) hF hro h0' [] (fun p hp => nomatch hp) ((hn' _ _ _ _).trans (qq_ok ⟨by rw [Nat.sub_zero]; rfl, rfl, rfl⟩))
   ·by_cases c : k < L.length
    ·have q1 : Nat.blt k L.length = true := Nat.ble_eq_true_of_le c
     have ht : takeAt (rowI (eI L)) (Nat.add 0 k) (Nat.sub L.length k) = some (rowI ((eI L).drop k)) := by
      rw [Nat.add_eq, Nat.zero_add, Nat.sub_eq]
      exact rowI_drop (by omega)
     have hdl2 : (rowI ((eI L).drop k)).length = Nat.sub L.length k := by rw [rowI_len, List.length_drop, hel]; rfl
     simp only [natFx k0, q1, ht, hdl2, Nat.beq_refl, natFx (show Nat.sub L.length k ≠ 0 by rw [Nat.sub_eq]; omega), Nat.ble_eq_true_of_le (show Nat.add (k + 1) (Nat.sub L.length k) ≤ 1000000 by rw [Nat.add_eq, Nat.sub_eq]; omega), rowI_ones, happ, rowI_nn, Bool.and_true, cond_true, cond_false] at hn'
     exact Go.Ev.Reach.segR (SC_ok r) TOk.nil (tm := .nil) (L := 1) (L' := 1) (d := 1) hF hro h0' [] (fun p hp => nomatch hp) ((hn' _ _ _ _).trans (qq_ok ⟨rfl, rfl, rfl⟩))
    ·obtain rfl : k = L.length := by omega
     have q1 : Nat.blt L.length L.length = false := by
      cases h : Nat.blt L.length L.length with
      | false => rfl
      | true => exact absurd (Nat.le_of_ble_eq_true h) (by omega)
     simp only [natFx k0, q1, Nat.ble_eq_true_of_le (show Nat.add (L.length + 1) 0 ≤ 1000000 by simp; omega), cond_true, cond_false] at hn'
     exact Go.Ev.Reach.segR (SC_ok r) TOk.nil (tm := .nil) (L := 1) (L' := 1) (d := 1) hF hro h0' [] (fun p hp => nomatch hp) ((hn' _ _ _ _).trans (qq_ok ⟨by rw [Nat.sub_self]; rfl, rfl, by rw [List.drop_of_length_le (by omega), List.append_nil]; rfl⟩))
  ·have hn' := ruB r b off n cap x L.length (w x) k (rowI (eI L))
   have b1 : Nat.ble k L.length = true := Nat.ble_eq_true_of_le hk
   have hl1 : (rowI ((eI L).take k)).length = k := by rw [rowI_len]; simp [hel]; omega
   have htt : takeAt (rowI ((eI L).take k)) 0 k = some (rowI ((eI L).take k)) := takeL_row _ _ hl1
   simp only [tnO, Nat.mul_eq, Nat.mul_one, b1, Nat.ble_eq_true_of_le (show Nat.add 0 k ≤ 1000000 by simp; omega), htk, hl1, Nat.beq_refl, htt, Nat.ble_eq_true_of_le (show Nat.add k 1 ≤ 1000000 by simp; omega), hnn, cond_true] at hn'
   by_cases k0 : k = 0
   ·subst k0
    simp only [show Nat.beq 0 0 = true from rfl, cond_true] at hn'
    exact (hn' _ _ _ _).trans (qq_ok ⟨rfl, rfl, rfl⟩)
   ·simp only [natFx k0, cond_false] at hn'
    have e1 : rowI ((eI L).take k) ++ [I (Int.ofNat (w x))] = rowI ((eI L).take k ++ [Int.ofNat (w x)]) := by simp [rowI]
    simp only [e1, rowI_nn, Bool.and_true, cond_true] at hn'
    exact (hn' _ _ _ _).trans (qq_ok ⟨rfl, rfl, rfl⟩)
 ·have hn' := rzC r b off n cap x L.length (rowI (eI L)) w
  have e1 : m_bg (.slice (some ⟨b, off, some 0⟩) n cap) n (.slice (some ⟨b, off, some 0⟩) n cap) (Int.ofNat x) = true := @decide_eq_true _ (Classical.propDecidable _) ⟨rfl, by simp, by simp; omega⟩
  simp only [e1, hnn, Bool.and_true, cond_true] at hn'
  exact (hn' _ _ _).trans (qq_ok ⟨rfl, rfl, rfl⟩)
end
end Go.Proofs
namespace Go.Proofs
open Go Go.Ev Go.Num
noncomputable def tRm (s : Value) (k : Nat) (c : List Value) : Tbl := tcons 36 (eNw [s] 3 k c) fun _ => none
theorem rmA (r : Mem) (b off n cap k : Nat) (c : List Value) : (lvlT (SC r) (tRm (RS b off n cap) k c) .nil 1 2).call 12 [RS b off n cap] emptyA fin =
    bif m_svv [.slice (some ⟨b, off, some 0⟩) n cap] [.slice (some ⟨b, off, some 0⟩) n cap] then .ret (I (Int.ofNat k)) (AW.mk 0 .nil .nil) else F4 := by kernel_rfl
section
variable {r : Mem} {b off n cap : Nat} {T : List (List Bool)}
theorem rs_S (hM : TabM r b off T) (hn : T.length = n) (hc : ckO T = true) : SOk (SC r) 36 [RS b off n cap] emptyA fun v A => v = gx 0 (rsN (clW T) n).length ∧ A = mkA [oI1 (rowI (eI (rsN (clW T) n))) 0] := by
 have hl := ck_len hc
 obtain ⟨w, hwT⟩ : ∃ w, w = clW T := ⟨_, rfl⟩
 have hw : ∀ j, w j < 4096 := fun j => by subst hwT; exact lt12 (show T.length ≤ 12 by omega) (clO_lt T j T.length)
 rw [← hwT]
 refine callO (SC_ok r) (by kernel_rfl) ((bodySC r _).trans Rs_eq) (nt := 78) (by kernel_rfl) (rs := [.tmp 2]) (by kernel_rfl) 253 rfl ⟨[2], [], fun vs ms os => vs = [some (gx 0 (rsN w n).length)] ∧ ms = [] ∧ os = [oI1 (rowI (eI (rsN w n))) 0]⟩ ?_ fun γ W F kk hwr hF hro h0' => ?_
 ·rintro vs ms os ⟨rfl, rfl, rfl⟩
  exact ⟨_, mkA [oI1 (rowI (eI (rsN w n))) 0], by kernel_rfl, rfl, rfl⟩
 have h0' : ∀ i, 0 ≤ i → γ i = none := h0'
 refine Go.Ev.Reach.after3R (SC_ok r) TOk.nil (tm := .nil) (L := 1) (L' := 1) (d := 1) hF hro h0' (.step (.step .base)) (o1 := ⟨lvRn, [], fun vs ms os => vs = vRn b off n cap 0 nilT ∧ ms = [] ∧ os = []⟩) (o2 := ⟨[3], [], fun vs ms os => vs = [some (gx 0 (rsN w n).length)] ∧ ms = [] ∧ os = [oI1 (rowI (eI (rsN w n))) 0]⟩) [] (fun p hp => nomatch hp) ?_ ?_ ((rzA r b off n cap _ _ _ _).trans (qq_ok ⟨rfl, rfl, rfl⟩))
 ·rintro vs ms os ⟨rfl, rfl, rfl⟩
  refine Go.Ev.Reach.blockC (Go.Ev.Reach.loopC (j := n) (lv := lvRn) (fl := []) (I := fun j vs ms os => ∃ x : Nat, x ≤ n ∧ j = n - x ∧ ms = [] ∧ ((x = 0 ∧ vs = vRn b off n cap 0 nilT ∧ os = []) ∨ (1 ≤ x ∧ vs = vRn b off n cap x (gx 0 (rsN w x).length) ∧ os = [oI1 (rowI (eI (rsN w x))) 0]))) (fun j vs ms os hI => ?_) ⟨0, by omega, rfl, rfl, .inl ⟨rfl, rfl, rfl⟩⟩)
  obtain ⟨x, hx, rfl, rfl, ⟨rfl, rfl, rfl⟩ | ⟨hx1, rfl, rfl⟩⟩ := hI
  ·refine Go.Ev.Reach.segR (SC_ok r) (t := tRs (RS b off n cap) n w) (by rw [hwT]; exact tRs_ok hM hn hc) (tm := .nil) (L := 3) (L' := 1) (d := 1) hF hro h0' [] (fun p hp => nomatch hp) ?_
   have hn' := rzN r b off n cap w
   have e1 : m_bg (.slice (some ⟨b, off, some 0⟩) n cap) n (.slice (some ⟨b, off, some 0⟩) n cap) (Int.ofNat 0) = true := @decide_eq_true _ (Classical.propDecidable _) ⟨rfl, by simp, by simp; omega⟩
   simp only [dT (show (0 : Int) < Int.ofNat n by simp; omega), e1, cond_true] at hn'
   exact (hn' _ _ _).trans (qq_ok ⟨n - 1, by omega, 1, by omega, rfl, rfl, .inr ⟨Nat.le_refl _, rfl, rfl⟩⟩)
  ·have hnn := rowI_nn (eI (rsN w x))
   refine Go.Ev.Reach.seqC (o1 := ⟨lvRn, [], fun vs ms os => x < n ∧ vs = vRn b off n cap x (gx 0 (rsN w x).length) ∧ ms = [] ∧ os = [oI1 (rowI (eI (rsN w x))) 0]⟩) (Go.Ev.Reach.segR (SC_ok r) TOk.nil (tm := .nil) (L := 1) (L' := 1) (d := 1) hF hro h0' [(0, ⟨[3], [], fun vs ms os => vs = [some (gx 0 (rsN w n).length)] ∧ ms = [] ∧ os = [oI1 (rowI (eI (rsN w n))) 0]⟩)] (fun p hp => by simp only [List.mem_cons, List.not_mem_nil, or_false] at hp; subst hp; rfl) ?_) ?_
   ·have hn' := rzB r b off n cap x (rsN w x).length (rowI (eI (rsN w x)))
    simp only [hnn, Bool.and_true, cond_true] at hn'
    by_cases c : x < n
    ·simp only [dT (show Int.ofNat x < Int.ofNat n by simp; omega), cond_true] at hn'
     exact (hn' _ _ _ _).trans (qq_ok ⟨c, rfl, rfl, rfl⟩)
    ·obtain rfl : x = n := by omega
     simp only [dF (show ¬ Int.ofNat x < Int.ofNat x by simp), cond_false] at hn'
     exact (hn' _ _ _ _).trans (qq_ok ⟨rfl, rfl, rfl⟩)
   rintro vs ms os ⟨c, rfl, rfl, rfl⟩
   refine Go.Ev.Reach.seqC (sy_round hM hn hc hwT hw c (by omega) hx1 hF hro h0') ?_
   rintro vs ms os ⟨rfl, rfl, rfl⟩
   refine Go.Ev.Reach.segR (SC_ok r) TOk.nil (tm := .nil) (L := 1) (L' := 1) (d := 1) hF hro h0' [] (fun p hp => nomatch hp) ?_
   have hn' := rzF r b off n cap x (rsN w (x + 1)).length (rowI (eI (rsN w (x + 1))))
   simp only [rowI_nn, Bool.and_true, cond_true] at hn'
   rw [show IntKind.wrap .i64 (Int.ofNat x + Int.ofNat 1) = ((x + 1 : Nat) : Int) from inc1 (by omega)] at hn'
   exact (hn' _ _ _ _).trans (qq_ok ⟨n - (x + 1), by omega, x + 1, c, rfl, rfl, .inr ⟨by omega, rfl, rfl⟩⟩)
 ·rintro vs ms os ⟨rfl, rfl, rfl⟩
  have hn' := rzG r (rsN w n).length (rowI (eI (rsN w n)))
  simp only [rowI_nn, Bool.and_true, cond_true] at hn'
  exact Go.Ev.Reach.segR (SC_ok r) TOk.nil (tm := .nil) (L := 1) (L' := 1) (d := 1) hF hro h0' [] (fun p hp => nomatch hp) ((hn' _ _ _ _).trans (qq_ok ⟨rfl, rfl, rfl⟩))
theorem rm_ok (hM : TabM r b off T) (hn : T.length = n) (hc : ckO T = true) : GrT Tryz.prog r 12 [RS b off n cap] (I ((rsN (clW T) n).length : Nat)) := by
 refine GrT.of (SC_ok r) (t := tRm (RS b off n cap) (rsN (clW T) n).length (rowI (eI (rsN (clW T) n)))) (TOk.nil.cons (eNw_ok (A1 := emptyA) rfl (rowI_gnd _) (rs_S hM hn hc))) .nil rfl ⟨1, 2, ?_⟩
 have hn' := rmA r b off n cap (rsN (clW T) n).length (rowI (eI (rsN (clW T) n)))
 simp only [svv_rfl, cond_true] at hn'
 exact hn'.trans rfl
end
end Go.Proofs
namespace Go.Proofs
open Go Go.Ev Go.Num
noncomputable def cCn : Code := bodyOf S0 17
noncomputable def Cn_0 : Code := (lc cCn)
noncomputable def Cn_1 : Code := (lc (rc cCn))
noncomputable def Cn_2 : Code := (lc (rc (rc cCn)))
noncomputable def Cn_3 : Code := (lc (lc (rc (rc (rc cCn)))))
noncomputable def Cn_4 : Code := (lc (ic (ic (rc (lc (rc (rc (rc cCn))))))))
noncomputable def Cn_5 : Code := (lc (ic (lc (rc (ic (ic (rc (lc (rc (rc (rc cCn)))))))))))
noncomputable def Cn_6 : Code := (lc (lc (rc (ic (lc (rc (ic (ic (rc (lc (rc (rc (rc cCn)))))))))))))
noncomputable def Cn_7 : Code := (ic (ic (rc (lc (rc (ic (lc (rc (ic (ic (rc (lc (rc (rc (rc cCn)))))))))))))))
noncomputable def Cn_8 : Code := (rc (rc (ic (lc (rc (ic (ic (rc (lc (rc (rc (rc cCn))))))))))))
noncomputable def Cn_9 : Code := (rc (rc (ic (ic (rc (lc (rc (rc (rc cCn)))))))))
noncomputable def Cn_10 : Code := (rc (rc (rc (rc cCn))))
theorem Cn_eq : cCn = (.seq Cn_0 (.seq Cn_1 (.seq Cn_2 (.seq (.seq Cn_3 (.block 0 (.loop (.seq Cn_4 (.seq (.block 1 (.seq Cn_5 (.seq (.seq Cn_6 (.block 2 (.loop Cn_7))) Cn_8))) Cn_9))))) Cn_10)))) := by kernel_rfl
noncomputable def cHs : Code := bodyOf S0 11
noncomputable def Hs_0 : Code := (lc cHs)
noncomputable def Hs_1 : Code := (lc (rc cHs))
noncomputable def Hs_2 : Code := (lc (rc (rc cHs)))
noncomputable def Hs_3 : Code := (lc (lc (rc (rc (rc cHs)))))
noncomputable def Hs_4 : Code := (lc (ic (ic (rc (lc (rc (rc (rc cHs))))))))
noncomputable def Hs_5 : Code := (lc (ic (lc (rc (ic (ic (rc (lc (rc (rc (rc cHs)))))))))))
noncomputable def Hs_6 : Code := (lc (ic (ic (rc (ic (lc (rc (ic (ic (rc (lc (rc (rc (rc cHs))))))))))))))
noncomputable def Hs_7 : Code := (lc (ic (lc (rc (ic (ic (rc (ic (lc (rc (ic (ic (rc (lc (rc (rc (rc cHs)))))))))))))))))
noncomputable def Hs_8 : Code := (lc (ic (ic (rc (ic (lc (rc (ic (ic (rc (ic (lc (rc (ic (ic (rc (lc (rc (rc (rc cHs))))))))))))))))))))
noncomputable def Hs_9 : Code := (lc (ic (lc (rc (ic (ic (rc (ic (lc (rc (ic (ic (rc (ic (lc (rc (ic (ic (rc (lc (rc (rc (rc cHs)))))))))))))))))))))))
noncomputable def Hs_10 : Code := (ic (ic (rc (ic (lc (rc (ic (ic (rc (ic (lc (rc (ic (ic (rc (ic (lc (rc (ic (ic (rc (lc (rc (rc (rc cHs)))))))))))))))))))))))))
noncomputable def Hs_11 : Code := (rc (rc (ic (ic (rc (ic (lc (rc (ic (ic (rc (ic (lc (rc (ic (ic (rc (lc (rc (rc (rc cHs)))))))))))))))))))))
noncomputable def Hs_12 : Code := (rc (rc (ic (ic (rc (ic (lc (rc (ic (ic (rc (lc (rc (rc (rc cHs)))))))))))))))
noncomputable def Hs_13 : Code := (rc (rc (ic (ic (rc (lc (rc (rc (rc cHs)))))))))
noncomputable def Hs_14 : Code := (rc (rc (rc (rc cHs))))
theorem Hs_eq : cHs = (.seq Hs_0 (.seq Hs_1 (.seq Hs_2 (.seq (.seq Hs_3 (.block 0 (.loop (.seq Hs_4 (.seq (.block 1 (.seq Hs_5 (.block 2 (.loop (.seq Hs_6 (.seq (.block 3 (.seq Hs_7 (.block 4 (.loop (.seq Hs_8 (.seq (.block 5 (.seq Hs_9 (.block 6 (.loop Hs_10)))) Hs_11)))))) Hs_12)))))) Hs_13))))) Hs_14)))) := by kernel_rfl
noncomputable def cPz : Code := bodyOf S0 16
noncomputable def Pz_0 : Code := (lc cPz)
noncomputable def Pz_1 : Code := (lc (rc cPz))
noncomputable def Pz_2 : Code := (lc (lc (rc (rc cPz))))
noncomputable def Pz_3 : Code := (ic (ic (rc (lc (rc (rc cPz))))))
noncomputable def Pz_4 : Code := (rc (rc (rc cPz)))
theorem Pz_eq : cPz = (.seq Pz_0 (.seq Pz_1 (.seq (.seq Pz_2 (.block 0 (.loop Pz_3))) Pz_4))) := by kernel_rfl
def lvCn : List Nat := [0, 3, 4, 5]
def vCn (b off n cap q : Nat) (o : Value) (x : Nat) : OV := [some (RS b off n cap), some (gx 0 q), some o, some (I (x : Nat))]
def lvCm : List Nat := [0, 3, 4, 5, 6, 7]
def vCm (b off n cap q : Nat) (o : Value) (x j k : Nat) : OV := [some (RS b off n cap), some (gx 0 q), some o, some (I (x : Nat)), some (pq j), some (I (k : Nat))]
def lvCo : List Nat := [0, 3, 4, 5, 6]
def vCo (b off n cap q : Nat) (o : Value) (x j : Nat) : OV := [some (RS b off n cap), some (gx 0 q), some o, some (I (x : Nat)), some (pq j)]
def oBx2 (a e : Nat) (i : Nat) : Option AObj := some (.cells [I (a : Nat), I (e : Nat)] 71 i 0)
noncomputable def tCb (s : Value) (n : Nat) (w : Nat → Nat) : Tbl := tcons 42 (eBe s n w) fun _ => none
def mCn : Nat := 253
def mHs : Nat := 4093
def mPz : Nat := 51
noncomputable def m_q4 (s o : Value) (n : Nat) (a b c d : Int) : Bool := @decide (o = s ∧ (0 ≤ a ∧ a < n) ∧ (0 ≤ b ∧ b < n) ∧ (0 ≤ c ∧ c < n) ∧ (0 ≤ d ∧ d < n)) (Classical.propDecidable _)
def m_f4 (f : Nat → Nat → Nat → Nat → Bool) (a b c d : Int) : Bool := f a.toNat b.toNat c.toNat d.toNat
noncomputable def eQ4 (s : Value) (n : Nat) (f : Nat → Nat → Nat → Nat → Bool) : Ent := ent (fun args _ => match args with
 | [o, .agg ⟨[.int .i64 a, .int .i64 b, .int .i64 c, .int .i64 d]⟩] => m_q4 s o n a b c d
 | _ => false) fun args _ => match args with
 | [_, .agg ⟨[.int .i64 a, .int .i64 b, .int .i64 c, .int .i64 d]⟩] => .bool (m_f4 f a b c d)
 | _ => undef
noncomputable def tHs (s : Value) (n : Nat) (f g : Nat → Nat → Nat → Nat → Bool) : Tbl := tcons 13 (eQ4 s n f) (tcons 21 (eQ4 s n g) fun _ => none)
def lvH0 : List Nat := [0, 4, 5, 6, 7]
def lvH1 : List Nat := [0, 4, 5, 6, 7, 8]
def lvH2 : List Nat := [0, 4, 5, 6, 7, 8, 9]
def lvH3 : List Nat := [0, 4, 5, 6, 7, 8, 9, 10]
def vH0 (b off n cap : Nat) (u v : Bool) (x : Nat) : OV := [some (RS b off n cap), some (I (n : Nat)), some (.bool u), some (.bool v), some (I (x : Nat))]
def vH1 (b off n cap : Nat) (u v : Bool) (x y : Nat) : OV := vH0 b off n cap u v x ++ [some (I (y : Nat))]
def vH2 (b off n cap : Nat) (u v : Bool) (x y z : Nat) : OV := vH1 b off n cap u v x y ++ [some (I (z : Nat))]
def vH3 (b off n cap : Nat) (u v : Bool) (x y z t : Nat) : OV := vH2 b off n cap u v x y z ++ [some (I (t : Nat))]
def lvPz : List Nat := [0, 1, 5]
def vPz (b off n cap b2 o2 c2 k : Nat) : OV := [some (RS2 b off n cap), some (RS2 b2 o2 n c2), some (I (k : Nat))]
theorem cnA (r : Mem) (b off n cap q : Nat) (c : List Value) (K : KO) (kx : Nat → KS) (kr : KS) : run (SC r) mCn 47 1 (.seq Cn_0 (.seq Cn_1 (.seq Cn_2 Cn_3))) (lvlT (SC r) (tRm (RS b off n cap) q c) .nil 1 1) none (rbK 0 lvCn [] K) kx kr (sc0 mCn [RS b off n cap]) (tr0 mCn [RS b off n cap]) [] emptyA =
    bif m_svv [RS b off n cap] [RS b off n cap] then bif m_nns c && true then K [some (RS b off n cap), some (gx 0 q), some (.slice none 0 0), some (I (Int.ofNat 0))] [] [some (.cells c 3 0 1)] else F4 else F4 := by kernel_rfl
theorem cnBn (r : Mem) (b off n cap q x : Nat) (c : List Value) (fs : FnsC) (K : KO) (KX : Nat → KO) (kr : KS) : run (SC r) mCn 47 1 Cn_4 fs none (rbK 0 lvCn [] K) (fun j => rbK 0 [4] [] (KX j)) kr [] (bT lvCn (vCn b off n cap q nilT x) .nil) [] (mkA [oI1 c 0]) =
    bif decide (Int.ofNat x < Int.ofNat n) then bif m_nns c && true then K [some (RS b off n cap), some (gx 0 q), some (.slice none 0 0), some (I (Int.ofNat x))] [] [some (.cells c 3 0 1)] else F4 else KX 0 [some (.slice none 0 0)] [] [] := by kernel_rfl
theorem cnCn (r : Mem) (b off n cap q x : Nat) (c : List Value) (fs : FnsC) (K : KO) (kx : Nat → KS) (kr : KS) : run (SC r) mCn 47 1 (.seq Cn_5 Cn_6) fs none (rbK 0 lvCm [] K) kx kr [] (bT lvCn (vCn b off n cap q nilT x) .nil) [] (mkA [oI1 c 0]) =
    bif m_nns c && true then K [some (RS b off n cap), some (gx 0 q), some (.slice none 0 0), some (I (Int.ofNat x)), some (pq 1), some (I (Int.ofNat 0))] [] [some (.cells c 3 0 1), some (.cells [I (Int.ofNat 0), I (Int.ofNat 0)] 71 1 0)] else F4 := by kernel_rfl
theorem cnDn (r : Mem) (b off n cap q x k : Nat) (c : List Value) (a0 a1 : Nat) (w : Nat → Nat) (K : KO) (KX : Nat → KO) (kr : KS) : run (SC r) mCn 47 1 Cn_7 (lvlT (SC r) (tCb (RS b off n cap) n w) .nil 1 1) none (rbK 0 lvCm [] K) (fun j => rbK 0 lvCo [] (KX j)) kr [] (bT lvCm (vCm b off n cap q nilT x 1 k) .nil) [] (mkA [oI1 c 0, oBx2 a0 a1 1]) =
    bif decide (Int.ofNat k < Int.ofNat q) then bif Nat.blt (Int.toNat (Int.ofNat k)) q then Option.casesOn c[Nat.add 0 (Nat.mul (Int.toNat (Int.ofNat k)) 1)]? (.fail 423) fun val => bif isI IntKind.i64 val then bif m_bg (RS b off n cap) n (RS b off n cap) (Int.ofNat x) then bif ofI val == m_ow w (Int.ofNat x) then Option.casesOn c[Nat.add 0 (Nat.mul (Int.toNat (Int.ofNat k)) 1)]? (.fail 423) fun val_1 => bif isI IntKind.i64 val_1 then bif m_eqv (I (ofI val_1)) (I (ofI val)) then Option.casesOn c[Nat.add 0 (Nat.mul (Int.toNat (Int.ofNat k)) 1)]? (.fail 423) fun val_2 => bif isI IntKind.i64 val_2 then bif m_eqv (I (ofI val_2)) (I (ofI val)) then bif Nat.blt (Int.toNat (Int.ofNat k)) q then Option.casesOn c[Nat.add 0 (Nat.mul (Int.toNat (Int.ofNat k)) 1)]? (.fail 423) fun val => bif isI IntKind.i64 val then bif Int.tmod (Int.fdiv (ofI val) (Int.ofNat 2 ^ min (Int.toNat (Int.ofNat x)) 64)) (Int.ofNat 2) == Int.ofNat 0 then bif m_nns c && (m_nns [I (Int.ofNat k), I (Int.ofNat k)] && true) then K [some (RS b off n cap), some (gx 0 q), some (.slice none 0 0), some (I (Int.ofNat x)), some (pq 1), some (I (IntKind.wrap .i64 (Int.ofNat k + Int.ofNat 1)))] [] [some (.cells c 3 0 1), some (.cells [I (Int.ofNat k), I (Int.ofNat k)] 71 1 0)] else F4 else bif m_nns c && (m_nns [I (Int.ofNat k), I (Int.ofNat a1)] && true) then K [some (RS b off n cap), some (gx 0 q), some (.slice none 0 0), some (I (Int.ofNat x)), some (pq 1), some (I (IntKind.wrap .i64 (Int.ofNat k + Int.ofNat 1)))] [] [some (.cells c 3 0 1), some (.cells [I (Int.ofNat k), I (Int.ofNat a1)] 71 1 0)] else F4 else F4 else F4 else F4 else F4 else F4 else F4 else Option.casesOn c[Nat.add 0 (Nat.mul (Int.toNat (Int.ofNat k)) 1)]? (.fail 423) fun val_1 => bif isI IntKind.i64 val_1 then bif m_eqv (I (ofI val_1)) (I (ofI val)) then Option.casesOn c[Nat.add 0 (Nat.mul (Int.toNat (Int.ofNat k)) 1)]? (.fail 423) fun val_2 => bif isI IntKind.i64 val_2 then bif m_eqv (I (ofI val_2)) (I (ofI val)) then bif Nat.blt (Int.toNat (Int.ofNat k)) q then Option.casesOn c[Nat.add 0 (Nat.mul (Int.toNat (Int.ofNat k)) 1)]? (.fail 423) fun val => bif isI IntKind.i64 val then bif Int.tmod (Int.fdiv (ofI val) (Int.ofNat 2 ^ min (Int.toNat (Int.ofNat x)) 64)) (Int.ofNat 2) == Int.ofNat 0 then bif m_nns c && (m_nns [I (Int.ofNat a0), I (Int.ofNat k)] && true) then K [some (RS b off n cap), some (gx 0 q), some (.slice none 0 0), some (I (Int.ofNat x)), some (pq 1), some (I (IntKind.wrap .i64 (Int.ofNat k + Int.ofNat 1)))] [] [some (.cells c 3 0 1), some (.cells [I (Int.ofNat a0), I (Int.ofNat k)] 71 1 0)] else F4 else bif m_nns c && (m_nns [I (Int.ofNat a0), I (Int.ofNat a1)] && true) then K [some (RS b off n cap), some (gx 0 q), some (.slice none 0 0), some (I (Int.ofNat x)), some (pq 1), some (I (IntKind.wrap .i64 (Int.ofNat k + Int.ofNat 1)))] [] [some (.cells c 3 0 1), some (.cells [I (Int.ofNat a0), I (Int.ofNat a1)] 71 1 0)] else F4 else F4 else F4 else F4 else F4 else F4 else F4 else F4 else F4 else F4 else bif m_nns c && (m_nns [I (Int.ofNat a0), I (Int.ofNat a1)] && true) then KX 2 [some (RS b off n cap), some (gx 0 q), some (.slice none 0 0), some (I (Int.ofNat x)), some (pq 1)] [] [some (.cells c 3 0 1), some (.cells [I (Int.ofNat a0), I (Int.ofNat a1)] 71 1 0)] else F4 := by kernel_rfl
theorem cnEn (r : Mem) (b off n cap q x : Nat) (c : List Value) (a0 a1 : Nat) (fs : FnsC) (K : KO) (kx : Nat → KS) (kr : KS) : run (SC r) mCn 47 1 Cn_8 fs none (rbK 0 lvCn [] K) kx kr [] (bT lvCo (vCo b off n cap q nilT x 1) .nil) [] (mkA [oI1 c 0, oBx2 a0 a1 1]) =
    bif m_nns c && (m_nns [I (Int.ofNat a0), I (Int.ofNat a1)] && true) then K [some (RS b off n cap), some (gx 0 q), some (.slice (some ⟨1, 0, none⟩) 1 unk), some (I (Int.ofNat x))] [] [some (.cells c 3 0 1), some (.cells [I (Int.ofNat a0), I (Int.ofNat a1)] 71 1 2)] else F4 := by kernel_rfl
theorem cnBr (r : Mem) (b off n cap q x : Nat) (c : List Value) (e : List Value) (fs : FnsC) (K : KO) (KX : Nat → KO) (kr : KS) : run (SC r) mCn 47 1 Cn_4 fs none (rbK 0 lvCn [] K) (fun j => rbK 0 [4] [] (KX j)) kr [] (bT lvCn (vCn b off n cap q (gx 1 x) x) .nil) [] (mkA [oI1 c 0, oP2 e 1]) =
    bif decide (Int.ofNat x < Int.ofNat n) then bif m_nns c && (m_nns e && true) then K [some (RS b off n cap), some (gx 0 q), some (gx 1 x), some (I (Int.ofNat x))] [] [some (.cells c 3 0 1), some (.cells e 71 1 2)] else F4 else bif m_nns e && true then KX 0 [some (gx 0 x)] [] [some (.cells e 71 0 2)] else F4 := by kernel_rfl
theorem cnCr (r : Mem) (b off n cap q x : Nat) (c : List Value) (e : List Value) (fs : FnsC) (K : KO) (kx : Nat → KS) (kr : KS) : run (SC r) mCn 47 1 (.seq Cn_5 Cn_6) fs none (rbK 0 lvCm [] K) kx kr [] (bT lvCn (vCn b off n cap q (gx 1 x) x) .nil) [] (mkA [oI1 c 0, oP2 e 1]) =
    bif m_nns c && (m_nns e && true) then K [some (RS b off n cap), some (gx 0 q), some (gx 1 x), some (I (Int.ofNat x)), some (pq 2), some (I (Int.ofNat 0))] [] [some (.cells c 3 0 1), some (.cells e 71 1 2), some (.cells [I (Int.ofNat 0), I (Int.ofNat 0)] 71 2 0)] else F4 := by kernel_rfl
theorem cnDr (r : Mem) (b off n cap q x k : Nat) (c : List Value) (e : List Value) (a0 a1 : Nat) (w : Nat → Nat) (K : KO) (KX : Nat → KO) (kr : KS) : run (SC r) mCn 47 1 Cn_7 (lvlT (SC r) (tCb (RS b off n cap) n w) .nil 1 1) none (rbK 0 lvCm [] K) (fun j => rbK 0 lvCo [] (KX j)) kr [] (bT lvCm (vCm b off n cap q (gx 1 x) x 2 k) .nil) [] (mkA [oI1 c 0, oP2 e 1, oBx2 a0 a1 2]) =
    bif decide (Int.ofNat k < Int.ofNat q) then bif Nat.blt (Int.toNat (Int.ofNat k)) q then Option.casesOn c[Nat.add 0 (Nat.mul (Int.toNat (Int.ofNat k)) 1)]? (.fail 423) fun val => bif isI IntKind.i64 val then bif m_bg (RS b off n cap) n (RS b off n cap) (Int.ofNat x) then bif ofI val == m_ow w (Int.ofNat x) then Option.casesOn c[Nat.add 0 (Nat.mul (Int.toNat (Int.ofNat k)) 1)]? (.fail 423) fun val_1 => bif isI IntKind.i64 val_1 then bif m_eqv (I (ofI val_1)) (I (ofI val)) then Option.casesOn c[Nat.add 0 (Nat.mul (Int.toNat (Int.ofNat k)) 1)]? (.fail 423) fun val_2 => bif isI IntKind.i64 val_2 then bif m_eqv (I (ofI val_2)) (I (ofI val)) then bif Nat.blt (Int.toNat (Int.ofNat k)) q then Option.casesOn c[Nat.add 0 (Nat.mul (Int.toNat (Int.ofNat k)) 1)]? (.fail 423) fun val => bif isI IntKind.i64 val then bif Int.tmod (Int.fdiv (ofI val) (Int.ofNat 2 ^ min (Int.toNat (Int.ofNat x)) 64)) (Int.ofNat 2) == Int.ofNat 0 then bif m_nns c && (m_nns e && (m_nns [I (Int.ofNat k), I (Int.ofNat k)] && true)) then K [some (RS b off n cap), some (gx 0 q), some (gx 1 x), some (I (Int.ofNat x)), some (pq 2), some (I (IntKind.wrap .i64 (Int.ofNat k + Int.ofNat 1)))] [] [some (.cells c 3 0 1), some (.cells e 71 1 2), some (.cells [I (Int.ofNat k), I (Int.ofNat k)] 71 2 0)] else F4 else bif m_nns c && (m_nns e && (m_nns [I (Int.ofNat k), I (Int.ofNat a1)] && true)) then K [some (RS b off n cap), some (gx 0 q), some (gx 1 x), some (I (Int.ofNat x)), some (pq 2), some (I (IntKind.wrap .i64 (Int.ofNat k + Int.ofNat 1)))] [] [some (.cells c 3 0 1), some (.cells e 71 1 2), some (.cells [I (Int.ofNat k), I (Int.ofNat a1)] 71 2 0)] else F4 else F4 else F4 else F4 else F4 else F4 else F4 else Option.casesOn c[Nat.add 0 (Nat.mul (Int.toNat (Int.ofNat k)) 1)]? (.fail 423) fun val_1 => bif isI IntKind.i64 val_1 then bif m_eqv (I (ofI val_1)) (I (ofI val)) then Option.casesOn c[Nat.add 0 (Nat.mul (Int.toNat (Int.ofNat k)) 1)]? (.fail 423) fun val_2 => bif isI IntKind.i64 val_2 then bif m_eqv (I (ofI val_2)) (I (ofI val)) then bif Nat.blt (Int.toNat (Int.ofNat k)) q then Option.casesOn c[Nat.add 0 (Nat.mul (Int.toNat (Int.ofNat k)) 1)]? (.fail 423) fun val => bif isI IntKind.i64 val then bif Int.tmod (Int.fdiv (ofI val) (Int.ofNat 2 ^ min (Int.toNat (Int.ofNat x)) 64)) (Int.ofNat 2) == Int.ofNat 0 then bif m_nns c && (m_nns e && (m_nns [I (Int.ofNat a0), I (Int.ofNat k)] && true)) then K [some (RS b off n cap), some (gx 0 q), some (gx 1 x), some (I (Int.ofNat x)), some (pq 2), some (I (IntKind.wrap .i64 (Int.ofNat k + Int.ofNat 1)))] [] [some (.cells c 3 0 1), some (.cells e 71 1 2), some (.cells [I (Int.ofNat a0), I (Int.ofNat k)] 71 2 0)] else F4 else bif m_nns c && (m_nns e && (m_nns [I (Int.ofNat a0), I (Int.ofNat a1)] && true)) then K [some (RS b off n cap), some (gx 0 q), some (gx 1 x), some (I (Int.ofNat x)), some (pq 2), some (I (IntKind.wrap .i64 (Int.ofNat k + Int.ofNat 1)))] [] [some (.cells c 3 0 1), some (.cells e 71 1 2), some (.cells [I (Int.ofNat a0), I (Int.ofNat a1)] 71 2 0)] else F4 else F4 else F4 else F4 else F4 else F4 else F4 else F4 else F4 else F4 else bif m_nns c && (m_nns e && (m_nns [I (Int.ofNat a0), I (Int.ofNat a1)] && true)) then KX 2 [some (RS b off n cap), some (gx 0 q), some (gx 1 x), some (I (Int.ofNat x)), some (pq 2)] [] [some (.cells c 3 0 1), some (.cells e 71 1 2), some (.cells [I (Int.ofNat a0), I (Int.ofNat a1)] 71 2 0)] else F4 := by kernel_rfl
theorem cnEr (r : Mem) (b off n cap q x : Nat) (c : List Value) (e : List Value) (a0 a1 : Nat) (fs : FnsC) (K : KO) (kx : Nat → KS) (kr : KS) : run (SC r) mCn 47 1 Cn_8 fs none (rbK 0 lvCn [] K) kx kr [] (bT lvCo (vCo b off n cap q (gx 1 x) x 2) .nil) [] (mkA [oI1 c 0, oP2 e 1, oBx2 a0 a1 2]) =
    bif Nat.ble (Nat.add x 1) 1000000 then Option.casesOn (takeAt e 0 (Nat.mul x 2)) (.fail 439) fun val => bif m_nns c && (m_nns (val ++ [I (Int.ofNat a0), I (Int.ofNat a1)]) && true) then K [some (RS b off n cap), some (gx 0 q), some (.slice (some ⟨1, 0, none⟩) (Nat.add x 1) unk), some (I (Int.ofNat x))] [] [some (.cells c 3 0 1), some (.cells (val ++ [I (Int.ofNat a0), I (Int.ofNat a1)]) 71 1 2)] else F4 else F4 := by kernel_rfl
theorem cnF (r : Mem) (b off n cap q x y : Nat) (c e : List Value) (fs : FnsC) (K : KO) (kx : Nat → KS) (kr : KS) : run (SC r) mCn 47 1 Cn_9 fs none (rbK 0 lvCn [] K) kx kr [] (bT lvCn (vCn b off n cap q (gx 1 y) x) .nil) [] (mkA [oI1 c 0, oP2 e 1]) =
    bif m_nns c && (m_nns e && true) then K [some (RS b off n cap), some (gx 0 q), some (gx 1 y), some (I (IntKind.wrap .i64 (Int.ofNat x + Int.ofNat 1)))] [] [some (.cells c 3 0 1), some (.cells e 71 1 2)] else F4 := by kernel_rfl
theorem cnG (r : Mem) (y : Nat) (e : List Value) (fs : FnsC) (K KR : KO) (kx : Nat → KS) : run (SC r) mCn 47 1 Cn_10 fs none (rbK 0 [2] [] K) kx (rbK 0 [2] [] KR) [] (bT [4] [some (gx 0 y)] .nil) [] (mkA [oP2 e 0]) =
    bif m_nns e && true then KR [some (gx 0 y)] [] [some (.cells e 71 0 2)] else F4 := by kernel_rfl
theorem hsA (r : Mem) (b off n cap : Nat) (fs : FnsC) (K : KO) (kx : Nat → KS) (kr : KS) : run (SC r) mHs 62 1 (.seq Hs_0 (.seq Hs_1 (.seq Hs_2 Hs_3))) fs none (rbK 0 lvH0 [] K) kx kr (sc0 mHs [RS b off n cap]) (tr0 mHs [RS b off n cap]) [] emptyA =
    K [some (RS b off n cap), some (I (Int.ofNat n)), some (.bool false), some (.bool false), some (I (Int.ofNat 0))] [] [] := by kernel_rfl
theorem hsB (r : Mem) (b off n cap : Nat) (u v : Bool) (x : Nat) (fs : FnsC) (K : KO) (KX : Nat → KO) (kr : KS) : run (SC r) mHs 62 1 Hs_4 fs none (rbK 0 lvH0 [] K) (fun j => rbK 0 [5, 6] [] (KX j)) kr [] (bT lvH0 (vH0 b off n cap u v x) .nil) [] (mkA []) =
    bif decide (Int.ofNat x < Int.ofNat n) then K [some (RS b off n cap), some (I (Int.ofNat n)), some (.bool u), some (.bool v), some (I (Int.ofNat x))] [] [] else KX 0 [some (.bool u), some (.bool v)] [] [] := by kernel_rfl
theorem hsC (r : Mem) (b off n cap : Nat) (u v : Bool) (x : Nat) (fs : FnsC) (K : KO) (kx : Nat → KS) (kr : KS) : run (SC r) mHs 62 1 Hs_5 fs none (rbK 0 lvH1 [] K) kx kr [] (bT lvH0 (vH0 b off n cap u v x) .nil) [] (mkA []) =
    K [some (RS b off n cap), some (I (Int.ofNat n)), some (.bool u), some (.bool v), some (I (Int.ofNat x)), some (I (Int.ofNat 0))] [] [] := by kernel_rfl
theorem hsD (r : Mem) (b off n cap : Nat) (u v : Bool) (x y : Nat) (fs : FnsC) (K : KO) (KX : Nat → KO) (kr : KS) : run (SC r) mHs 62 1 Hs_6 fs none (rbK 0 lvH1 [] K) (fun j => rbK 0 lvH0 [] (KX j)) kr [] (bT lvH1 (vH1 b off n cap u v x y) .nil) [] (mkA []) =
    bif decide (Int.ofNat y < Int.ofNat n) then K [some (RS b off n cap), some (I (Int.ofNat n)), some (.bool u), some (.bool v), some (I (Int.ofNat x)), some (I (Int.ofNat y))] [] [] else KX 2 [some (RS b off n cap), some (I (Int.ofNat n)), some (.bool u), some (.bool v), some (I (Int.ofNat x))] [] [] := by kernel_rfl
theorem hsE (r : Mem) (b off n cap : Nat) (u v : Bool) (x y : Nat) (fs : FnsC) (K : KO) (kx : Nat → KS) (kr : KS) : run (SC r) mHs 62 1 Hs_7 fs none (rbK 0 lvH2 [] K) kx kr [] (bT lvH1 (vH1 b off n cap u v x y) .nil) [] (mkA []) =
    K [some (RS b off n cap), some (I (Int.ofNat n)), some (.bool u), some (.bool v), some (I (Int.ofNat x)), some (I (Int.ofNat y)), some (I (Int.ofNat 0))] [] [] := by kernel_rfl
theorem hsF (r : Mem) (b off n cap : Nat) (u v : Bool) (x y z : Nat) (fs : FnsC) (K : KO) (KX : Nat → KO) (kr : KS) : run (SS r 2) mHs 62 1 Hs_8 fs none (rbK 0 lvH2 [] K) (fun j => rbK 0 lvH1 [] (KX j)) kr [] (bT lvH2 (vH2 b off n cap u v x y z) .nil) [] (mkA []) =
    bif decide (Int.ofNat z < Int.ofNat n) then bif Nat.blt (Int.toNat (Int.ofNat x)) n then Option.casesOn (r b (Nat.add off (Nat.mul (Int.toNat (Int.ofNat x)) 1))) (.fail 423) fun val => bif isRoS val then bif Nat.blt (Int.toNat (Int.ofNat y)) (lnOf val) then Option.casesOn (r (blkOf val) (Nat.add (offOf val) (Nat.mul (Int.toNat (Int.ofNat y)) 1))) (.fail 423) fun val => bif isB val then bif ofB val then K [some (RS b off n cap), some (I (Int.ofNat n)), some (.bool u), some (.bool v), some (I (Int.ofNat x)), some (I (Int.ofNat y)), some (I (Int.ofNat z))] [] [] else KX 4 [some (RS b off n cap), some (I (Int.ofNat n)), some (.bool u), some (.bool v), some (I (Int.ofNat x)), some (I (Int.ofNat y))] [] [] else F4 else F4 else F4 else F4 else KX 4 [some (RS b off n cap), some (I (Int.ofNat n)), some (.bool u), some (.bool v), some (I (Int.ofNat x)), some (I (Int.ofNat y))] [] [] := by kernel_rfl
theorem hsG (r : Mem) (b off n cap : Nat) (u v : Bool) (x y z : Nat) (fs : FnsC) (K : KO) (kx : Nat → KS) (kr : KS) : run (SC r) mHs 62 1 Hs_9 fs none (rbK 0 lvH3 [] K) kx kr [] (bT lvH2 (vH2 b off n cap u v x y z) .nil) [] (mkA []) =
    K [some (RS b off n cap), some (I (Int.ofNat n)), some (.bool u), some (.bool v), some (I (Int.ofNat x)), some (I (Int.ofNat y)), some (I (Int.ofNat z)), some (I (Int.ofNat 0))] [] [] := by kernel_rfl
theorem hsH (r : Mem) (b off n cap : Nat) (u v : Bool) (x y z t : Nat) (f g : Nat → Nat → Nat → Nat → Bool) (K : KO) (KX : Nat → KO) (kr : KS) : run (SC r) mHs 62 1 Hs_10 (lvlT (SC r) (tHs (RS b off n cap) n f g) .nil 1 1) none (rbK 0 lvH3 [] K) (fun j => rbK 0 lvH2 [] (KX j)) kr [] (bT lvH3 (vH3 b off n cap u v x y z t) .nil) [] (mkA []) =
    bif decide (Int.ofNat t < Int.ofNat n) then bif u then bif v then K [some (RS b off n cap), some (I (Int.ofNat n)), some (.bool true), some (.bool true), some (I (Int.ofNat x)), some (I (Int.ofNat y)), some (I (Int.ofNat z)), some (I (IntKind.wrap .i64 (Int.ofNat t + Int.ofNat 1)))] [] [] else bif m_q4 (RS b off n cap) (RS b off n cap) n (Int.ofNat x) (Int.ofNat y) (Int.ofNat z) (Int.ofNat t) then bif m_f4 g (Int.ofNat x) (Int.ofNat y) (Int.ofNat z) (Int.ofNat t) then K [some (RS b off n cap), some (I (Int.ofNat n)), some (.bool true), some (.bool true), some (I (Int.ofNat x)), some (I (Int.ofNat y)), some (I (Int.ofNat z)), some (I (IntKind.wrap .i64 (Int.ofNat t + Int.ofNat 1)))] [] [] else K [some (RS b off n cap), some (I (Int.ofNat n)), some (.bool true), some (.bool false), some (I (Int.ofNat x)), some (I (Int.ofNat y)), some (I (Int.ofNat z)), some (I (IntKind.wrap .i64 (Int.ofNat t + Int.ofNat 1)))] [] [] else F4 else bif m_q4 (RS b off n cap) (RS b off n cap) n (Int.ofNat x) (Int.ofNat y) (Int.ofNat z) (Int.ofNat t) then bif m_f4 f (Int.ofNat x) (Int.ofNat y) (Int.ofNat z) (Int.ofNat t) then bif v then K [some (RS b off n cap), some (I (Int.ofNat n)), some (.bool true), some (.bool true), some (I (Int.ofNat x)), some (I (Int.ofNat y)), some (I (Int.ofNat z)), some (I (IntKind.wrap .i64 (Int.ofNat t + Int.ofNat 1)))] [] [] else bif m_q4 (RS b off n cap) (RS b off n cap) n (Int.ofNat x) (Int.ofNat y) (Int.ofNat z) (Int.ofNat t) then bif m_f4 g (Int.ofNat x) (Int.ofNat y) (Int.ofNat z) (Int.ofNat t) then K [some (RS b off n cap), some (I (Int.ofNat n)), some (.bool true), some (.bool true), some (I (Int.ofNat x)), some (I (Int.ofNat y)), some (I (Int.ofNat z)), some (I (IntKind.wrap .i64 (Int.ofNat t + Int.ofNat 1)))] [] [] else K [some (RS b off n cap), some (I (Int.ofNat n)), some (.bool true), some (.bool false), some (I (Int.ofNat x)), some (I (Int.ofNat y)), some (I (Int.ofNat z)), some (I (IntKind.wrap .i64 (Int.ofNat t + Int.ofNat 1)))] [] [] else F4 else bif v then K [some (RS b off n cap), some (I (Int.ofNat n)), some (.bool false), some (.bool true), some (I (Int.ofNat x)), some (I (Int.ofNat y)), some (I (Int.ofNat z)), some (I (IntKind.wrap .i64 (Int.ofNat t + Int.ofNat 1)))] [] [] else bif m_q4 (RS b off n cap) (RS b off n cap) n (Int.ofNat x) (Int.ofNat y) (Int.ofNat z) (Int.ofNat t) then bif m_f4 g (Int.ofNat x) (Int.ofNat y) (Int.ofNat z) (Int.ofNat t) then K [some (RS b off n cap), some (I (Int.ofNat n)), some (.bool false), some (.bool true), some (I (Int.ofNat x)), some (I (Int.ofNat y)), some (I (Int.ofNat z)), some (I (IntKind.wrap .i64 (Int.ofNat t + Int.ofNat 1)))] [] [] else K [some (RS b off n cap), some (I (Int.ofNat n)), some (.bool false), some (.bool false), some (I (Int.ofNat x)), some (I (Int.ofNat y)), some (I (Int.ofNat z)), some (I (IntKind.wrap .i64 (Int.ofNat t + Int.ofNat 1)))] [] [] else F4 else F4 else KX 6 [some (RS b off n cap), some (I (Int.ofNat n)), some (.bool u), some (.bool v), some (I (Int.ofNat x)), some (I (Int.ofNat y)), some (I (Int.ofNat z))] [] [] := by kernel_rfl
theorem hsI (r : Mem) (b off n cap : Nat) (u v : Bool) (x y z : Nat) (fs : FnsC) (K : KO) (kx : Nat → KS) (kr : KS) : run (SC r) mHs 62 1 Hs_11 fs none (rbK 0 lvH2 [] K) kx kr [] (bT lvH2 (vH2 b off n cap u v x y z) .nil) [] (mkA []) =
    K [some (RS b off n cap), some (I (Int.ofNat n)), some (.bool u), some (.bool v), some (I (Int.ofNat x)), some (I (Int.ofNat y)), some (I (IntKind.wrap .i64 (Int.ofNat z + Int.ofNat 1)))] [] [] := by kernel_rfl
theorem hsJ (r : Mem) (b off n cap : Nat) (u v : Bool) (x y : Nat) (fs : FnsC) (K : KO) (kx : Nat → KS) (kr : KS) : run (SC r) mHs 62 1 Hs_12 fs none (rbK 0 lvH1 [] K) kx kr [] (bT lvH1 (vH1 b off n cap u v x y) .nil) [] (mkA []) =
    K [some (RS b off n cap), some (I (Int.ofNat n)), some (.bool u), some (.bool v), some (I (Int.ofNat x)), some (I (IntKind.wrap .i64 (Int.ofNat y + Int.ofNat 1)))] [] [] := by kernel_rfl
theorem hsK (r : Mem) (b off n cap : Nat) (u v : Bool) (x : Nat) (fs : FnsC) (K : KO) (kx : Nat → KS) (kr : KS) : run (SC r) mHs 62 1 Hs_13 fs none (rbK 0 lvH0 [] K) kx kr [] (bT lvH0 (vH0 b off n cap u v x) .nil) [] (mkA []) =
    K [some (RS b off n cap), some (I (Int.ofNat n)), some (.bool u), some (.bool v), some (I (IntKind.wrap .i64 (Int.ofNat x + Int.ofNat 1)))] [] [] := by kernel_rfl
theorem hsL (r : Mem) (u v : Bool) (fs : FnsC) (K KR : KO) (kx : Nat → KS) : run (SC r) mHs 62 1 Hs_14 fs none (rbK 0 [2, 3] [] K) kx (rbK 0 [2, 3] [] KR) [] (bT [5, 6] [some (.bool u), some (.bool v)] .nil) [] (mkA []) =
    bif u then bif v then KR [some (.bool true), some (.bool true)] [] [] else KR [some (.bool true), some (.bool false)] [] [] else bif v then KR [some (.bool false), some (.bool true)] [] [] else KR [some (.bool false), some (.bool false)] [] [] := by kernel_rfl
theorem pzA (r : Mem) (b off n cap b2 o2 c2 : Nat) (fs : FnsC) (K : KO) (kx : Nat → KS) (KR : KO) : run (SC r) mPz 26 1 (.seq Pz_0 (.seq Pz_1 Pz_2)) fs none (rbK 0 lvPz [] K) kx (rbK 0 [4] [] KR) (sc0 mPz [RS2 b off n cap, RS2 b2 o2 n c2]) (tr0 mPz [RS2 b off n cap, RS2 b2 o2 n c2]) [] emptyA =
    bif Int.ofNat n != Int.ofNat n then KR [some (.bool false)] [] [] else K [some (RS b off n cap), some (.slice (some ⟨b2, o2, some 0⟩) n c2), some (I (Int.ofNat 0))] [] [] := by kernel_rfl
theorem pzB (r : Mem) (b off n cap b2 o2 c2 k : Nat) (fs : FnsC) (K : KO) (KX : Nat → KO) (KR : KO) : run (SC r) mPz 26 1 Pz_3 fs none (rbK 0 lvPz [] K) (fun j => rbK 0 [] [] (KX j)) (rbK 0 [4] [] KR) [] (bT lvPz (vPz b off n cap b2 o2 c2 k) .nil) [] (mkA []) =
    bif decide (Int.ofNat k < Int.ofNat n) then bif Nat.blt (Int.toNat (Int.ofNat k)) n then Option.casesOn (r b (Nat.add off (Nat.mul (Int.toNat (Int.ofNat k)) 2))) (.fail 423) fun val => bif isI IntKind.i64 val then Option.casesOn (r b (Nat.succ (Nat.add off (Nat.mul (Int.toNat (Int.ofNat k)) 2)))) (.fail 423) fun val_1 => bif isI IntKind.i64 val_1 then bif Nat.blt (Int.toNat (Int.ofNat k)) n then Option.casesOn (r b2 (Nat.add o2 (Nat.mul (Int.toNat (Int.ofNat k)) 2))) (.fail 423) fun val_2 => bif isI IntKind.i64 val_2 then Option.casesOn (r b2 (Nat.succ (Nat.add o2 (Nat.mul (Int.toNat (Int.ofNat k)) 2)))) (.fail 423) fun val_3 => bif isI IntKind.i64 val_3 then bif !(ofI val == ofI val_2 && (ofI val_1 == ofI val_3 && true)) then KR [some (.bool false)] [] [] else K [some (RS b off n cap), some (.slice (some ⟨b2, o2, some 0⟩) n c2), some (I (IntKind.wrap .i64 (Int.ofNat k + Int.ofNat 1)))] [] [] else F4 else F4 else F4 else F4 else F4 else F4 else KX 0 [] [] [] := by kernel_rfl
theorem pzC (r : Mem) (fs : FnsC) (K KR : KO) (kx : Nat → KS) : run (SC r) mPz 26 1 Pz_4 fs none (rbK 0 [4] [] K) kx (rbK 0 [4] [] KR) [] (bT [] [] .nil) [] (mkA []) =
    KR [some (.bool true)] [] [] := by kernel_rfl
end Go.Proofs
namespace Go.Proofs
open Go Go.Ev Go.Num
def orN (f : Nat → Bool) : Nat → Bool
 | 0 => false
 | k + 1 => orN f k || f k
theorem orN_iff {f : Nat → Bool} : ∀ {n : Nat}, orN f n = true ↔ ∃ k, k < n ∧ f k = true
 | 0 => ⟨fun h => (nomatch h), fun ⟨_, h, _⟩ => absurd h (by omega)⟩
 | n + 1 => by
  rw [orN, Bool.or_eq_true, orN_iff (n := n)]
  exact ⟨fun h => by
   rcases h with ⟨k, h1, h2⟩ | h
   ·exact ⟨k, by omega, h2⟩
   ·exact ⟨n, by omega, h⟩, fun ⟨k, h1, h2⟩ => by
   by_cases c : k = n
   ·subst c; exact .inr h2
   ·exact .inl ⟨k, by omega, h2⟩⟩
def twF (T : List (List Bool)) (a b c d : Nat) : Bool := twB T fun i => match i with | 0 => (a : Nat) | 1 => (b : Nat) | 2 => (c : Nat) | _ => (d : Nat)
noncomputable def thF (T : List (List Bool)) (a b c d : Nat) : Bool := thB T fun i => match i with | 0 => (a : Nat) | 1 => (b : Nat) | 2 => (c : Nat) | _ => (d : Nat)
def hZ (f : Nat → Nat → Nat → Nat → Bool) (n x y : Nat) (z : Nat) : Bool := orN (fun z => orN (f x y z) n) z
def hY (T : List (List Bool)) (f : Nat → Nat → Nat → Nat → Bool) (n x : Nat) (y : Nat) : Bool := orN (fun y => gT T x y && hZ f n x y n) y
def hX (T : List (List Bool)) (f : Nat → Nat → Nat → Nat → Bool) (n : Nat) (x : Nat) : Bool := orN (fun x => hY T f n x n) x
noncomputable def cHt : Code := .block 6 (.loop Hs_10)
noncomputable def cHz : Code := .block 4 (.loop (.seq Hs_8 (.seq (.block 5 (.seq Hs_9 cHt)) Hs_11)))
noncomputable def cHy : Code := .block 2 (.loop (.seq Hs_6 (.seq (.block 3 (.seq Hs_7 cHz)) Hs_12)))
theorem Hs_eq2 : cHs = (.seq Hs_0 (.seq Hs_1 (.seq Hs_2 (.seq (.seq Hs_3 (.block 0 (.loop (.seq Hs_4 (.seq (.block 1 (.seq Hs_5 cHy)) Hs_13))))) Hs_14)))) := Hs_eq
section
variable {r : Mem} {b off n cap : Nat} {T : List (List Bool)} {f g : Nat → Nat → Nat → Nat → Bool} {F : Fence} {kk : Nat} {γ : Gam} {W : World} {ox : Nat → Outs} {orr : Outs}
theorem q4_t {x y z t : Nat} (hx : x < n) (hy : y < n) (hz : z < n) (ht : t < n) : m_q4 (.slice (some ⟨b, off, some 0⟩) n cap) (.slice (some ⟨b, off, some 0⟩) n cap) n (Int.ofNat x) (Int.ofNat y) (Int.ofNat z) (Int.ofNat t) = true := @decide_eq_true _ (Classical.propDecidable _) ⟨rfl, ⟨by simp, by simp; omega⟩, ⟨by simp, by simp; omega⟩, ⟨by simp, by simp; omega⟩, by simp, by simp; omega⟩
theorem hs_t (htb : TOk (SC r) (tHs (RS b off n cap) n f g)) {x y z : Nat} (hx : x < n) (hy : y < n) (hz : z < n) (hn : n ≤ 12) (u v : Bool) (hF : Wide F) (hro : RoRel γ none F.round) (h0' : ∀ i, 0 ≤ i → γ i = none) :
  Go.Ev.Reach (SC r) mHs 62 F kk γ W cHt (St.of lvH3 (vH3 b off n cap u v x y z 0) [] []) (CanQ (SC r) mHs 62 γ W ⟨lvH2, [], fun vs ms os => vs = vH2 b off n cap (u || orN (f x y z) n) (v || orN (g x y z) n) x y z ∧ ms = [] ∧ os = []⟩ ox orr) := by
 refine Go.Ev.Reach.blockC (Go.Ev.Reach.loopC (j := n) (lv := lvH3) (fl := []) (I := fun j vs ms os => ∃ t : Nat, t ≤ n ∧ j = n - t ∧ vs = vH3 b off n cap (u || orN (f x y z) t) (v || orN (g x y z) t) x y z t ∧ ms = [] ∧ os = []) (fun j vs ms os hI => ?_) ⟨0, by omega, rfl, by simp [orN], rfl, rfl⟩)
 obtain ⟨t, ht, rfl, rfl, rfl, rfl⟩ := hI
 refine Go.Ev.Reach.segR (SC_ok r) htb (tm := .nil) (L := 1) (L' := 1) (d := 1) hF hro h0' [(6, ⟨lvH2, [], fun vs ms os => vs = vH2 b off n cap (u || orN (f x y z) n) (v || orN (g x y z) n) x y z ∧ ms = [] ∧ os = []⟩)] (fun p hp => by simp only [List.mem_cons, List.not_mem_nil, or_false] at hp; subst hp; rfl) ?_
 have hn' := hsH r b off n cap (u || orN (f x y z) t) (v || orN (g x y z) t) x y z t f g
 by_cases c : t < n
 ·have e1 : m_f4 f (Int.ofNat x) (Int.ofNat y) (Int.ofNat z) (Int.ofNat t) = f x y z t := rfl
  have e2 : m_f4 g (Int.ofNat x) (Int.ofNat y) (Int.ofNat z) (Int.ofNat t) = g x y z t := rfl
  have e3 : (u || orN (f x y z) (t + 1)) = ((u || orN (f x y z) t) || f x y z t) := by rw [orN, Bool.or_assoc]
  have e4 : (v || orN (g x y z) (t + 1)) = ((v || orN (g x y z) t) || g x y z t) := by rw [orN, Bool.or_assoc]
  simp only [dT (show Int.ofNat t < Int.ofNat n by simp; omega), q4_t hx hy hz c, e1, e2, cond_true] at hn'
  rw [show IntKind.wrap .i64 (Int.ofNat t + Int.ofNat 1) = ((t + 1 : Nat) : Int) from inc1 (by omega)] at hn'
  have fin : ∀ {a e : Bool}, a = (u || orN (f x y z) (t + 1)) → e = (v || orN (g x y z) (t + 1)) → ∃ j', j' < n - t ∧ ∃ t' : Nat, t' ≤ n ∧ j' = n - t' ∧ ([some (.slice (some ⟨b, off, some 0⟩) n cap), some (I (Int.ofNat n)), some (.bool a), some (.bool e), some (I (Int.ofNat x)), some (I (Int.ofNat y)), some (I (Int.ofNat z)), some (I ((t + 1 : Nat) : Int))] : OV) = vH3 b off n cap (u || orN (f x y z) t') (v || orN (g x y z) t') x y z t' ∧ ([] : List Nat) = [] ∧ ([] : OO) = [] := fun h1 h2 => ⟨n - (t + 1), by omega, t + 1, c, rfl, by rw [h1, h2]; rfl, rfl, rfl⟩
  generalize (u || orN (f x y z) t) = u1 at hn' e3
  generalize (v || orN (g x y z) t) = v1 at hn' e4
  cases u1 <;> cases v1 <;> cases hf : f x y z t <;> cases hg : g x y z t <;> simp only [hf, hg, cond_true, cond_false] at hn' <;> exact (hn' _ _ _).trans (qq_ok (fin (by rw [e3, hf]; rfl) (by rw [e4, hg]; rfl)))
 ·obtain rfl : t = n := by omega
  simp only [dF (show ¬ Int.ofNat t < Int.ofNat t by simp), cond_false] at hn'
  exact (hn' _ _ _).trans (qq_ok ⟨rfl, rfl, rfl⟩)
theorem hs_z (htb : TOk (SC r) (tHs (RS b off n cap) n f g)) (hM : TabM r b off T) (hnT : T.length = n) (hc : ckO T = true) {x y : Nat} (hx : x < n) (hy : y < n) (u v : Bool) (hF : Wide F) (hro : RoRel γ none F.round) (h0' : ∀ i, 0 ≤ i → γ i = none) :
  Go.Ev.Reach (SC r) mHs 62 F kk γ W cHz (St.of lvH2 (vH2 b off n cap u v x y 0) [] []) (CanQ (SC r) mHs 62 γ W ⟨lvH1, [], fun vs ms os => vs = vH1 b off n cap (u || (gT T x y && hZ f n x y n)) (v || (gT T x y && hZ g n x y n)) x y ∧ ms = [] ∧ os = []⟩ ox orr) := by
 obtain ⟨rb, ro, rc2, hrow⟩ := tab_all hM hc hnT
 have hl := ck_len hc
 refine Go.Ev.Reach.blockC (Go.Ev.Reach.loopC (j := n) (lv := lvH2) (fl := []) (I := fun j vs ms os => ∃ z : Nat, z ≤ n ∧ j = n - z ∧ (0 < z → gT T x y = true) ∧ vs = vH2 b off n cap (u || hZ f n x y z) (v || hZ g n x y z) x y z ∧ ms = [] ∧ os = []) (fun j vs ms os hI => ?_) ⟨0, by omega, rfl, fun h => absurd h (by omega), by simp [hZ, orN], rfl, rfl⟩)
 obtain ⟨z, hz, rfl, hgz, rfl, rfl, rfl⟩ := hI
 refine Go.Ev.Reach.seqC (o1 := ⟨lvH2, [], fun vs ms os => (z < n ∧ gT T x y = true) ∧ vs = vH2 b off n cap (u || hZ f n x y z) (v || hZ g n x y z) x y z ∧ ms = [] ∧ os = []⟩) (segSh 2 TOk.nil (tm := .nil) (L := 1) (L' := 1) (d := 1) hF hro h0' [(4, ⟨lvH1, [], fun vs ms os => vs = vH1 b off n cap (u || (gT T x y && hZ f n x y n)) (v || (gT T x y && hZ g n x y n)) x y ∧ ms = [] ∧ os = []⟩)] (fun p hp => by simp only [List.mem_cons, List.not_mem_nil, or_false] at hp; subst hp; rfl) ?_) ?_
 ·have hn' := hsF r b off n cap (u || hZ f n x y z) (v || hZ g n x y z) x y z
  simp only [tnO] at hn'
  by_cases c : z < n
  ·have q1 : Nat.blt x n = true := Nat.ble_eq_true_of_le hx
   have q2 : Nat.blt y n = true := Nat.ble_eq_true_of_le hy
   simp only [dT (show Int.ofNat z < Int.ofNat n by simp; omega), q1, q2, e0x, (hrow x hx).1, (hrow x hx).2 y hy, ro_RS, ln_RS, bk_RS, of_RS, b_bl, o_bl, cond_true] at hn'
   cases hg : gT T x y with
   | true =>
    simp only [hg, cond_true] at hn'
    exact (hn' _ _ _ _).trans (qq_ok ⟨⟨c, rfl⟩, rfl, rfl, rfl⟩)
   | false =>
    have z0 : z = 0 := by
     by_cases e : 0 < z
     ·have := hgz e; rw [hg] at this; cases this
     ·omega
    subst z0
    simp only [hg, cond_false] at hn'
    exact (hn' _ _ _ _).trans (qq_ok ⟨by simp [hZ, orN]; rfl, rfl, rfl⟩)
  ·obtain rfl : z = n := by omega
   simp only [dF (show ¬ Int.ofNat z < Int.ofNat z by simp), cond_false] at hn'
   have hg := hgz (by omega)
   exact (hn' _ _ _ _).trans (qq_ok ⟨by rw [hg, Bool.true_and, Bool.true_and]; rfl, rfl, rfl⟩)
 rintro vs ms os ⟨⟨c, hg⟩, rfl, rfl, rfl⟩
 refine Go.Ev.Reach.seqC (o1 := ⟨lvH2, [], fun vs ms os => vs = vH2 b off n cap (u || hZ f n x y (z + 1)) (v || hZ g n x y (z + 1)) x y z ∧ ms = [] ∧ os = []⟩) (Go.Ev.Reach.blockC (Go.Ev.Reach.seqC (o1 := ⟨lvH3, [], fun vs ms os => vs = vH3 b off n cap (u || hZ f n x y z) (v || hZ g n x y z) x y z 0 ∧ ms = [] ∧ os = []⟩) (Go.Ev.Reach.segR (SC_ok r) TOk.nil (tm := .nil) (L := 1) (L' := 1) (d := 1) hF hro h0' [] (fun p hp => nomatch hp) ((hsG r b off n cap _ _ x y z _ _ _ _).trans (qq_ok ⟨rfl, rfl, rfl⟩))) ?_)) ?_
 ·rintro vs ms os ⟨rfl, rfl, rfl⟩
  have h := hs_t (ox := fun j => if j = 5 then ⟨lvH2, [], fun vs ms os => vs = vH2 b off n cap (u || hZ f n x y (z + 1)) (v || hZ g n x y (z + 1)) x y z ∧ ms = [] ∧ os = []⟩ else if j = 4 then ⟨lvH1, [], fun vs ms os => vs = vH1 b off n cap (u || (gT T x y && hZ f n x y n)) (v || (gT T x y && hZ g n x y n)) x y ∧ ms = [] ∧ os = []⟩ else ox j) (orr := orr) (W := W) (kk := kk) htb hx hy c (by omega) (u || hZ f n x y z) (v || hZ g n x y z) hF hro h0'
  rw [show ((u || hZ f n x y z) || orN (f x y z) n) = (u || hZ f n x y (z + 1)) by unfold hZ; rw [orN, Bool.or_assoc], show ((v || hZ g n x y z) || orN (g x y z) n) = (v || hZ g n x y (z + 1)) by unfold hZ; rw [orN, Bool.or_assoc]] at h
  exact h
 rintro vs ms os ⟨rfl, rfl, rfl⟩
 refine Go.Ev.Reach.segR (SC_ok r) TOk.nil (tm := .nil) (L := 1) (L' := 1) (d := 1) hF hro h0' [] (fun p hp => nomatch hp) ?_
 have hn' := hsI r b off n cap (u || hZ f n x y (z + 1)) (v || hZ g n x y (z + 1)) x y z
 rw [show IntKind.wrap .i64 (Int.ofNat z + Int.ofNat 1) = ((z + 1 : Nat) : Int) from inc1 (by omega)] at hn'
 exact (hn' _ _ _ _).trans (qq_ok ⟨n - (z + 1), by omega, z + 1, c, rfl, fun _ => hg, rfl, rfl, rfl⟩)
theorem hs_y (htb : TOk (SC r) (tHs (RS b off n cap) n f g)) (hM : TabM r b off T) (hnT : T.length = n) (hc : ckO T = true) {x : Nat} (hx : x < n) (u v : Bool) (hF : Wide F) (hro : RoRel γ none F.round) (h0' : ∀ i, 0 ≤ i → γ i = none) :
  Go.Ev.Reach (SC r) mHs 62 F kk γ W cHy (St.of lvH1 (vH1 b off n cap u v x 0) [] []) (CanQ (SC r) mHs 62 γ W ⟨lvH0, [], fun vs ms os => vs = vH0 b off n cap (u || hY T f n x n) (v || hY T g n x n) x ∧ ms = [] ∧ os = []⟩ ox orr) := by
 have hl := ck_len hc
 refine Go.Ev.Reach.blockC (Go.Ev.Reach.loopC (j := n) (lv := lvH1) (fl := []) (I := fun j vs ms os => ∃ y : Nat, y ≤ n ∧ j = n - y ∧ vs = vH1 b off n cap (u || hY T f n x y) (v || hY T g n x y) x y ∧ ms = [] ∧ os = []) (fun j vs ms os hI => ?_) ⟨0, by omega, rfl, by simp [hY, orN], rfl, rfl⟩)
 obtain ⟨y, hy, rfl, rfl, rfl, rfl⟩ := hI
 refine Go.Ev.Reach.seqC (o1 := ⟨lvH1, [], fun vs ms os => y < n ∧ vs = vH1 b off n cap (u || hY T f n x y) (v || hY T g n x y) x y ∧ ms = [] ∧ os = []⟩) (Go.Ev.Reach.segR (SC_ok r) TOk.nil (tm := .nil) (L := 1) (L' := 1) (d := 1) hF hro h0' [(2, ⟨lvH0, [], fun vs ms os => vs = vH0 b off n cap (u || hY T f n x n) (v || hY T g n x n) x ∧ ms = [] ∧ os = []⟩)] (fun p hp => by simp only [List.mem_cons, List.not_mem_nil, or_false] at hp; subst hp; rfl) ?_) ?_
 ·have hn' := hsD r b off n cap (u || hY T f n x y) (v || hY T g n x y) x y
  by_cases c : y < n
  ·simp only [dT (show Int.ofNat y < Int.ofNat n by simp; omega), cond_true] at hn'
   exact (hn' _ _ _ _).trans (qq_ok ⟨c, rfl, rfl, rfl⟩)
  ·obtain rfl : y = n := by omega
   simp only [dF (show ¬ Int.ofNat y < Int.ofNat y by simp), cond_false] at hn'
   exact (hn' _ _ _ _).trans (qq_ok ⟨rfl, rfl, rfl⟩)
 rintro vs ms os ⟨c, rfl, rfl, rfl⟩
 refine Go.Ev.Reach.seqC (o1 := ⟨lvH1, [], fun vs ms os => vs = vH1 b off n cap (u || hY T f n x (y + 1)) (v || hY T g n x (y + 1)) x y ∧ ms = [] ∧ os = []⟩) (Go.Ev.Reach.blockC (Go.Ev.Reach.seqC (o1 := ⟨lvH2, [], fun vs ms os => vs = vH2 b off n cap (u || hY T f n x y) (v || hY T g n x y) x y 0 ∧ ms = [] ∧ os = []⟩) (Go.Ev.Reach.segR (SC_ok r) TOk.nil (tm := .nil) (L := 1) (L' := 1) (d := 1) hF hro h0' [] (fun p hp => nomatch hp) ((hsE r b off n cap _ _ x y _ _ _ _).trans (qq_ok ⟨rfl, rfl, rfl⟩))) ?_)) ?_
 ·rintro vs ms os ⟨rfl, rfl, rfl⟩
  have e : ∀ (p : Bool) (q : Nat → Nat → Nat → Nat → Bool), ((p || hY T q n x y) || (gT T x y && hZ q n x y n)) = (p || hY T q n x (y + 1)) := fun p q => by unfold hY; rw [orN, Bool.or_assoc]
  rw [← e u f, ← e v g]
  exact hs_z htb hM hnT hc hx c _ _ hF hro h0'
 rintro vs ms os ⟨rfl, rfl, rfl⟩
 refine Go.Ev.Reach.segR (SC_ok r) TOk.nil (tm := .nil) (L := 1) (L' := 1) (d := 1) hF hro h0' [] (fun p hp => nomatch hp) ?_
 have hn' := hsJ r b off n cap (u || hY T f n x (y + 1)) (v || hY T g n x (y + 1)) x y
 rw [show IntKind.wrap .i64 (Int.ofNat y + Int.ofNat 1) = ((y + 1 : Nat) : Int) from inc1 (by omega)] at hn'
 exact (hn' _ _ _ _).trans (qq_ok ⟨n - (y + 1), by omega, y + 1, c, rfl, rfl, rfl, rfl⟩)
end
section
variable {r : Mem} {b off n cap : Nat} {T : List (List Bool)}
theorem tHs_ok (hM : TabM r b off T) (hn : T.length = n) (hc : ckO T = true) : TOk (SC r) (tHs (RS b off n cap) n (twF T) (thF T)) := (TOk.nil.cons (EOk.ent fun args A hgd => by
  split at hgd
  ·rename_i o a b' c d
   obtain ⟨rfl, h1, h2, h3, h4⟩ := @of_decide_eq_true _ (Classical.propDecidable _) hgd
   have h := rf_th (cap := cap) hM hn hc fun i => match i with | 0 => (a.toNat : Nat) | 1 => (b'.toNat : Nat) | 2 => (c.toNat : Nat) | _ => (d.toNat : Nat)
   have e : x4 (fun i => match i with | 0 => (a.toNat : Nat) | 1 => (b'.toNat : Nat) | 2 => (c.toNat : Nat) | _ => (d.toNat : Nat)) = .agg ⟨[I a, I b', I c, I d]⟩ := by
    show Value.agg ⟨[I ((a.toNat : Nat) : Int), I ((b'.toNat : Nat) : Int), I ((c.toNat : Nat) : Int), I ((d.toNat : Nat) : Int)]⟩ = _
    rw [show ((a.toNat : Nat) : Int) = a by omega, show ((b'.toNat : Nat) : Int) = b' by omega, show ((c.toNat : Nat) : Int) = c by omega, show ((d.toNat : Nat) : Int) = d by omega]
   rw [e] at h
   exact h.ro rfl A
  ·cases hgd)).cons (EOk.ent fun args A hgd => by
  split at hgd
  ·rename_i o a b' c d
   obtain ⟨rfl, h1, h2, h3, h4⟩ := @of_decide_eq_true _ (Classical.propDecidable _) hgd
   have h := rf_tw (cap := cap) hM hn hc fun i => match i with | 0 => (a.toNat : Nat) | 1 => (b'.toNat : Nat) | 2 => (c.toNat : Nat) | _ => (d.toNat : Nat)
   have e : x4 (fun i => match i with | 0 => (a.toNat : Nat) | 1 => (b'.toNat : Nat) | 2 => (c.toNat : Nat) | _ => (d.toNat : Nat)) = .agg ⟨[I a, I b', I c, I d]⟩ := by
    show Value.agg ⟨[I ((a.toNat : Nat) : Int), I ((b'.toNat : Nat) : Int), I ((c.toNat : Nat) : Int), I ((d.toNat : Nat) : Int)]⟩ = _
    rw [show ((a.toNat : Nat) : Int) = a by omega, show ((b'.toNat : Nat) : Int) = b' by omega, show ((c.toNat : Nat) : Int) = c by omega, show ((d.toNat : Nat) : Int) = d by omega]
   rw [e] at h
   exact h.ro rfl A
  ·cases hgd)
theorem hs_ok (hM : TabM r b off T) (hn : T.length = n) (hc : ckO T = true) : GrT Tryz.prog r 11 [RS b off n cap] (.tuple ⟨[.bool (hX T (twF T) n n), .bool (hX T (thF T) n n)]⟩) := by
 have hl := ck_len hc
 have htb := tHs_ok (cap := cap) hM hn hc
 generalize twF T = f at htb
 generalize thF T = g at htb
 refine GrT.ofS (C := SC r) rfl rfl rfl (callO (SC_ok r) (by kernel_rfl) ((bodySC r _).trans Hs_eq2) (nt := 62) (by kernel_rfl) (rs := [.tmp 2, .tmp 3]) (by kernel_rfl) mHs rfl ⟨[2, 3], [], fun vs ms os => vs = [some (.bool (hX T f n n)), some (.bool (hX T g n n))] ∧ ms = [] ∧ os = []⟩ ?_ fun γ W F kk hwr hF hro h0' => ?_)
 ·rintro vs ms os ⟨rfl, rfl, rfl⟩
  exact ⟨_, mkA [], by kernel_rfl, rfl⟩
 have h0' : ∀ i, 0 ≤ i → γ i = none := h0'
 refine Go.Ev.Reach.after3R (SC_ok r) TOk.nil (tm := .nil) (L := 1) (L' := 1) (d := 1) hF hro h0' (.step (.step (.step .base))) (o1 := ⟨lvH0, [], fun vs ms os => vs = vH0 b off n cap false false 0 ∧ ms = [] ∧ os = []⟩) (o2 := ⟨[5, 6], [], fun vs ms os => vs = [some (.bool (hX T f n n)), some (.bool (hX T g n n))] ∧ ms = [] ∧ os = []⟩) [] (fun p hp => nomatch hp) ?_ ?_ ((hsA r b off n cap _ _ _ _).trans (qq_ok ⟨rfl, rfl, rfl⟩))
 ·rintro vs ms os ⟨rfl, rfl, rfl⟩
  refine Go.Ev.Reach.blockC (Go.Ev.Reach.loopC (j := n) (lv := lvH0) (fl := []) (I := fun j vs ms os => ∃ x : Nat, x ≤ n ∧ j = n - x ∧ vs = vH0 b off n cap (hX T f n x) (hX T g n x) x ∧ ms = [] ∧ os = []) (fun j vs ms os hI => ?_) ⟨0, by omega, rfl, rfl, rfl, rfl⟩)
  obtain ⟨x, hx, rfl, rfl, rfl, rfl⟩ := hI
  refine Go.Ev.Reach.seqC (o1 := ⟨lvH0, [], fun vs ms os => x < n ∧ vs = vH0 b off n cap (hX T f n x) (hX T g n x) x ∧ ms = [] ∧ os = []⟩) (Go.Ev.Reach.segR (SC_ok r) TOk.nil (tm := .nil) (L := 1) (L' := 1) (d := 1) hF hro h0' [(0, ⟨[5, 6], [], fun vs ms os => vs = [some (.bool (hX T f n n)), some (.bool (hX T g n n))] ∧ ms = [] ∧ os = []⟩)] (fun p hp => by simp only [List.mem_cons, List.not_mem_nil, or_false] at hp; subst hp; rfl) ?_) ?_
  ·have hn' := hsB r b off n cap (hX T f n x) (hX T g n x) x
   by_cases c : x < n
   ·simp only [dT (show Int.ofNat x < Int.ofNat n by simp; omega), cond_true] at hn'
    exact (hn' _ _ _ _).trans (qq_ok ⟨c, rfl, rfl, rfl⟩)
   ·obtain rfl : x = n := by omega
    simp only [dF (show ¬ Int.ofNat x < Int.ofNat x by simp), cond_false] at hn'
    exact (hn' _ _ _ _).trans (qq_ok ⟨rfl, rfl, rfl⟩)
  rintro vs ms os ⟨c, rfl, rfl, rfl⟩
  refine Go.Ev.Reach.seqC (o1 := ⟨lvH0, [], fun vs ms os => vs = vH0 b off n cap (hX T f n (x + 1)) (hX T g n (x + 1)) x ∧ ms = [] ∧ os = []⟩) (Go.Ev.Reach.blockC (Go.Ev.Reach.seqC (o1 := ⟨lvH1, [], fun vs ms os => vs = vH1 b off n cap (hX T f n x) (hX T g n x) x 0 ∧ ms = [] ∧ os = []⟩) (Go.Ev.Reach.segR (SC_ok r) TOk.nil (tm := .nil) (L := 1) (L' := 1) (d := 1) hF hro h0' [] (fun p hp => nomatch hp) ((hsC r b off n cap _ _ x _ _ _ _).trans (qq_ok ⟨rfl, rfl, rfl⟩))) ?_)) ?_
  ·rintro vs ms os ⟨rfl, rfl, rfl⟩
   exact hs_y htb hM hn hc c _ _ hF hro h0'
  rintro vs ms os ⟨rfl, rfl, rfl⟩
  refine Go.Ev.Reach.segR (SC_ok r) TOk.nil (tm := .nil) (L := 1) (L' := 1) (d := 1) hF hro h0' [] (fun p hp => nomatch hp) ?_
  have hn' := hsK r b off n cap (hX T f n (x + 1)) (hX T g n (x + 1)) x
  rw [show IntKind.wrap .i64 (Int.ofNat x + Int.ofNat 1) = ((x + 1 : Nat) : Int) from inc1 (by omega)] at hn'
  exact (hn' _ _ _ _).trans (qq_ok ⟨n - (x + 1), by omega, x + 1, c, rfl, rfl, rfl, rfl⟩)
 ·rintro vs ms os ⟨rfl, rfl, rfl⟩
  refine Go.Ev.Reach.segR (SC_ok r) TOk.nil (tm := .nil) (L := 1) (L' := 1) (d := 1) hF hro h0' [] (fun p hp => nomatch hp) ?_
  generalize hX T f n n = u
  generalize hX T g n n = v
  have hn' := hsL r u v
  cases u <;> cases v <;> exact (hn' _ _ _ _).trans (qq_ok ⟨rfl, rfl, rfl⟩)
end
end Go.Proofs
namespace Go.Proofs
open Go Go.Ev Go.Num
def idK (L : List Nat) (s : Nat) : Nat → Nat
 | 0 => 0
 | k + 1 => bif Nat.beq (L.getD k 0) s then k else idK L s k
def ciR (w : Nat → Nat) (m j : Nat) : Int := if j % 2 = 0 then (idK (rsN w m) (w (j / 2)) (rsN w m).length : Nat) else (rtK (rsN w m) (j / 2) 0 (rsN w m).length : Nat)
theorem ci_snoc (w : Nat → Nat) (m x : Nat) : ixN (ciR w m) (2 * x) ++ [I (idK (rsN w m) (w x) (rsN w m).length : Nat), I (rtK (rsN w m) x 0 (rsN w m).length : Nat)] = ixN (ciR w m) (2 * (x + 1)) := by
 unfold ixN
 rw [show 2 * (x + 1) = 2 * x + 1 + 1 by omega, List.range_succ, List.range_succ, List.map_append, List.map_append, List.append_assoc]
 congr 1
 have e1 : ciR w m (2 * x) = (idK (rsN w m) (w x) (rsN w m).length : Nat) := by unfold ciR; rw [if_pos (by omega), show 2 * x / 2 = x by omega]
 have e2 : ciR w m (2 * x + 1) = (rtK (rsN w m) x 0 (rsN w m).length : Nat) := by unfold ciR; rw [if_neg (by omega), show (2 * x + 1) / 2 = x by omega]
 show _ = [I (ciR w m (2 * x))] ++ [I (ciR w m (2 * x + 1))]
 rw [e1, e2]
 rfl
section
variable {r : Mem} {b off n cap : Nat} {T : List (List Bool)}
theorem shr2 (s : Nat) {k : Nat} (h : k ≤ 12) : (Int.tmod (Int.fdiv ((s : Nat) : Int) (Int.ofNat 2 ^ min k 64)) (Int.ofNat 2) == Int.ofNat 0) = !s.testBit k := by
 rw [show ((s : Nat) : Int) = Int.ofNat s from rfl, shr12 s h, Nat.testBit_eq_decide_div_mod_eq]
 have e : Int.tmod ((s / 2 ^ k : Nat) : Int) (Int.ofNat 2) = ((s / 2 ^ k % 2 : Nat) : Int) := rfl
 rw [e]
 by_cases c : s / 2 ^ k % 2 = 1
 ·rw [c]; rfl
 ·rw [show s / 2 ^ k % 2 = 0 by omega]; rfl
theorem cn_xn (hM : TabM r b off T) (hn : T.length = n) (hc : ckO T = true) {w : Nat → Nat} (hwT : w = clW T) {L : List Nat} {x : Nat} (hx : x < n) (hx0 : x = 0) {F : Fence} {kk : Nat} {γ : Gam} {W : World} (hF : Wide F) (hro : RoRel γ none F.round) (h0' : ∀ i, 0 ≤ i → γ i = none) {ox : Nat → Outs} {orr : Outs} (hlen : L.length ≤ 12) :
  Go.Ev.Reach (SC r) mCn 47 F kk γ W (.seq Cn_5 (.seq (.seq Cn_6 (.block 2 (.loop Cn_7))) Cn_8)) (St.of lvCn (vCn b off n cap L.length nilT x) [] [oI1 (rowI (eI L)) 0]) (CanQ (SC r) mCn 47 γ W ⟨lvCn, [], fun vs ms os => vs = vCn b off n cap L.length (gx 1 (x + 1)) x ∧ ms = [] ∧ os = [oI1 (rowI (eI L)) 0, oP2 ([I (idK L (w x) L.length : Nat), I (rtK L x 0 L.length : Nat)]) 1]⟩ ox orr) := by
 have hl := ck_len hc
 have hnn := rowI_nn (eI L)
 refine Go.Ev.Reach.after3R (SC_ok r) TOk.nil (tm := .nil) (L := 1) (L' := 1) (d := 1) hF hro h0' (.step .base) (o1 := ⟨lvCm, [], fun vs ms os => vs = vCm b off n cap L.length nilT x 1 0 ∧ ms = [] ∧ os = [oI1 (rowI (eI L)) 0, oBx2 0 0 1]⟩) (o2 := ⟨lvCo, [], fun vs ms os => vs = vCo b off n cap L.length nilT x 1 ∧ ms = [] ∧ os = [oI1 (rowI (eI L)) 0, oBx2 (idK L (w x) L.length) (rtK L x 0 L.length) 1]⟩) [] (fun p hp => nomatch hp) ?_ ?_ ?_
 ·rintro vs ms os ⟨rfl, rfl, rfl⟩
  refine Go.Ev.Reach.blockC (Go.Ev.Reach.loopC (j := L.length) (lv := lvCm) (fl := []) (I := fun j vs ms os => ∃ k : Nat, k ≤ L.length ∧ j = L.length - k ∧ vs = vCm b off n cap L.length nilT x 1 k ∧ ms = [] ∧ os = [oI1 (rowI (eI L)) 0, oBx2 (idK L (w x) k) (rtK L x 0 k) 1]) (fun j vs ms os hI => ?_) ⟨0, by omega, rfl, rfl, rfl, rfl⟩)
  obtain ⟨k, hk, rfl, rfl, rfl, rfl⟩ := hI
  refine Go.Ev.Reach.segR (SC_ok r) (t := tCb (RS b off n cap) n w) (by rw [hwT]; exact TOk.nil.cons (eBe_ok hM hn hc)) (tm := .nil) (L := 1) (L' := 1) (d := 1) hF hro h0' [(2, ⟨lvCo, [], fun vs ms os => vs = vCo b off n cap L.length nilT x 1 ∧ ms = [] ∧ os = [oI1 (rowI (eI L)) 0, oBx2 (idK L (w x) L.length) (rtK L x 0 L.length) 1]⟩)] (fun p hp => by simp only [List.mem_cons, List.not_mem_nil, or_false] at hp; subst hp; rfl) ?_
  have hn' := cnDn r b off n cap L.length x k (rowI (eI L)) (idK L (w x) k) (rtK L x 0 k) w
  have two : ∀ x y : Int, m_nns [I x, I y] = true := fun _ _ => rfl
  simp only [tnO, hnn, two, Bool.and_true, Bool.and_self, cond_true] at hn'
  by_cases c : k < L.length
  ·have q1 : Nat.blt k L.length = true := Nat.ble_eq_true_of_le c
   have q2 : (rowI (eI L))[Nat.add 0 (Nat.mul k 1)]? = some (I ((L[k] : Nat) : Int)) := by
    rw [show Nat.add 0 (Nat.mul k 1) = k by simp, rowI_get (by rw [eI_len]; exact c), eI_get c]
   have q3 : m_bg (.slice (some ⟨b, off, some 0⟩) n cap) n (.slice (some ⟨b, off, some 0⟩) n cap) (Int.ofNat x) = true := @decide_eq_true _ (Classical.propDecidable _) ⟨rfl, by simp, by simp; omega⟩
   have q4 : m_ow w (Int.ofNat x) = ((w x : Nat) : Int) := rfl
   have q5 : L.getD k 0 = L[k] := by simp [c]
   have q6 : rtK L x 0 (k + 1) = bif (L[k]).testBit x then rtK L x 0 k else k := by rw [rtK, q5]
   have q7 : idK L (w x) (k + 1) = bif Nat.beq L[k] (w x) then k else idK L (w x) k := by rw [idK, q5]
   simp only [dT (show Int.ofNat k < Int.ofNat L.length by simp; omega), q1, q2, q3, q4, isI_I, cond_true] at hn'
   dsimp +instances only [ofI_I] at hn'
   simp only [eqv_i, shr2 L[k] (show x ≤ 12 by omega), cond_true] at hn'
   rw [show IntKind.wrap .i64 (Int.ofNat k + Int.ofNat 1) = ((k + 1 : Nat) : Int) from inc1 (by omega)] at hn'
   by_cases c1 : L[k] = w x
   ·rw [c1, Nat.beq_refl, cond_true] at q7
    simp only [eqT (show ((L[k] : Nat) : Int) = ((w x : Nat) : Int) by omega), cond_true] at hn'
    cases hb : (L[k]).testBit x with
    | true =>
     simp only [hb, Bool.not_true, cond_false] at hn'
     rw [hb, cond_true] at q6
     exact (hn' _ _ _).trans (qq_ok ⟨L.length - (k + 1), by omega, k + 1, c, rfl, rfl, rfl, by rw [q6, q7]; rfl⟩)
    | false =>
     simp only [hb, Bool.not_false, cond_true] at hn'
     rw [hb, cond_false] at q6
     exact (hn' _ _ _).trans (qq_ok ⟨L.length - (k + 1), by omega, k + 1, c, rfl, rfl, rfl, by rw [q6, q7]; rfl⟩)
   ·rw [natFx c1, cond_false] at q7
    simp only [eqF (show ((L[k] : Nat) : Int) ≠ ((w x : Nat) : Int) by omega), cond_false] at hn'
    cases hb : (L[k]).testBit x with
    | true =>
     simp only [hb, Bool.not_true, cond_false] at hn'
     rw [hb, cond_true] at q6
     exact (hn' _ _ _).trans (qq_ok ⟨L.length - (k + 1), by omega, k + 1, c, rfl, rfl, rfl, by rw [q6, q7]; rfl⟩)
    | false =>
     simp only [hb, Bool.not_false, cond_true] at hn'
     rw [hb, cond_false] at q6
     exact (hn' _ _ _).trans (qq_ok ⟨L.length - (k + 1), by omega, k + 1, c, rfl, rfl, rfl, by rw [q6, q7]; rfl⟩)
  ·obtain rfl : k = L.length := by omega
   simp only [dF (show ¬ Int.ofNat L.length < Int.ofNat L.length by simp), cond_false] at hn'
   exact (hn' _ _ _).trans (qq_ok ⟨rfl, rfl, rfl⟩)
 ·rintro vs ms os ⟨rfl, rfl, rfl⟩
  refine Go.Ev.Reach.segR (SC_ok r) TOk.nil (tm := .nil) (L := 1) (L' := 1) (d := 1) hF hro h0' [] (fun p hp => nomatch hp) ?_
  have hn' := cnEn r b off n cap L.length x (rowI (eI L)) (idK L (w x) L.length) (rtK L x 0 L.length)
  have two : ∀ x y : Int, m_nns [I x, I y] = true := fun _ _ => rfl
  simp only [hnn, two, Bool.and_true, Bool.and_self, cond_true] at hn'
  subst hx0
  exact (hn' _ _ _ _).trans (qq_ok ⟨rfl, rfl, rfl⟩)
 ·have hn' := cnCn r b off n cap L.length x (rowI (eI L))
  have two : ∀ x y : Int, m_nns [I x, I y] = true := fun _ _ => rfl
  simp only [hnn, Bool.and_true, Bool.and_self, cond_true] at hn'
  exact (hn' _ _ _ _).trans (qq_ok ⟨rfl, rfl, rfl⟩)
theorem cn_xr (hM : TabM r b off T) (hn : T.length = n) (hc : ckO T = true) {w : Nat → Nat} (hwT : w = clW T) {L : List Nat} {x : Nat} (hx : x < n) {e : List Value} (hel : e.length = 2 * x) (hen : m_nns e = true) (hx1 : x ≤ 1000) {F : Fence} {kk : Nat} {γ : Gam} {W : World} (hF : Wide F) (hro : RoRel γ none F.round) (h0' : ∀ i, 0 ≤ i → γ i = none) {ox : Nat → Outs} {orr : Outs} (hlen : L.length ≤ 12) :
  Go.Ev.Reach (SC r) mCn 47 F kk γ W (.seq Cn_5 (.seq (.seq Cn_6 (.block 2 (.loop Cn_7))) Cn_8)) (St.of lvCn (vCn b off n cap L.length (gx 1 x) x) [] [oI1 (rowI (eI L)) 0, oP2 e 1]) (CanQ (SC r) mCn 47 γ W ⟨lvCn, [], fun vs ms os => vs = vCn b off n cap L.length (gx 1 (x + 1)) x ∧ ms = [] ∧ os = [oI1 (rowI (eI L)) 0, oP2 (e ++ [I (idK L (w x) L.length : Nat), I (rtK L x 0 L.length : Nat)]) 1]⟩ ox orr) := by
 have hl := ck_len hc
 have hnn := rowI_nn (eI L)
 refine Go.Ev.Reach.after3R (SC_ok r) TOk.nil (tm := .nil) (L := 1) (L' := 1) (d := 1) hF hro h0' (.step .base) (o1 := ⟨lvCm, [], fun vs ms os => vs = vCm b off n cap L.length (gx 1 x) x 2 0 ∧ ms = [] ∧ os = [oI1 (rowI (eI L)) 0, oP2 e 1, oBx2 0 0 2]⟩) (o2 := ⟨lvCo, [], fun vs ms os => vs = vCo b off n cap L.length (gx 1 x) x 2 ∧ ms = [] ∧ os = [oI1 (rowI (eI L)) 0, oP2 e 1, oBx2 (idK L (w x) L.length) (rtK L x 0 L.length) 2]⟩) [] (fun p hp => nomatch hp) ?_ ?_ ?_
 ·rintro vs ms os ⟨rfl, rfl, rfl⟩
  refine Go.Ev.Reach.blockC (Go.Ev.Reach.loopC (j := L.length) (lv := lvCm) (fl := []) (I := fun j vs ms os => ∃ k : Nat, k ≤ L.length ∧ j = L.length - k ∧ vs = vCm b off n cap L.length (gx 1 x) x 2 k ∧ ms = [] ∧ os = [oI1 (rowI (eI L)) 0, oP2 e 1, oBx2 (idK L (w x) k) (rtK L x 0 k) 2]) (fun j vs ms os hI => ?_) ⟨0, by omega, rfl, rfl, rfl, rfl⟩)
  obtain ⟨k, hk, rfl, rfl, rfl, rfl⟩ := hI
  refine Go.Ev.Reach.segR (SC_ok r) (t := tCb (RS b off n cap) n w) (by rw [hwT]; exact TOk.nil.cons (eBe_ok hM hn hc)) (tm := .nil) (L := 1) (L' := 1) (d := 1) hF hro h0' [(2, ⟨lvCo, [], fun vs ms os => vs = vCo b off n cap L.length (gx 1 x) x 2 ∧ ms = [] ∧ os = [oI1 (rowI (eI L)) 0, oP2 e 1, oBx2 (idK L (w x) L.length) (rtK L x 0 L.length) 2]⟩)] (fun p hp => by simp only [List.mem_cons, List.not_mem_nil, or_false] at hp; subst hp; rfl) ?_
  have hn' := cnDr r b off n cap L.length x k (rowI (eI L)) e (idK L (w x) k) (rtK L x 0 k) w
  have two : ∀ x y : Int, m_nns [I x, I y] = true := fun _ _ => rfl
  simp only [tnO, hnn, hen, two, Bool.and_true, Bool.and_self, cond_true] at hn'
  by_cases c : k < L.length
  ·have q1 : Nat.blt k L.length = true := Nat.ble_eq_true_of_le c
   have q2 : (rowI (eI L))[Nat.add 0 (Nat.mul k 1)]? = some (I ((L[k] : Nat) : Int)) := by
    rw [show Nat.add 0 (Nat.mul k 1) = k by simp, rowI_get (by rw [eI_len]; exact c), eI_get c]
   have q3 : m_bg (.slice (some ⟨b, off, some 0⟩) n cap) n (.slice (some ⟨b, off, some 0⟩) n cap) (Int.ofNat x) = true := @decide_eq_true _ (Classical.propDecidable _) ⟨rfl, by simp, by simp; omega⟩
   have q4 : m_ow w (Int.ofNat x) = ((w x : Nat) : Int) := rfl
   have q5 : L.getD k 0 = L[k] := by simp [c]
   have q6 : rtK L x 0 (k + 1) = bif (L[k]).testBit x then rtK L x 0 k else k := by rw [rtK, q5]
   have q7 : idK L (w x) (k + 1) = bif Nat.beq L[k] (w x) then k else idK L (w x) k := by rw [idK, q5]
   simp only [dT (show Int.ofNat k < Int.ofNat L.length by simp; omega), q1, q2, q3, q4, isI_I, cond_true] at hn'
   dsimp +instances only [ofI_I] at hn'
   simp only [eqv_i, shr2 L[k] (show x ≤ 12 by omega), cond_true] at hn'
   rw [show IntKind.wrap .i64 (Int.ofNat k + Int.ofNat 1) = ((k + 1 : Nat) : Int) from inc1 (by omega)] at hn'
   by_cases c1 : L[k] = w x
   ·rw [c1, Nat.beq_refl, cond_true] at q7
    simp only [eqT (show ((L[k] : Nat) : Int) = ((w x : Nat) : Int) by omega), cond_true] at hn'
    cases hb : (L[k]).testBit x with
    | true =>
     simp only [hb, Bool.not_true, cond_false] at hn'
     rw [hb, cond_true] at q6
     exact (hn' _ _ _).trans (qq_ok ⟨L.length - (k + 1), by omega, k + 1, c, rfl, rfl, rfl, by rw [q6, q7]; rfl⟩)
    | false =>
     simp only [hb, Bool.not_false, cond_true] at hn'
     rw [hb, cond_false] at q6
     exact (hn' _ _ _).trans (qq_ok ⟨L.length - (k + 1), by omega, k + 1, c, rfl, rfl, rfl, by rw [q6, q7]; rfl⟩)
   ·rw [natFx c1, cond_false] at q7
    simp only [eqF (show ((L[k] : Nat) : Int) ≠ ((w x : Nat) : Int) by omega), cond_false] at hn'
    cases hb : (L[k]).testBit x with
    | true =>
     simp only [hb, Bool.not_true, cond_false] at hn'
     rw [hb, cond_true] at q6
     exact (hn' _ _ _).trans (qq_ok ⟨L.length - (k + 1), by omega, k + 1, c, rfl, rfl, rfl, by rw [q6, q7]; rfl⟩)
    | false =>
     simp only [hb, Bool.not_false, cond_true] at hn'
     rw [hb, cond_false] at q6
     exact (hn' _ _ _).trans (qq_ok ⟨L.length - (k + 1), by omega, k + 1, c, rfl, rfl, rfl, by rw [q6, q7]; rfl⟩)
  ·obtain rfl : k = L.length := by omega
   simp only [dF (show ¬ Int.ofNat L.length < Int.ofNat L.length by simp), cond_false] at hn'
   exact (hn' _ _ _).trans (qq_ok ⟨rfl, rfl, rfl⟩)
 ·rintro vs ms os ⟨rfl, rfl, rfl⟩
  refine Go.Ev.Reach.segR (SC_ok r) TOk.nil (tm := .nil) (L := 1) (L' := 1) (d := 1) hF hro h0' [] (fun p hp => nomatch hp) ?_
  have hn' := cnEr r b off n cap L.length x (rowI (eI L)) e (idK L (w x) L.length) (rtK L x 0 L.length)
  have two : ∀ x y : Int, m_nns [I x, I y] = true := fun _ _ => rfl
  have ht : takeAt e 0 (Nat.mul x 2) = some e := takeL_row _ _ (by rw [hel, Nat.mul_eq]; omega)
  have hen2 : ∀ x y : Int, m_nns (e ++ [I x, I y]) = true := fun x y => by rw [nns_app, hen]; rfl
  simp only [hnn, ht, hen2, Nat.ble_eq_true_of_le (show Nat.add x 1 ≤ 1000000 by rw [Nat.add_eq]; omega), Bool.and_true, Bool.and_self, cond_true] at hn'
  exact (hn' _ _ _ _).trans (qq_ok ⟨rfl, rfl, rfl⟩)
 ·have hn' := cnCr r b off n cap L.length x (rowI (eI L)) e
  have two : ∀ x y : Int, m_nns [I x, I y] = true := fun _ _ => rfl
  simp only [hnn, hen, Bool.and_true, Bool.and_self, cond_true] at hn'
  exact (hn' _ _ _ _).trans (qq_ok ⟨rfl, rfl, rfl⟩)
theorem cn_S (hM : TabM r b off T) (hn : T.length = n) (hc : ckO T = true) : SOk (SC r) 17 [RS b off n cap] emptyA fun v A => v = gx 0 n ∧ A = mkA [oP2 (ixN (ciR (clW T) n) (2 * n)) 0] := by
 have hl := ck_len hc
 obtain ⟨w, hwT⟩ : ∃ w, w = clW T := ⟨_, rfl⟩
 have hrs := rs_S (cap := cap) hM hn hc
 rw [← hwT] at hrs ⊢
 have hrl := rs_len w n
 refine callO (SC_ok r) (by kernel_rfl) ((bodySC r _).trans Cn_eq) (nt := 47) (by kernel_rfl) (rs := [.tmp 2]) (by kernel_rfl) mCn rfl ⟨[2], [], fun vs ms os => vs = [some (gx 0 n)] ∧ ms = [] ∧ os = [oP2 (ixN (ciR w n) (2 * n)) 0]⟩ ?_ fun γ W F kk hwr hF hro h0' => ?_
 ·rintro vs ms os ⟨rfl, rfl, rfl⟩
  exact ⟨_, mkA [oP2 (ixN (ciR w n) (2 * n)) 0], by kernel_rfl, rfl, rfl⟩
 have h0' : ∀ i, 0 ≤ i → γ i = none := h0'
 obtain ⟨L, hL⟩ : ∃ L, L = rsN w n := ⟨_, rfl⟩
 have hLl : L.length ≤ 12 := by rw [hL]; omega
 have hnn := rowI_nn (eI L)
 refine Go.Ev.Reach.after3R (SC_ok r) (t := tRm (RS b off n cap) L.length (rowI (eI L))) (by rw [hL]; exact TOk.nil.cons (eNw_ok (A1 := emptyA) rfl (rowI_gnd _) hrs)) (tm := .nil) (L := 1) (L' := 1) (d := 1) hF hro h0' (.step (.step (.step .base))) (o1 := ⟨lvCn, [], fun vs ms os => vs = vCn b off n cap L.length nilT 0 ∧ ms = [] ∧ os = [oI1 (rowI (eI L)) 0]⟩) (o2 := ⟨[4], [], fun vs ms os => vs = [some (gx 0 n)] ∧ ms = [] ∧ os = [oP2 (ixN (ciR w n) (2 * n)) 0]⟩) [] (fun p hp => nomatch hp) ?_ ?_ ?_
 ·rintro vs ms os ⟨rfl, rfl, rfl⟩
  refine Go.Ev.Reach.blockC (Go.Ev.Reach.loopC (j := n) (lv := lvCn) (fl := []) (I := fun j vs ms os => ∃ x : Nat, x ≤ n ∧ j = n - x ∧ ms = [] ∧ ((x = 0 ∧ vs = vCn b off n cap L.length nilT 0 ∧ os = [oI1 (rowI (eI L)) 0]) ∨ (1 ≤ x ∧ vs = vCn b off n cap L.length (gx 1 x) x ∧ os = [oI1 (rowI (eI L)) 0, oP2 (ixN (ciR w n) (2 * x)) 1]))) (fun j vs ms os hI => ?_) ⟨0, by omega, rfl, rfl, .inl ⟨rfl, rfl, rfl⟩⟩)
  obtain ⟨x, hx, rfl, rfl, ⟨rfl, rfl, rfl⟩ | ⟨hx1, rfl, rfl⟩⟩ := hI
  ·refine Go.Ev.Reach.seqC (o1 := ⟨lvCn, [], fun vs ms os => vs = vCn b off n cap L.length nilT 0 ∧ ms = [] ∧ os = [oI1 (rowI (eI L)) 0]⟩) (Go.Ev.Reach.segR (SC_ok r) TOk.nil (tm := .nil) (L := 1) (L' := 1) (d := 1) hF hro h0' [(0, ⟨[4], [], fun vs ms os => vs = [some (gx 0 n)] ∧ ms = [] ∧ os = [oP2 (ixN (ciR w n) (2 * n)) 0]⟩)] (fun p hp => by simp only [List.mem_cons, List.not_mem_nil, or_false] at hp; subst hp; rfl) ?_) ?_
   ·have hn' := cnBn r b off n cap L.length 0 (rowI (eI L))
    simp only [hnn, dT (show Int.ofNat 0 < Int.ofNat n by simp; omega), Bool.and_true, cond_true] at hn'
    exact (hn' _ _ _ _).trans (qq_ok ⟨rfl, rfl, rfl⟩)
   rintro vs ms os ⟨rfl, rfl, rfl⟩
   refine Go.Ev.Reach.seqC (Go.Ev.Reach.blockC (cn_xn hM hn hc hwT (show 0 < n by omega) rfl hF hro h0' (by omega))) ?_
   rintro vs ms os ⟨rfl, rfl, rfl⟩
   refine Go.Ev.Reach.segR (SC_ok r) TOk.nil (tm := .nil) (L := 1) (L' := 1) (d := 1) hF hro h0' [] (fun p hp => nomatch hp) ?_
   have hn' := cnF r b off n cap L.length 0 1 (rowI (eI L)) [I (idK L (w 0) L.length : Nat), I (rtK L 0 0 L.length : Nat)]
   have two : ∀ x y : Int, m_nns [I x, I y] = true := fun _ _ => rfl
   simp only [hnn, two, Bool.and_true, Bool.and_self, cond_true] at hn'
   have e := ci_snoc w n 0
   rw [← hL] at e
   exact (hn' _ _ _ _).trans (qq_ok ⟨n - 1, by omega, 1, by omega, rfl, rfl, .inr ⟨Nat.le_refl _, rfl, by rw [← e]; rfl⟩⟩)
  ·refine Go.Ev.Reach.seqC (o1 := ⟨lvCn, [], fun vs ms os => x < n ∧ vs = vCn b off n cap L.length (gx 1 x) x ∧ ms = [] ∧ os = [oI1 (rowI (eI L)) 0, oP2 (ixN (ciR w n) (2 * x)) 1]⟩) (Go.Ev.Reach.segR (SC_ok r) TOk.nil (tm := .nil) (L := 1) (L' := 1) (d := 1) hF hro h0' [(0, ⟨[4], [], fun vs ms os => vs = [some (gx 0 n)] ∧ ms = [] ∧ os = [oP2 (ixN (ciR w n) (2 * n)) 0]⟩)] (fun p hp => by simp only [List.mem_cons, List.not_mem_nil, or_false] at hp; subst hp; rfl) ?_) ?_
   ·have hn' := cnBr r b off n cap L.length x (rowI (eI L)) (ixN (ciR w n) (2 * x))
    simp only [hnn, ix_nn, Bool.and_true, Bool.and_self, cond_true] at hn'
    by_cases c : x < n
    ·simp only [dT (show Int.ofNat x < Int.ofNat n by simp; omega), cond_true] at hn'
     exact (hn' _ _ _ _).trans (qq_ok ⟨c, rfl, rfl, rfl⟩)
    ·obtain rfl : x = n := by omega
     simp only [dF (show ¬ Int.ofNat x < Int.ofNat x by simp), cond_false] at hn'
     exact (hn' _ _ _ _).trans (qq_ok ⟨rfl, rfl, rfl⟩)
   rintro vs ms os ⟨c, rfl, rfl, rfl⟩
   refine Go.Ev.Reach.seqC (Go.Ev.Reach.blockC (cn_xr hM hn hc hwT c (ix_len _ _) (ix_nn _ _) (by omega) hF hro h0' (by omega))) ?_
   rintro vs ms os ⟨rfl, rfl, rfl⟩
   refine Go.Ev.Reach.segR (SC_ok r) TOk.nil (tm := .nil) (L := 1) (L' := 1) (d := 1) hF hro h0' [] (fun p hp => nomatch hp) ?_
   have e := ci_snoc w n x
   rw [← hL] at e
   rw [e]
   have hn' := cnF r b off n cap L.length x (x + 1) (rowI (eI L)) (ixN (ciR w n) (2 * (x + 1)))
   simp only [hnn, ix_nn, Bool.and_true, Bool.and_self, cond_true] at hn'
   rw [show IntKind.wrap .i64 (Int.ofNat x + Int.ofNat 1) = ((x + 1 : Nat) : Int) from inc1 (by omega)] at hn'
   exact (hn' _ _ _ _).trans (qq_ok ⟨n - (x + 1), by omega, x + 1, c, rfl, rfl, .inr ⟨by omega, rfl, rfl⟩⟩)
 ·rintro vs ms os ⟨rfl, rfl, rfl⟩
  have hn' := cnG r n (ixN (ciR w n) (2 * n))
  simp only [ix_nn, Bool.and_true, cond_true] at hn'
  exact Go.Ev.Reach.segR (SC_ok r) TOk.nil (tm := .nil) (L := 1) (L' := 1) (d := 1) hF hro h0' [] (fun p hp => nomatch hp) ((hn' _ _ _ _).trans (qq_ok ⟨rfl, rfl, rfl⟩))
 ·have hn' := cnA r b off n cap L.length (rowI (eI L))
  simp only [svv_rfl, hnn, Bool.and_true, cond_true] at hn'
  exact (hn' _ _ _).trans (qq_ok ⟨rfl, rfl, rfl⟩)
theorem pz_ok {b2 o2 c2 : Nat} {z : Nat → Int} (h1 : rowAt r b off (2 * n) z) (h2 : rowAt r b2 o2 (2 * n) z) (hn : n ≤ 1000) : GrT Tryz.prog r 16 [RS2 b off n cap, RS2 b2 o2 n c2] (.bool true) := by
 refine GrT.ofS (C := SC r) rfl rfl rfl (callO (SC_ok r) (by kernel_rfl) ((bodySC r _).trans Pz_eq) (nt := 26) (by kernel_rfl) (rs := [.tmp 4]) (by kernel_rfl) mPz rfl ⟨[4], [], fun vs ms os => vs = [some (.bool true)] ∧ ms = [] ∧ os = []⟩ ?_ fun γ W F kk hwr hF hro h0' => ?_)
 ·rintro vs ms os ⟨rfl, rfl, rfl⟩
  exact ⟨_, mkA [], by kernel_rfl, rfl⟩
 have h0' : ∀ i, 0 ≤ i → γ i = none := h0'
 have ra : ∀ {b' o' : Nat}, rowAt r b' o' (2 * n) z → ∀ {i : Nat}, i < n → r b' (Nat.add o' (Nat.mul i 2)) = some (I (z (2 * i))) := fun hz i h => by
  have := hz (2 * i) (by omega)
  rw [Nat.add_eq, Nat.mul_eq, Nat.mul_comm]
  exact this
 have rb : ∀ {b' o' : Nat}, rowAt r b' o' (2 * n) z → ∀ {i : Nat}, i < n → r b' (Nat.succ (Nat.add o' (Nat.mul i 2))) = some (I (z (2 * i + 1))) := fun hz i h => by
  have := hz (2 * i + 1) (by omega)
  rw [Nat.add_eq, Nat.mul_eq, Nat.mul_comm]
  exact this
 refine Go.Ev.Reach.after3R (SC_ok r) TOk.nil (tm := .nil) (L := 1) (L' := 1) (d := 1) hF hro h0' (.step (.step .base)) (o1 := ⟨lvPz, [], fun vs ms os => vs = vPz b off n cap b2 o2 c2 0 ∧ ms = [] ∧ os = []⟩) (o2 := ⟨[], [], fun vs ms os => vs = [] ∧ ms = [] ∧ os = []⟩) [] (fun p hp => nomatch hp) ?_ ?_ ?_
 ·rintro vs ms os ⟨rfl, rfl, rfl⟩
  refine Go.Ev.Reach.blockC (Go.Ev.Reach.loopC (j := n) (lv := lvPz) (fl := []) (I := fun j vs ms os => ∃ k : Nat, k ≤ n ∧ j = n - k ∧ vs = vPz b off n cap b2 o2 c2 k ∧ ms = [] ∧ os = []) (fun j vs ms os hI => ?_) ⟨0, by omega, rfl, rfl, rfl, rfl⟩)
  obtain ⟨k, hk, rfl, rfl, rfl, rfl⟩ := hI
  refine Go.Ev.Reach.segR (SC_ok r) TOk.nil (tm := .nil) (L := 1) (L' := 1) (d := 1) hF hro h0' [(0, ⟨[], [], fun vs ms os => vs = [] ∧ ms = [] ∧ os = []⟩)] (fun p hp => by simp only [List.mem_cons, List.not_mem_nil, or_false] at hp; subst hp; rfl) ?_
  have hn' := pzB r b off n cap b2 o2 c2 k
  simp only [tnO] at hn'
  by_cases c : k < n
  ·have q1 : Nat.blt k n = true := Nat.ble_eq_true_of_le c
   simp only [dT (show Int.ofNat k < Int.ofNat n by simp; omega), q1, ra h1 c, rb h1 c, ra h2 c, rb h2 c, isI_I, cond_true] at hn'
   dsimp +instances only [ofI_I] at hn'
   simp only [beq_self_eq_true, Bool.and_self, Bool.not_true, cond_false] at hn'
   rw [show IntKind.wrap .i64 (Int.ofNat k + Int.ofNat 1) = ((k + 1 : Nat) : Int) from inc1 (by omega)] at hn'
   exact (hn' _ _ _ _).trans (qq_ok ⟨n - (k + 1), by omega, k + 1, c, rfl, rfl, rfl, rfl⟩)
  ·obtain rfl : k = n := by omega
   simp only [dF (show ¬ Int.ofNat k < Int.ofNat k by simp), cond_false] at hn'
   exact (hn' _ _ _ _).trans (qq_ok ⟨rfl, rfl, rfl⟩)
 ·rintro vs ms os ⟨rfl, rfl, rfl⟩
  exact Go.Ev.Reach.segR (SC_ok r) TOk.nil (tm := .nil) (L := 1) (L' := 1) (d := 1) hF hro h0' [] (fun p hp => nomatch hp) ((pzC r _ _ _ _).trans (qq_ok ⟨rfl, rfl, rfl⟩))
 ·have hn' := pzA r b off n cap b2 o2 c2
  simp only [neF (show Int.ofNat n = Int.ofNat n from rfl), cond_false] at hn'
  exact (hn' _ _ _ _).trans (qq_ok ⟨rfl, rfl, rfl⟩)
end
end Go.Proofs
namespace Go.Proofs
open Go Go.Ev Go.Num
section
variable {T : List (List Bool)}
theorem twF_iff {a b c d : Nat} : twF T a b c d = true ↔ (a < T.length ∧ b < T.length ∧ c < T.length ∧ d < T.length) ∧ gT T a b = true ∧ gT T c d = true ∧ gT T a d = false ∧ gT T c b = false := by
 unfold twF twB
 rw [Bool.and_eq_true, insB_iff]
 simp only [Int.toNat_natCast, Bool.and_eq_true, Bool.not_eq_true']
 constructor
 ·rintro ⟨⟨⟨_, h1⟩, ⟨_, h2⟩, ⟨_, h3⟩, _, h4⟩, h5, h6, h7, h8⟩
  exact ⟨⟨by omega, by omega, by omega, by omega⟩, h5, h6, h7, h8⟩
 ·rintro ⟨⟨h1, h2, h3, h4⟩, h5, h6, h7, h8⟩
  exact ⟨⟨⟨by omega, by omega⟩, ⟨by omega, by omega⟩, ⟨by omega, by omega⟩, by omega, by omega⟩, h5, h6, h7, h8⟩
theorem tw_four {b d : Nat} (hn : T.length ≤ 12) (h : twO (clW T) T.length = some (b, d)) : twB T (twV (clW T) T.length) = true := by
 obtain ⟨h1, h2, h3⟩ := twO_yes h
 have hw := clW_lt hn
 unfold twI at h3
 rw [beq_ne, beq_ne, Bool.and_eq_true, decide_eq_true_eq, decide_eq_true_eq] at h3
 have e1 : anN (clW T b) (clW T d) < 2 ^ 16 := an_lt (by have := hw b; omega)
 have e2 : anN (clW T d) (clW T b) < 2 ^ 16 := an_lt (by have := hw d; omega)
 have t1 := (tz_bit 16 _ e1 h3.1).2
 have t2 := (tz_bit 16 _ e2 h3.2).2
 generalize ha : tzN 16 (anN (clW T b) (clW T d)) = a at t1
 generalize hc : tzN 16 (anN (clW T d) (clW T b)) = c at t2
 have t1 := t1.1
 have t2 := t2.1
 rw [an_bit, Bool.and_eq_true, Bool.not_eq_true'] at t1 t2
 obtain ⟨a1, a2⟩ := clW_t t1.1
 obtain ⟨c1, c2⟩ := clW_t t2.1
 have a3 := t1.2
 have c3 := t2.2
 rw [clW_b a1] at a3
 rw [clW_b c1] at c3
 have hF : twF T a b c d = true := twF_iff.2 ⟨⟨a1, h1, c1, by omega⟩, a2, c2, a3, c3⟩
 unfold twF at hF
 have e : twB T (twV (clW T) T.length) = twB T fun i => match i with | 0 => (a : Nat) | 1 => (b : Nat) | 2 => (c : Nat) | _ => (d : Nat) := by
  have v : twV (clW T) T.length = fun i => match i with | 0 => (a : Nat) | 1 => (b : Nat) | 2 => (c : Nat) | _ => (d : Nat) := by
   subst ha
   subst hc
   funext i
   unfold twV
   rw [h]
   rcases i with _ | _ | _ | i <;> rfl
  rw [v]
 rw [e]
 exact hF
theorem tw_has (hn : T.length ≤ 12) : hX T (twF T) T.length T.length = (twO (clW T) T.length).isSome := by
 cases h : twO (clW T) T.length with
 | none =>
  have hno := twO_no h
  cases q : hX T (twF T) T.length T.length with
  | false => rfl
  | true =>
   exfalso
   unfold hX hY hZ at q
   obtain ⟨a, ha, q⟩ := orN_iff.1 q
   obtain ⟨b, hb, q⟩ := orN_iff.1 q
   rw [Bool.and_eq_true] at q
   obtain ⟨c, hc, q2⟩ := orN_iff.1 q.2
   obtain ⟨d, hd, q2⟩ := orN_iff.1 q2
   obtain ⟨_, h1, h2, h3, h4⟩ := twF_iff.1 q2
   rcases Nat.lt_trichotomy b d with e | e | e
   ·have := hno d b hd e
    rw [twI_of h2 h1 h4 h3 hc ha] at this
    cases this
   ·subst e
    rw [h1] at h3
    cases h3
   ·have := hno b d hb e
    rw [twI_of h1 h2 h3 h4 ha hc] at this
    cases this
 | some p =>
  obtain ⟨b, d⟩ := p
  obtain ⟨h1, h2, h3⟩ := twO_yes h
  have hB := tw_four hn h
  unfold twB at hB
  rw [Bool.and_eq_true, insB_iff] at hB
  obtain ⟨⟨x0, x1, x2, x3⟩, hB⟩ := hB
  have hF : twF T (twV (clW T) T.length 0).toNat (twV (clW T) T.length 1).toNat (twV (clW T) T.length 2).toNat (twV (clW T) T.length 3).toNat = true := by
   refine twF_iff.2 ⟨⟨by omega, by omega, by omega, by omega⟩, ?_⟩
   simp only [Bool.and_eq_true, Bool.not_eq_true'] at hB
   exact hB
  show hX T (twF T) T.length T.length = true
  unfold hX hY hZ
  refine orN_iff.2 ⟨(twV (clW T) T.length 0).toNat, by omega, orN_iff.2 ⟨(twV (clW T) T.length 1).toNat, by omega, ?_⟩⟩
  rw [Bool.and_eq_true]
  exact ⟨(twF_iff.1 hF).2.1, orN_iff.2 ⟨(twV (clW T) T.length 2).toNat, by omega, orN_iff.2 ⟨(twV (clW T) T.length 3).toNat, by omega, hF⟩⟩⟩
end
theorem idK_eq {L : List Nat} {s : Nat} (hnd : L.Nodup) (hs : s ∈ L) : ∀ k, k ≤ L.length → idK L s k = if L.idxOf s < k then L.idxOf s else 0
 | 0, _ => rfl
 | k + 1, hk => by
  have ih := idK_eq hnd hs k (by omega)
  have hi : L.idxOf s < L.length := List.idxOf_lt_length_of_mem hs
  have hg : L[L.idxOf s] = s := List.getElem_idxOf hi
  have e : L.getD k 0 = L[k] := by simp [show k < L.length by omega]
  rw [idK, ih, e]
  by_cases c : L[k] = s
  ·have hk2 : k = L.idxOf s := (List.getElem_inj hnd).1 (by rw [hg]; exact c)
   rw [c, Nat.beq_refl, cond_true, if_pos (by omega)]
   exact hk2
  ·have hk2 : k ≠ L.idxOf s := fun e => c (by subst e; exact hg)
   rw [natFx c, cond_false]
   by_cases d : L.idxOf s < k
   ·rw [if_pos d, if_pos (by omega)]
   ·rw [if_neg d, if_neg (by omega)]
theorem rtK_ind {L : List Nat} {x i0 i1 : Nat} : ∀ {k : Nat}, (∃ j, j < k ∧ (L.getD j 0).testBit x = false) → rtK L x i0 k = rtK L x i1 k
 | 0, ⟨_, h, _⟩ => absurd h (by omega)
 | k + 1, ⟨j, hj, hb⟩ => by
  rw [rtK, rtK]
  cases q : (L.getD k 0).testBit x with
  | false => rfl
  | true =>
   simp only [cond_true]
   refine rtK_ind ⟨j, ?_, hb⟩
   by_cases c : j = k
   ·subst c; rw [hb] at q; cases q
   ·omega
theorem ci_same {T : List (List Bool)} (hc : ckO T = true) : ixN (ciR (clW T) T.length) (2 * T.length) = ixN (ciZ (clW T) T.length) (2 * T.length) := by
 refine ix_ext fun j hj => ?_
 have hx' : j / 2 < T.length := by omega
 unfold ciR ciZ lfZ rtZ
 generalize j / 2 = x at hx' ⊢
 have hx := hx'
 have hmem : clW T x ∈ rsN (clW T) T.length := rsN_mem.2 ⟨x, hx, rfl⟩
 have hi : (rsN (clW T) T.length).idxOf (clW T x) < (rsN (clW T) T.length).length := List.idxOf_lt_length_of_mem hmem
 have hg : (rsN (clW T) T.length)[(rsN (clW T) T.length).idxOf (clW T x)] = clW T x := List.getElem_idxOf hi
 by_cases c : j % 2 = 0
 ·rw [if_pos c, if_pos c, idK_eq (rsN_nodup _ _) hmem _ (Nat.le_refl _), if_pos hi]
 ·rw [if_neg c, if_neg c]
  rw [rtK_ind (i0 := 0) (i1 := (rsN (clW T) T.length).idxOf (clW T x)) ⟨(rsN (clW T) T.length).idxOf (clW T x), hi, ?_⟩]
  have e : (rsN (clW T) T.length).getD ((rsN (clW T) T.length).idxOf (clW T x)) 0 = clW T x := by
   rw [List.getD_eq_getElem?_getD, List.getElem?_eq_getElem hi, hg]; rfl
  rw [e, clW_b hx]
  exact (ck_row hc hx).2
end Go.Proofs
namespace Go.Proofs
open Go Go.Ev Go.Num
noncomputable def cLi : Code := bodyOf S0 3
noncomputable def Li_0 : Code := lc cLi
noncomputable def Li_1 : Code := lc (rc cLi)
noncomputable def Li_2 : Code := rc (rc cLi)
theorem Li_eq : cLi = .seq Li_0 (.seq Li_1 Li_2) := by kernel_rfl
def mLi : Nat := 4093
noncomputable def tAwI : Tbl := tcons 15 (e0 (.bool true)) fun _ => none
noncomputable def tLi (P : Value) (k : Int) (t : Value) (h3 : Bool) (bb : Bool) (tb : Tbl) : Tbl := tcons 8 (eVv [P] (.tuple ⟨[I k, I 0]⟩)) (tcons 12 (eVv [P] (I k)) (tcons 10 (eVv [P] t) (tcons 11 (eVv [P] (.tuple ⟨[.bool bb, .bool h3]⟩)) tb)))
noncomputable def tLi2 (P : Value) (k : Int) (h3 : Bool) (x : Nat → Int) : Tbl := tcons 9 (eVv [P] (.tuple ⟨[nilT, I 4]⟩)) (tLi P k (.tuple ⟨[x4 x, .bool true, I 0]⟩) h3 true (tcons 13 (eV [P, x4 x] true) (tcons 14 (eV [P, x4 x] true) tAwI)))
noncomputable def eI2n (a0 : List Value) (k : Nat) (c : List Value) : Ent := ⟨fun args _ => m_svv args a0, fun _ _ => true, fun _ A => .tuple ⟨[.slice (some ⟨A.next, 0, none⟩) k k, I 0]⟩, fun _ A => A.new (.cells c 71 A.next 2), fun _ _ => undef, fun _ A => A⟩
noncomputable def eN2u (a0 : List Value) (k : Nat) (c : List Value) : Ent := ⟨fun args _ => m_svv args a0, fun _ _ => true, fun _ A => .slice (some ⟨A.next, 0, none⟩) k unk, fun _ A => A.new (.cells c 71 A.next 2), fun _ _ => undef, fun _ A => A⟩
noncomputable def m_pq (n : Nat) (c : List Value) (l z : Nat) (ci : List Value) (l2 z2 : Nat) (cj : List Value) : Bool := @decide (l = n ∧ l2 = n ∧ z ≠ unkE ∧ z2 ≠ unkE ∧ ci = c ∧ cj = c) (Classical.propDecidable _)
noncomputable def ePq (n : Nat) (c : List Value) : Ent := ent (fun args A => match args with
 | [.slice (some ⟨i, 0, none⟩) l z, .slice (some ⟨j, 0, none⟩) l2 z2] => match A.heap.get i, A.heap.get j with
  | some (.cells ci _ _ _), some (.cells cj _ _ _) => m_pq n c l z ci l2 z2 cj
  | _, _ => false
 | _ => false) fun _ _ => .bool true
def z4i : Value := .agg ⟨[I 0, I 0, I 0, I 0]⟩
noncomputable def tLi0 (P : Value) (k : Int) (h3 : Bool) (n : Nat) (c : List Value) : Tbl := tcons 9 (eI2n [P] n c) (tcons 17 (eN2u [P] n c) (tcons 16 (ePq n c) (tLi P k (.tuple ⟨[z4i, .bool false, I 0]⟩) h3 false tAwI)))
theorem liAn (r : Mem) (fs : FnsC) (K : KO) (kx : Nat → KS) (kr : KS) : run (SC r) mLi 90 1 Li_0 fs none (rbK 0 [0] [] K) kx kr (sc0 mLi [nilT]) (tr0 mLi [nilT]) [] emptyA =
    K [some (.slice none 0 0)] [] [] := by kernel_rfl
theorem liAr (r : Mem) (b off n cap : Nat) (fs : FnsC) (K : KO) (kx : Nat → KS) (kr : KS) : run (SC r) mLi 90 1 Li_0 fs none (rbK 0 [0] [] K) kx kr (sc0 mLi [RS b off n cap]) (tr0 mLi [RS b off n cap]) [] emptyA =
    K [some (.slice (some ⟨b, off, some 0⟩) n cap)] [] [] := by kernel_rfl
theorem liBn (r : Mem) (fs : FnsC) (K : KS) : preK (SC r) mLi 90 Li_1 1 fs K [] (bT [0] [some nilT] .nil) [] (mkA []) =
    K [(13, .slice none 0 0)] (.node .nil (some (.slice none 0 0)) .nil) [] (AW.mk 0 .nil .nil) := by kernel_rfl
theorem liBr (r : Mem) (b off n cap : Nat) (fs : FnsC) (K : KS) : preK (SC r) mLi 90 Li_1 1 fs K [] (bT [0] [some (RS b off n cap)] .nil) [] (mkA []) =
    K [(13, .slice (some ⟨b, off, some 0⟩) n cap)] (.node .nil (some (.slice (some ⟨b, off, some 0⟩) n cap)) .nil) [] (AW.mk 0 .nil .nil) := by kernel_rfl
theorem liCn (r : Mem) (bp op m : Nat) (fs : FnsC) (K : KO) : tailK (SC r) mLi 90 Li_1 1 fs (rbK 0 [3] [] K) (RS bp op m 0) [(13, nilT)] (bT [0] [some nilT] .nil) [] (mkA []) =
    K [some (.slice (some ⟨bp, op, some 0⟩) m 0)] [] [] := by kernel_rfl
theorem liCr (r : Mem) (b off n cap bp op m : Nat) (fs : FnsC) (K : KO) : tailK (SC r) mLi 90 Li_1 1 fs (rbK 0 [3] [] K) (RS bp op m 0) [(13, RS b off n cap)] (bT [0] [some (RS b off n cap)] .nil) [] (mkA []) =
    K [some (.slice (some ⟨bp, op, some 0⟩) m 0)] [] [] := by kernel_rfl
theorem liD (r : Mem) (bp op m : Nat) (k : Int) (h3 : Bool) (x : Nat → Int) (K : KS) (kx : Nat → KS) (KR : KO) : run (SC r) mLi 90 1 Li_2 (lvlT (SC r) (tLi2 (RS bp op m 0) k h3 x) .nil 1 1) none K kx (rbK 0 [2] [] KR) [] (bT [3] [some (RS bp op m 0)] .nil) [] (mkA []) =
    bif m_svv [.slice (some ⟨bp, op, some 0⟩) m 0] [.slice (some ⟨bp, op, some 0⟩) m 0] then bif m_svv [.slice (some ⟨bp, op, some 0⟩) m 0] [.slice (some ⟨bp, op, some 0⟩) m 0] then bif m_svv [.slice (some ⟨bp, op, some 0⟩) m 0] [.slice (some ⟨bp, op, some 0⟩) m 0] then bif m_svv [.slice (some ⟨bp, op, some 0⟩) m 0] [.slice (some ⟨bp, op, some 0⟩) m 0] then bif h3 then bif m_svv [.slice (some ⟨bp, op, some 0⟩) m 0] [.slice (some ⟨bp, op, some 0⟩) m 0] then bif k != k then KR [some (.bool false)] [] [] else bif m_svv [.slice (some ⟨bp, op, some 0⟩) m 0, .agg ⟨[I (x 0), I (x 1), I (x 2), I (x 3)]⟩] [.slice (some ⟨bp, op, some 0⟩) m 0, .agg ⟨[I (x 0), I (x 1), I (x 2), I (x 3)]⟩] then bif m_svv [.slice (some ⟨bp, op, some 0⟩) m 0, .agg ⟨[I (x 0), I (x 1), I (x 2), I (x 3)]⟩] [.slice (some ⟨bp, op, some 0⟩) m 0, .agg ⟨[I (x 0), I (x 1), I (x 2), I (x 3)]⟩] then KR [some (.bool true)] [] [] else F4 else F4 else F4 else bif m_svv [.slice (some ⟨bp, op, some 0⟩) m 0] [.slice (some ⟨bp, op, some 0⟩) m 0] then bif k != k then KR [some (.bool false)] [] [] else bif m_svv [.slice (some ⟨bp, op, some 0⟩) m 0, .agg ⟨[I (x 0), I (x 1), I (x 2), I (x 3)]⟩] [.slice (some ⟨bp, op, some 0⟩) m 0, .agg ⟨[I (x 0), I (x 1), I (x 2), I (x 3)]⟩] then bif m_svv [.slice (some ⟨bp, op, some 0⟩) m 0, .agg ⟨[I (x 0), I (x 1), I (x 2), I (x 3)]⟩] [.slice (some ⟨bp, op, some 0⟩) m 0, .agg ⟨[I (x 0), I (x 1), I (x 2), I (x 3)]⟩] then KR [some (.bool true)] [] [] else F4 else F4 else F4 else F4 else F4 else F4 else F4 := by kernel_rfl
theorem liE (r : Mem) (bp op m : Nat) (k : Int) (h3 : Bool) (c : List Value) (K : KS) (kx : Nat → KS) (KR : KO) : run (SC r) mLi 90 1 Li_2 (lvlT (SC r) (tLi0 (RS bp op m 0) k h3 m c) .nil 1 1) none K kx (rbK 0 [2] [] KR) [] (bT [3] [some (RS bp op m 0)] .nil) [] (mkA []) =
    bif m_svv [.slice (some ⟨bp, op, some 0⟩) m 0] [.slice (some ⟨bp, op, some 0⟩) m 0] then bif m_svv [.slice (some ⟨bp, op, some 0⟩) m 0] [.slice (some ⟨bp, op, some 0⟩) m 0] then bif m_svv [.slice (some ⟨bp, op, some 0⟩) m 0] [.slice (some ⟨bp, op, some 0⟩) m 0] then bif m_svv [.slice (some ⟨bp, op, some 0⟩) m 0] [.slice (some ⟨bp, op, some 0⟩) m 0] then bif h3 then bif m_svv [.slice (some ⟨bp, op, some 0⟩) m 0] [.slice (some ⟨bp, op, some 0⟩) m 0] then bif k != k then KR [some (.bool false)] [] [] else bif m_svv [.slice (some ⟨bp, op, some 0⟩) m 0] [.slice (some ⟨bp, op, some 0⟩) m 0] then bif m_pq m c m m c m unk c then KR [some (.bool true)] [] [] else F4 else F4 else F4 else bif m_svv [.slice (some ⟨bp, op, some 0⟩) m 0] [.slice (some ⟨bp, op, some 0⟩) m 0] then bif k != k then KR [some (.bool false)] [] [] else bif m_svv [.slice (some ⟨bp, op, some 0⟩) m 0] [.slice (some ⟨bp, op, some 0⟩) m 0] then bif m_pq m c m m c m unk c then KR [some (.bool true)] [] [] else F4 else F4 else F4 else F4 else F4 else F4 else F4 := by kernel_rfl
end Go.Proofs
namespace Go.Proofs
open Go Go.Ev
def mskH : Tr Nat := (.node (.node (.node (.node (.node (.node (.node (.node .nil (some 3103) .nil) (some 479) .nil) none (.node .nil (some 23) .nil)) (some 49119) (.node (.node (.node .nil (some 0) .nil) (some 19) .nil) (some 12351) (.node .nil (some 5) .nil))) (some 65533) (.node (.node (.node (.node .nil (some 0) .nil) (some 12885957631) .nil) (some 61) (.node .nil (some 783) .nil)) (some 1021) (.node (.node .nil (some 23) .nil) (some 19) (.node .nil (some 783) .nil)))) (some 4093) (.node (.node (.node (.node (.node .nil (some 3103) .nil) (some 33557567) .nil) none (.node .nil (some 5) .nil)) none (.node (.node (.node .nil (some 0) .nil) (some 5) .nil) (some 7) (.node .nil (some 5) .nil))) (some 4093) (.node (.node (.node (.node .nil (some 0) .nil) none .nil) (some 23) (.node .nil (some 775) .nil)) (some 455) (.node (.node .nil (some 1971) .nil) (some 115) (.node .nil (some 775) .nil))))) none (.node (.node (.node (.node (.node (.node .nil (some 271) .nil) (some 458877) .nil) (some 23) (.node .nil (some 183) .nil)) (some 253) (.node (.node (.node .nil (some 0) .nil) (some 19) .nil) (some 511) (.node .nil (some 2096159) .nil))) (some 61) (.node (.node (.node (.node .nil (some 0) .nil) (some 7351) .nil) (some 13) (.node .nil (some 7943) .nil)) (some 13) (.node (.node .nil (some 435) .nil) (some 115) (.node .nil (some 7943) .nil)))) (some 131031) (.node (.node (.node (.node (.node .nil (some 0) .nil) (some 2013) .nil) (some 59) (.node .nil (some 39) .nil)) (some 27) (.node (.node .nil (some 5) .nil) (some 51) (.node .nil (some 271) .nil))) (some 27) (.node (.node (.node (.node .nil (some 0) .nil) (some 71) .nil) none (.node .nil (some 7199) .nil)) (some 61) (.node (.node .nil (some 11) .nil) (some 5) (.node .nil (some 7199) .nil)))))) none (.node (.node (.node (.node (.node (.node (.node .nil (some 3103) .nil) (some 79) .nil) (some 415) (.node .nil (some 16607) .nil)) (some 51) (.node (.node (.node .nil (some 0) .nil) (some 5) .nil) (some 71) (.node .nil (some 5) .nil))) (some 61) (.node (.node (.node (.node .nil (some 0) .nil) (some 7) .nil) (some 125) (.node .nil (some 7951) .nil)) (some 51) (.node (.node .nil (some 1567) .nil) (some 493) (.node .nil (some 7951) .nil)))) (some 131069) (.node (.node (.node (.node (.node .nil (some 0) .nil) (some 28895) .nil) (some 253) (.node .nil (some 19) .nil)) (some 61) (.node (.node .nil (some 5) .nil) none (.node .nil (some 5) .nil))) (some 5) (.node (.node (.node (.node .nil (some 0) .nil) (some 435) .nil) (some 17) (.node .nil (some 7951) .nil)) (some 71) (.node (.node .nil (some 25166847) .nil) (some 19) (.node .nil (some 7951) .nil))))) none (.node (.node (.node (.node (.node (.node .nil (some 4159) .nil) none .nil) (some 117900287) (.node .nil (some 2096159) .nil)) (some 125) (.node (.node (.node .nil (some 0) .nil) (some 43) .nil) (some 946866127) (.node .nil (some 3103) .nil))) none (.node (.node (.node (.node .nil (some 0) .nil) (some 7) .nil) (some 115) (.node .nil (some 36028797018996495) .nil)) (some 123) (.node (.node .nil (some 23) .nil) (some 5) (.node .nil (some 36028797018996495) .nil)))) (some 33554429) (.node (.node (.node (.node (.node .nil (some 0) .nil) (some 29) .nil) (some 511) (.node .nil (some 23) .nil)) (some 455) (.node (.node .nil (some 5) .nil) (some 7) (.node .nil (some 4159) .nil))) (some 123) (.node (.node (.node (.node .nil (some 0) .nil) (some 5) .nil) none (.node .nil (some 15391) .nil)) (some 253) (.node (.node .nil (some 7) .nil) (some 29) (.node .nil (some 15391) .nil)))))))
noncomputable abbrev CC (r : Mem) : Cfg := Cfg.ofRo Tryz.prog r
theorem CC_ok (r : Mem) : (CC r).Ok := Cfg.ofRo_ok evMixed evNames r
noncomputable def tSF : Tbl := tcons 53 eSF fun _ => none
theorem tSF_ok (r : Mem) : TOk (CC r) tSF := (show TOk (SC r) tSF from TOk.nil.cons (eSF_ok r))
end Go.Proofs
namespace Go.Proofs
open Go Go.Ev
theorem awake10 : GrT Tryz.prog tabM 15 [] (.bool true) := GrT.of (CC_ok tabM) (tSF_ok tabM) mskH rfl ⟨1000, 40, by kernel_rfl⟩
end Go.Proofs
namespace Go.Proofs
open Go Go.Ev Go.Num
section
variable {r : Mem} {b off n cap : Nat} {T : List (List Bool)}
theorem eI2n_ok {f k : Nat} {a0 : List Value} {c : List Value} (hk : k ≠ 0) (ha0 : roVs a0 = true) (hgc : gnds c = true) (hg : GrM Tryz.prog r f a0 (.tuple ⟨[gy 0 k, I 0]⟩) (rowA c 71 2)) : EOk (SC r) f (eI2n a0 k c) := fun args A hgd F hF kk γ W args' hw hR ha => by
 refine ⟨fun hcc => ?_, fun h => nomatch h⟩
 have hs := @of_decide_eq_true _ (Classical.propDecidable _) hgd
 subst hs
 have hof : ofV 0 (.tuple ⟨[gy 0 k, I 0]⟩) = true := by simp [ofV, of1, gnd]
 exact hg.ends (γ := γ) (A := A) hof hgc hF hw (hR.noG noG fun _ => rfl) (ha.of_ros ha0) ha
theorem eN2u_ok {f k : Nat} {a0 : List Value} {c : List Value} (ha0 : roVs a0 = true) (hgc : gnds c = true) (h : SOk (SC r) f a0 emptyA fun v A => v = gx 0 k ∧ A = mkA [oP2 c 0]) : EOk (SC r) f (eN2u a0 k c) := fun args A hgd F hF kk γ W args' hw hR ha => by
 refine ⟨fun hcc => ?_, fun h => nomatch h⟩
 have hs := @of_decide_eq_true _ (Classical.propDecidable _) hgd
 subst hs
 have hg : GrM Tryz.prog r f args (gx 0 k) (rowA c 71 2) := GrM.ofS (C := SC r) rfl rfl h
 have hof : ofV 0 (gx 0 k) = true := by simp [ofV, of1]
 exact hg.ends (γ := γ) (A := A) hof hgc hF hw (hR.noG noG fun _ => rfl) (ha.of_ros ha0) ha
theorem ePq_ok {z : Nat → Int} (hn : n ≤ 1000) : EOk (SC r) 16 (ePq n (ixN z (2 * n))) := EOk.ent fun args A hgd => by
 split at hgd
 ·rename_i i l z1 j l2 z2
  split at hgd
  ·rename_i ci e f sz cj e' f' sz' hgi hgj
   obtain ⟨rfl, rfl, hz1, hz2, rfl, rfl⟩ := @of_decide_eq_true _ (Classical.propDecidable _) hgd
   refine POk.of rfl fun γ W args' hw hR ha => ?_
   obtain ⟨la⟩ := args'
   cases ha with
   | cons h1 h2 =>
   cases h2 with
   | cons h2 h3 =>
   cases h3
   obtain ⟨b, k', p1, p2⟩ := own_row hw hR (natFx hz1) hgi h1
   obtain ⟨b2, k2, p3, p4⟩ := own_row hw hR (natFx hz2) hgj h2
   exact ⟨memW W, [RS b k' l2 0, RS b2 k2 l2 0], memW_ro W, .cons p1 (.cons p3 .nil), pz_ok (fun j hj => p2 j _ (ix_get hj) rfl) (fun j hj => p4 j _ (ix_get hj) rfl) hn⟩
  ·cases hgd
 ·cases hgd
theorem tLi_ok {t : Value} {h3 bb : Bool} {tb : Tbl} (hmt : ∀ b j u, tabM b j = some u → r b j = some u) (hM : TabM r b off T) (hn : T.length = n) (hc : ckO T = true) (ht : GrT Tryz.prog r 10 [RS b off n cap] t) (hh : GrT Tryz.prog r 11 [RS b off n cap] (.tuple ⟨[.bool bb, .bool h3]⟩)) (htb : TOk (SC r) tb) : TOk (SC r) (tLi (RS b off n cap) ((rsN (clW T) n).length : Nat) t h3 bb tb) :=
 (((htb.cons (eVv_ok rfl hh)).cons (eVv_ok rfl ht)).cons (eVv_ok rfl (rm_ok hM hn hc))).cons (eVv_ok rfl (mg_ok hmt hM hn hc))
theorem lx_all {γ : Gam} {W : World} {F : Fence} {kk : Nat} (haw : ∀ r : Mem, (∀ b j u, tabM b j = some u → r b j = some u) → GrT Tryz.prog r 15 [] (.bool true)) (hF : Wide F) (hro : RoRel γ none F.round) (h0' : ∀ i, 0 ≤ i → γ i = none) (hmt : ∀ b j u, tabM b j = some u → r b j = some u) (hM : TabM r b off T) (hc : ckO T = true) {ox2 : Nat → OutsG} : ReachG Tryz.prog mLi 90 F kk γ W Li_2 r (St.of [3] [some (RS b off T.length 0)] [] []) (CanG Tryz.prog mLi 90 γ W ⟨[2], fun r1 vs ms os => vs = [some (.bool true)] ∧ ms = [] ∧ os = []⟩ ox2 ⟨[2], fun r1 vs ms os => vs = [some (.bool true)] ∧ ms = [] ∧ os = []⟩) := by
 have hl := ck_len hc
 have hta : TOk (SC r) tAwI := TOk.nil.cons (e0_ok (haw r hmt))
 have hh := hs_ok (cap := 0) hM rfl hc
 have ht := tt_ok (cap := 0) hmt hM rfl hc
 rw [tw_has hl.2] at hh
 generalize hX T (thF T) T.length T.length = h3 at hh
 cases hO : twO (clW T) T.length with
 | some p =>
  obtain ⟨pb, pd⟩ := p
  have hB := tw_four hl.2 hO
  have hI := in_no (cap := 0) hmt hM rfl hc (by rw [hO]; rfl)
  have e1 := rf_tw (cap := 0) hM rfl hc (twV (clW T) T.length)
  have e2 := sh_tw (cap := 0) hmt hM rfl hc (twV (clW T) T.length)
  rw [hB] at e1 e2
  rw [hO] at hh ht
  refine ReachG.segR (SC_ok r) (t := tLi2 (RS b off T.length 0) ((rsN (clW T) T.length).length : Nat) h3 (twV (clW T) T.length)) ((tLi_ok hmt hM rfl hc ht hh ((hta.cons (eV_ok rfl e2)).cons (eV_ok rfl e1))).cons (eVv_ok rfl hI)) (tm := .nil) (L := 1) (L' := 1) (d := 1) (n0 := 0) hF hro h0' [] (on := Outs.no) (ox := fun _ => Outs.no) (orr := ⟨[2], [], fun vs ms os => vs = [some (.bool true)] ∧ ms = [] ∧ os = []⟩) (fun p hp => nomatch hp) ?_ (fun _ _ _ h => h.elim) (fun _ _ _ _ h => h.elim) (fun vs ms os h => IsG.here h)
  have hn' := liD r b off T.length ((rsN (clW T) T.length).length : Nat) h3 (twV (clW T) T.length)
  simp only [svv_rfl, neF (show (((rsN (clW T) T.length).length : Nat) : Int) = ((rsN (clW T) T.length).length : Nat) from rfl), cond_true, cond_false] at hn'
  cases h3 <;> exact (hn' _ _ _).trans (qq_ok ⟨rfl, rfl, rfl⟩)
 | none =>
  have hI := in_yes (cap := 0) hmt hM rfl hc (by rw [hO]; rfl)
  have hcn := cn_S (cap := 0) hM rfl hc
  rw [ci_same hc] at hcn
  rw [hO] at hh ht
  have hv : x4 (twV (clW T) T.length) = z4i := by unfold x4 twV; rw [hO]; rfl
  rw [hv] at ht
  refine ReachG.segR (SC_ok r) (t := tLi0 (RS b off T.length 0) ((rsN (clW T) T.length).length : Nat) h3 T.length (ixN (ciZ (clW T) T.length) (2 * T.length))) ((((tLi_ok hmt hM rfl hc ht hh hta).cons (ePq_ok (by omega))).cons (eN2u_ok rfl (ix_gnd _ _) hcn)).cons (eI2n_ok (by omega) rfl (ix_gnd _ _) hI)) (tm := .nil) (L := 1) (L' := 1) (d := 1) (n0 := 0) hF hro h0' [] (on := Outs.no) (ox := fun _ => Outs.no) (orr := ⟨[2], [], fun vs ms os => vs = [some (.bool true)] ∧ ms = [] ∧ os = []⟩) (fun p hp => nomatch hp) ?_ (fun _ _ _ h => h.elim) (fun _ _ _ _ h => h.elim) (fun vs ms os h => IsG.here h)
  have hn' := liE r b off T.length ((rsN (clW T) T.length).length : Nat) h3 (ixN (ciZ (clW T) T.length) (2 * T.length))
  have hpq : m_pq T.length (ixN (ciZ (clW T) T.length) (2 * T.length)) T.length T.length (ixN (ciZ (clW T) T.length) (2 * T.length)) T.length unk (ixN (ciZ (clW T) T.length) (2 * T.length)) = true := @decide_eq_true _ (Classical.propDecidable _) ⟨rfl, rfl, by unfold unkE; omega, by decide, rfl, rfl⟩
  simp only [svv_rfl, neF (show (((rsN (clW T) T.length).length : Nat) : Int) = ((rsN (clW T) T.length).length : Nat) from rfl), hpq, cond_true, cond_false] at hn'
  cases h3 <;> exact (hn' _ _ _).trans (qq_ok ⟨rfl, rfl, rfl⟩)
end
theorem law_intervals (r : Mem) (hm : ∀ b j u, tabM b j = some u → r b j = some u) (u0 : Value) (s0 : ArgRowT r 1 (ArgRow r 1 ArgBool) u0) : GrT Tryz.prog r 3 [u0] (.bool true) := by
 have haw : ∀ r : Mem, (∀ b j u, tabM b j = some u → r b j = some u) → GrT Tryz.prog r 15 [] (.bool true) := fun r h => awake10.more h
 cases s0 with
 | nil => exact tame_law Li_eq (by kernel_rfl) (by kernel_rfl) (by kernel_rfl) rfl (fun _ _ => rfl) (liAn r) (liBn r) (by kernel_rfl) (fun r bp op k => liCn r bp op k) (fun r1 => by kernel_rfl) tameK_n fun r2 bp op T γ W F kk hF hro h0' hM hc hle => lx_all haw hF hro h0' (fun b j u e => hle.sub _ _ _ (hm b j u e)) hM hc
 | row b off n cap hl hc h => exact tame_law Li_eq (by kernel_rfl) (by kernel_rfl) (by kernel_rfl) rfl (fun _ _ => rfl) (liAr r b off n cap) (liBr r b off n cap) (by kernel_rfl) (fun r bp op k => liCr r b off n cap bp op k) (fun r1 => by kernel_rfl) (tameK_r hl h) fun r2 bp op T γ W F kk hF hro h0' hM hc hle => lx_all haw hF hro h0' (fun b j u e => hle.sub _ _ _ (hm b j u e)) hM hc
end Go.Proofs
