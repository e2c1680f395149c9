/- What the claim is proved with, part 3: the evaluator and the contracts of the calls. -/
import Derived.Test.YtdalaifnhppidaaDoorPack2
import Derived.Test.YtdalaifnhppidaaDoorPack1
import Derived.Test.YtdalaifnhppidaaDoorEvRd
import Derived.Test.YtdalaifnhppidaaDoorEvGp
set_option linter.unusedVariables false
set_option linter.unusedSimpArgs false
set_option maxRecDepth 100000
namespace Go.Proofs
open Go Go.Ev Go.Num
theorem reachG_thenZ {P : Program} {m n : Nat} {F : Fence} {k : Nat} {γ0 : Gam} {W0 : World} {c : Code} {r : Mem} {st : St} {o1 o2 : OutsG} {ox : Nat → OutsG} {orr : OutsG} (h : ReachG P m n F k γ0 W0 c r st (CanG P m n γ0 W0 o1 (fun _ => OutsG.no) OutsG.no)) (hq : ∀ r vs ms os, o1.Q r vs ms os → IsG P m n γ0 W0 o2 r (St.of o1.lv vs ms os)) : ReachG P m n F k γ0 W0 c r st (CanG P m n γ0 W0 o2 ox orr) :=
 ReachG.mono h fun ex r1 st h => by
  cases ex with
  | normal => exact isG_trans h hq
  | exit id =>
   intro γ' a W' hs hb
   obtain ⟨_, _, _, _, _, hf, _⟩ := h γ' a W' hs hb
   exact hf.elim
  | ret =>
   intro γ' a W' hs hb
   obtain ⟨_, _, _, _, _, hf, _⟩ := h γ' a W' hs hb
   exact hf.elim
  | _ => exact h
theorem TabC.tabMZ {r r1 : Mem} (hle : Mem.le r r1) {c : List Value} {T : List (List Bool)} (hT : TabC r c T) {b o : Nat} (hrow : ∀ k u, c[k]? = some u → r1 b (o + k) = some u) : TabM r1 b o T := fun i l hl => by
 have hi : i < T.length := (List.getElem?_eq_some_iff.1 hl).1
 obtain ⟨v, hv⟩ : ∃ v, c[i]? = some v := ⟨_, List.getElem?_eq_getElem (by rw [hT.1]; exact hi)⟩
 exact ⟨v, hrow _ _ hv, (hT.2 i v l hv hl).mono hle⟩
theorem tZc_ok {r : Mem} {bp op m : Nat} {T : List (List Bool)} (hp : TabM r bp op T) (hTl : T.length = m) (hm : m ≤ 1000) {e : Int} (he : e = (if ckO T then 0 else 100)) : TOk (SC r) (tZc (RS bp op m 0) e) := by
 refine TOk.nil.cons (EOk.ent fun args A hgd => ?_)
 have hs := @of_decide_eq_true _ (Classical.propDecidable _) hgd
 subst hs
 subst he
 exact (og_ok hp hTl hm).ro rfl A
def OrdM (r1 : Mem) (v : Value) : Prop := ∃ bo oo T, v = RS bo oo T.length 0 ∧ 1 ≤ T.length ∧ T.length ≤ 14 ∧ TabM r1 bo oo T ∧ ckO T = true
def qZt (r : Mem) : OutsG := ⟨[2], fun r1 vs ms os => ∃ v, Mem.le r r1 ∧ OrdM r1 v ∧ vs = [some v] ∧ ms = [] ∧ os = []⟩
theorem zt_ok {r : Mem} {b off n cap : Nat} (h1 : 1 ≤ n) (hin : ∀ i, i < min n 14 → ∃ u, r b (off + i) = some u ∧ ArgRow r 1 ArgBool u) : SOkG Tryd.prog r 14 [RS b off n cap] emptyA fun v A r1 => Mem.le r r1 ∧ A = mkA [] ∧ OrdM r1 v := by
 refine callOG SC_ok (by kernel_rfl) ((bodySC r _).trans Zt_eq) (nt := 136) (by kernel_rfl) (rs := [.tmp 2]) (by kernel_rfl) mZt rfl (qZt r) ?_ fun γ W F kk hwr hF hro h0' => ?_
 ·rintro r1 vs ms os ⟨v, hle, ⟨bo, oo, T, rfl, hT⟩, rfl, rfl, rfl⟩
  exact ⟨_, mkA [], by kernel_rfl, hle, rfl, bo, oo, T, rfl, hT⟩
 have h0' : ∀ i, 0 ≤ i → γ i = none := h0'
 have hTl := inTab_len r b off (min n 14)
 refine ReachG.seqC (o1 := ⟨[0], fun r1 vs ms os => r1 = r ∧ vs = [some (RS b off n cap)] ∧ ms = [] ∧ os = []⟩) (ReachG.segR (SC_ok r) TOk.nil (tm := .nil) (L := 1) (L' := 1) (d := 1) (n0 := 0) hF hro h0' [] (on := ⟨[0], [], fun vs ms os => vs = [some (RS b off n cap)] ∧ ms = [] ∧ os = []⟩) (ox := fun _ => Outs.no) (orr := Outs.no) (fun p hp => nomatch hp) ?_ (fun vs ms os h => IsG.here ⟨rfl, h⟩) (fun _ _ _ _ h => h.elim) (fun _ _ _ h => h.elim)) fun r1 vs ms os hq => ?_
 ·exact (ztA r b off n cap _ _ _ _).trans (qq_ok ⟨rfl, rfl, rfl⟩)
 obtain ⟨rfl, rfl, rfl, rfl⟩ := hq
 refine ReachG.seqC (o1 := ⟨[3], fun r2 vs ms os => ∃ bp op, Mem.le r1 r2 ∧ TabM r2 bp op (inTab r1 b off (min n 14)) ∧ vs = [some (RS bp op (min n 14) 0)] ∧ ms = [] ∧ os = []⟩) ?_ fun r2 vs ms os hq => ?_
 ·refine reachG_thenZ (o1 := ⟨[3], fun r2 vs ms os => ms = [] ∧ Mem.le r1 r2 ∧ ∃ c, vs = [some (gwT 0 (min n 14))] ∧ os = [oTb c 0] ∧ TabC r2 c (inTab r1 b off (min n 14)) ∧ m_nns c = true⟩) (ReachG.callC (fl := []) SC_ok hF h0' TOk.nil (tm := .nil) (L := 1) (d := 1) 1 (s1 := (enZ (RS b off n cap)).1) (b1 := (enZ (RS b off n cap)).2) (ms1 := []) (A1 := mkA []) (A2 := emptyA) (i := 27) (args := [RS b off n cap]) ?_ (by kernel_rfl) (ta_ok h1 hin) ?_) fun r2 vs ms os h => ?_
  ·exact (ztB r1 b off n cap _ _).trans (qn_ok rfl)
  ·rintro v A' r2 ⟨hle, c, rfl, rfl, hT, hc⟩
   refine ⟨fun _ => none, TOk.nil, .nil, 1, 1, ?_⟩
   have hn' := ztC r2 b off n cap (min n 14) c
   simp only [hc, Bool.and_true, cond_true] at hn'
   exact (hn' _ _).trans (qq_ok ⟨rfl, hle, c, rfl, rfl, hT, hc⟩)
  ·obtain ⟨rfl, hle, c, rfl, rfl, hT, hc⟩ := h
   refine IsG.freeze (os0 := []) (j := 0) h0' rfl (Nat.zero_le _) rfl hc fun b' o' r3 hle2 hrow => ?_
   have hf := frzU 0 b' o' (min n 14)
   exact ⟨[some (RS b' o' (min n 14) 0)], [], by simp only [frzO, hf], rfl, b', o', Mem.le_trans hle hle2, hT.tabMZ hle2 hrow, rfl, rfl, rfl⟩
 obtain ⟨bp, op, hle2, hp, rfl, rfl, rfl⟩ := hq
 have hm : min n 14 ≤ 1000 := by omega
 by_cases hck : ckO (inTab r1 b off (min n 14)) = true
 ·refine ReachG.seqC (o1 := ⟨[3], fun _ _ _ _ => False⟩) (ReachG.segR (SC_ok r2) (tZc_ok hp hTl hm (e := 0) (by rw [hck]; rfl)) (tm := .nil) (L := 1) (L' := 1) (d := 1) (n0 := 0) hF hro h0' [] (on := ⟨[3], [], fun _ _ _ => False⟩) (ox := fun _ => Outs.no) (orr := ⟨[2], [], fun vs ms os => vs = [some (RS bp op (min n 14) 0)] ∧ ms = [] ∧ os = []⟩) (fun p hp => nomatch hp) ?_ (fun vs ms os h => h.elim) (fun _ _ _ _ h => h.elim) ?_) fun r3 vs ms os hq => hq.elim
  ·have hn' := ztD0 r2 bp op (min n 14)
   simp only [svv_rfl, cond_true] at hn'
   exact (hn' _ _ _).trans (qq_ok ⟨rfl, rfl, rfl⟩)
  ·rintro vs ms os ⟨rfl, rfl, rfl⟩
   exact IsG.here ⟨_, hle2, ⟨bp, op, inTab r1 b off (min n 14), by rw [hTl], by rw [hTl]; omega, by rw [hTl]; omega, hp, hck⟩, rfl, rfl, rfl⟩
 refine ReachG.seqC (o1 := ⟨[3], fun r3 vs ms os => r3 = r2 ∧ vs = [some (RS bp op (min n 14) 0)] ∧ ms = [] ∧ os = []⟩) (ReachG.segR (SC_ok r2) (tZc_ok hp hTl hm (e := 100) (by rw [if_neg hck])) (tm := .nil) (L := 1) (L' := 1) (d := 1) (n0 := 0) hF hro h0' [] (on := ⟨[3], [], fun vs ms os => vs = [some (RS bp op (min n 14) 0)] ∧ ms = [] ∧ os = []⟩) (ox := fun _ => Outs.no) (orr := ⟨[2], [], fun _ _ _ => False⟩) (fun p hp => nomatch hp) ?_ (fun vs ms os h => IsG.here ⟨rfl, h⟩) (fun _ _ _ _ h => h.elim) (fun _ _ _ h => h.elim)) fun r3 vs ms os hq => ?_
 ·have hn' := ztD100 r2 bp op (min n 14)
  simp only [svv_rfl, cond_true] at hn'
  exact (hn' _ _ _).trans (qq_ok ⟨rfl, rfl, rfl⟩)
 obtain ⟨rfl, rfl, rfl, rfl⟩ := hq
 obtain ⟨q, hqe⟩ : ∃ q, q = 1 + min n 14 % 12 := ⟨_, rfl⟩
 have hq1 : 1 ≤ q := by omega
 have hq12 : q ≤ 12 := by omega
 have hw : IntKind.wrap .i64 (1 + Int.tmod (min n 14 : Nat) 12) = (q : Nat) := by
  have e1 : Int.tmod ((min n 14 : Nat) : Int) 12 = ((min n 14 % 12 : Nat) : Int) := rfl
  rw [e1]
  have e2 : (1 : Int) + ((min n 14 % 12 : Nat) : Int) = ((q : Nat) : Int) := by omega
  rw [e2]
  exact wrI (by omega)
 refine ReachG.seqC (o1 := ⟨[3, 4], fun r4 vs ms os => r4 = r3 ∧ vs = [some (RS bp op (min n 14) 0), some (I (q : Nat))] ∧ ms = [] ∧ os = []⟩) (ReachG.segR (SC_ok r3) TOk.nil (tm := .nil) (L := 1) (L' := 1) (d := 1) (n0 := 0) hF hro h0' [] (on := ⟨[3, 4], [], fun vs ms os => vs = [some (RS bp op (min n 14) 0), some (I (q : Nat))] ∧ ms = [] ∧ os = []⟩) (ox := fun _ => Outs.no) (orr := Outs.no) (fun p hp => nomatch hp) ?_ (fun vs ms os h => IsG.here ⟨rfl, h⟩) (fun _ _ _ _ h => h.elim) (fun _ _ _ h => h.elim)) fun r4 vs ms os hq => ?_
 ·have hn' := ztE r3 bp op (min n 14)
  simp only [Int.ofNat_eq_natCast] at hn'
  simp only [show ((1 : Nat) : Int) = 1 from rfl, show ((12 : Nat) : Int) = 12 from rfl, hw] at hn'
  exact (hn' _ _ _ _).trans (qq_ok ⟨rfl, rfl, rfl⟩)
 obtain ⟨rfl, rfl, rfl, rfl⟩ := hq
 refine ReachG.seqC (o1 := ⟨[3, 4, 5], fun r5 vs ms os => r5 = r4 ∧ vs = [some (RS bp op (min n 14) 0), some (I (q : Nat)), some nilT] ∧ ms = [] ∧ os = []⟩) (ReachG.segR (SC_ok r4) TOk.nil (tm := .nil) (L := 1) (L' := 1) (d := 1) (n0 := 0) hF hro h0' [] (on := ⟨[3, 4, 5], [], fun vs ms os => vs = [some (RS bp op (min n 14) 0), some (I (q : Nat)), some nilT] ∧ ms = [] ∧ os = []⟩) (ox := fun _ => Outs.no) (orr := Outs.no) (fun p hp => nomatch hp) ((ztF r4 bp op (min n 14) q _ _ _ _).trans (qq_ok ⟨rfl, rfl, rfl⟩)) (fun vs ms os h => IsG.here ⟨rfl, h⟩) (fun _ _ _ _ h => h.elim) (fun _ _ _ h => h.elim)) fun r5 vs ms os hq => ?_
 obtain ⟨rfl, rfl, rfl, rfl⟩ := hq
 refine ReachG.seqC (o1 := ⟨[3, 4, 5], fun r6 vs ms os => ∃ bo oo bk ok, MatM γ W r5 r6 bo oo q bk ok (fun _ _ => false) ∧ vs = [some (RS bp op (min n 14) 0), some (I (q : Nat)), some (RS bo oo q 0)] ∧ ms = [] ∧ os = []⟩) (ReachG.seqC (o1 := ⟨lvZ0, fun r6 vs ms os => r6 = r5 ∧ vs = vZ0 (RS bp op (min n 14) 0) nilT q 0 ∧ ms = [] ∧ os = []⟩) (ReachG.segR (SC_ok r5) TOk.nil (tm := .nil) (L := 1) (L' := 1) (d := 1) (n0 := 0) hF hro h0' [] (on := ⟨lvZ0, [], fun vs ms os => vs = vZ0 (RS bp op (min n 14) 0) nilT q 0 ∧ ms = [] ∧ os = []⟩) (ox := fun _ => Outs.no) (orr := Outs.no) (fun p hp => nomatch hp) ((ztG r5 bp op (min n 14) q _ _ _ _).trans (qq_ok ⟨rfl, rfl, rfl⟩)) (fun vs ms os h => IsG.here ⟨rfl, h⟩) (fun _ _ _ _ h => h.elim) (fun _ _ _ h => h.elim)) fun r6 vs ms os hq => ?_) fun r6 vs ms os hq => ?_
 ·obtain ⟨rfl, rfl, rfl, rfl⟩ := hq
  exact zv_x hq1 hq12 hF hro h0'
 obtain ⟨bo, oo, bk, ok, hM6, rfl, rfl, rfl⟩ := hq
 refine ReachG.seqC (o1 := ⟨[4, 5], fun r7 vs ms os => (∃ M', RankOk q M' ∧ MatM γ W r5 r7 bo oo q bk ok M') ∧ vs = [some (I (q : Nat)), some (RS bo oo q 0)] ∧ ms = [] ∧ os = []⟩) (ReachG.seqC (o1 := ⟨lvZ2, fun r7 vs ms os => r7 = r6 ∧ vs = [some (RS bp op (min n 14) 0), some (I (q : Nat)), some (RS bo oo q 0), some (I (0 : Nat))] ∧ ms = [] ∧ os = []⟩) (ReachG.segR (SC_ok r6) TOk.nil (tm := .nil) (L := 1) (L' := 1) (d := 1) (n0 := 0) hF hro h0' [] (on := ⟨lvZ2, [], fun vs ms os => vs = [some (RS bp op (min n 14) 0), some (I (q : Nat)), some (RS bo oo q 0), some (I (0 : Nat))] ∧ ms = [] ∧ os = []⟩) (ox := fun _ => Outs.no) (orr := Outs.no) (fun p hp => nomatch hp) ((ztI r6 bp op (min n 14) q bo oo _ _ _ _).trans (qq_ok ⟨rfl, rfl, rfl⟩)) (fun vs ms os h => IsG.here ⟨rfl, h⟩) (fun _ _ _ _ h => h.elim) (fun _ _ _ h => h.elim)) fun r7 vs ms os hq => ?_) fun r7 vs ms os hq => ?_
 ·obtain ⟨rfl, rfl, rfl, rfl⟩ := hq
  exact zu_x hq1 hq12 hp hTl hm hF hro h0' (RankOk.none q) hM6
 obtain ⟨⟨M', hR7, hM7⟩, rfl, rfl, rfl⟩ := hq
 refine ReachG.seqC (o1 := ⟨[5], fun r8 vs ms os => (∃ M', RankOk q M' ∧ TrP q M' ∧ MatM γ W r5 r8 bo oo q bk ok M') ∧ vs = [some (RS bo oo q 0)] ∧ ms = [] ∧ os = []⟩) (ReachG.seqC (o1 := ⟨lvZ6, fun r8 vs ms os => r8 = r7 ∧ vs = vZ6 (RS bo oo q 0) q 0 ∧ ms = [] ∧ os = []⟩) (ReachG.segR (SC_ok r7) TOk.nil (tm := .nil) (L := 1) (L' := 1) (d := 1) (n0 := 0) hF hro h0' [] (on := ⟨lvZ6, [], fun vs ms os => vs = vZ6 (RS bo oo q 0) q 0 ∧ ms = [] ∧ os = []⟩) (ox := fun _ => Outs.no) (orr := Outs.no) (fun p hp => nomatch hp) ((ztM r7 bo oo q _ _ _ _).trans (qq_ok ⟨rfl, rfl, rfl⟩)) (fun vs ms os h => IsG.here ⟨rfl, h⟩) (fun _ _ _ _ h => h.elim) (fun _ _ _ h => h.elim)) fun r8 vs ms os hq => ?_) fun r8 vs ms os hq => ?_
 ·obtain ⟨rfl, rfl, rfl, rfl⟩ := hq
  exact zt_z hq12 hR7 hF hro h0' hM7
 obtain ⟨⟨M8, hR8, hT8, hM8⟩, rfl, rfl, rfl⟩ := hq
 have hl8 := tbM_len M8 q
 refine ReachG.segR (SC_ok r8) TOk.nil (tm := .nil) (L := 1) (L' := 1) (d := 1) (n0 := 0) hF hro h0' [] (on := ⟨[2], [], fun _ _ _ => False⟩) (ox := fun _ => Outs.no) (orr := ⟨[2], [], fun vs ms os => vs = [some (RS bo oo q 0)] ∧ ms = [] ∧ os = []⟩) (fun p hp => nomatch hp) ((ztT r8 bo oo q _ _ _ _).trans (qq_ok ⟨rfl, rfl, rfl⟩)) (fun vs ms os h => h.elim) (fun _ _ _ _ h => h.elim) ?_
 rintro vs ms os ⟨rfl, rfl, rfl⟩
 exact IsG.here ⟨_, Mem.le_trans hle2 hM8.le, ⟨bo, oo, tbM M8 q, by rw [hl8], by rw [hl8]; exact hq1, by rw [hl8]; omega, hM8.tab hq1, tbM_ck hq1 hq12 hR8 hT8⟩, rfl, rfl, rfl⟩
theorem zt_end {P : Program} {r : Mem} {γ : Gam} {W : World} (h0' : ∀ i, 0 ≤ i → γ i = none) {m n : Nat} : ∀ vs ms os, vs = [some (gwT 0 1)] ∧ ms = [] ∧ os = [oTb [.slice (some ⟨1, 0, none⟩) 1 1] 0, oBo [.bool false] 1] → IsG P m n γ W (qZt r) r (St.of [2] vs ms os) := by
 rintro vs ms os ⟨rfl, rfl, rfl⟩
 refine isG_trans (o1 := ⟨[2], fun r1 vs ms os => Mem.le r r1 ∧ ∃ b1 o1, r1 b1 (o1 + 0) = some (.bool false) ∧ vs = [some (gwT 0 1)] ∧ ms = [] ∧ os = [oTb [RS b1 o1 1 1] 0]⟩) (IsG.freeze (os0 := [oTb [.slice (some ⟨1, 0, none⟩) 1 1] 0]) (j := 1) h0' rfl (Nat.zero_le _) rfl rfl fun b' o' r2 hle hrow => ?_) ?_
 ·refine ⟨[some (gwT 0 1)], [oTb [RS b' o' 1 1] 0], rfl, ?_, hle, b', o', hrow 0 _ rfl, rfl, rfl, rfl⟩
  have e1 : frzVs 1 b' o' [.slice (some ⟨1, 0, none⟩) 1 1] = some [RS b' o' 1 1] := frzVs_one _ _ _ _ _ (frzZ 1 b' o' 1 (by unfold unk; omega))
  unfold oTb
  simp only [frzAs, frzA, e1]
 ·rintro r1 vs ms os ⟨hle, b1, o1, h1, rfl, rfl, rfl⟩
  refine IsG.freeze (os0 := []) (j := 0) h0' rfl (Nat.zero_le _) rfl rfl fun b' o' r2 hle2 hrow => ?_
  have hf := frzU 0 b' o' 1
  refine ⟨[some (RS b' o' 1 0)], [], by simp only [frzO, hf], rfl, _, Mem.le_trans hle hle2, ⟨b', o', [[false]], rfl, Nat.le_refl _, by decide, ?_, by decide⟩, rfl, rfl, rfl⟩
  intro i l hl
  match i, hl with
  | 0, hl =>
   cases hl
   exact ⟨_, hrow 0 _ rfl, .inr ⟨by decide, b1, o1, 1, rfl, fun j x hx => by
    match j, hx with
    | 0, hx => cases hx; exact hle2 _ _ _ h1⟩⟩
theorem zt_nil {r : Mem} : SOkG Tryd.prog r 14 [nilT] emptyA fun v A r1 => Mem.le r r1 ∧ A = mkA [] ∧ OrdM r1 v := by
 refine callOG SC_ok (by kernel_rfl) (c := cZt) (bodySC r _) (nt := 136) (by kernel_rfl) (rs := [.tmp 2]) (by kernel_rfl) mZt rfl (qZt r) ?_ fun γ W F kk hwr hF hro h0' => ?_
 ·rintro r1 vs ms os ⟨v, hle, ⟨bo, oo, T, rfl, hT⟩, rfl, rfl, rfl⟩
  exact ⟨_, mkA [], by kernel_rfl, hle, rfl, bo, oo, T, rfl, hT⟩
 have h0' : ∀ i, 0 ≤ i → γ i = none := h0'
 exact ReachG.segR (SC_ok r) TOk.nil (tm := .nil) (L := 3) (L' := 3) (d := 8) (n0 := 0) hF hro h0' [] (on := ⟨[2], [], fun _ _ _ => False⟩) (ox := fun _ => Outs.no) (orr := ⟨[2], [.t, .t], fun vs ms os => vs = [some (gwT 0 1)] ∧ ms = [] ∧ os = [oTb [.slice (some ⟨1, 0, none⟩) 1 1] 0, oBo [.bool false] 1]⟩) (fun p hp => nomatch hp) ((ztX r _ _ _).trans (qq_ok ⟨rfl, rfl, rfl⟩)) (fun vs ms os h => h.elim) (fun _ _ _ _ h => h.elim) (zt_end h0')
theorem zt_emp {r : Mem} {b off cap : Nat} : SOkG Tryd.prog r 14 [RS b off 0 cap] emptyA fun v A r1 => Mem.le r r1 ∧ A = mkA [] ∧ OrdM r1 v := by
 refine callOG SC_ok (by kernel_rfl) (c := cZt) (bodySC r _) (nt := 136) (by kernel_rfl) (rs := [.tmp 2]) (by kernel_rfl) mZt rfl (qZt r) ?_ fun γ W F kk hwr hF hro h0' => ?_
 ·rintro r1 vs ms os ⟨v, hle, ⟨bo, oo, T, rfl, hT⟩, rfl, rfl, rfl⟩
  exact ⟨_, mkA [], by kernel_rfl, hle, rfl, bo, oo, T, rfl, hT⟩
 have h0' : ∀ i, 0 ≤ i → γ i = none := h0'
 exact ReachG.segR (SC_ok r) TOk.nil (tm := .nil) (L := 3) (L' := 3) (d := 8) (n0 := 0) hF hro h0' [] (on := ⟨[2], [], fun _ _ _ => False⟩) (ox := fun _ => Outs.no) (orr := ⟨[2], [.t, .t], fun vs ms os => vs = [some (gwT 0 1)] ∧ ms = [] ∧ os = [oTb [.slice (some ⟨1, 0, none⟩) 1 1] 0, oBo [.bool false] 1]⟩) (fun p hp => nomatch hp) ((ztY r b off cap _ _ _).trans (qq_ok ⟨rfl, rfl, rfl⟩)) (fun vs ms os h => h.elim) (fun _ _ _ _ h => h.elim) (zt_end h0')
end Go.Proofs
namespace Go.Proofs
open Go Go.Ev Go.Num
theorem ArgRow.moreT {r r' : Mem} (hle : ∀ b j u, r b j = some u → r' b j = some u) {u : Value} (h : ArgRow r 1 ArgBool u) : ArgRow r' 1 ArgBool u := by
 cases h with
 | nil => exact .nil
 | empty => exact .empty
 | row b off len cap hl hc h =>
  refine .row b off len cap hl hc fun i hi => ?_
  obtain ⟨u, h1, h2⟩ := h i hi
  exact ⟨u, hle _ _ _ h1, h2⟩
def TameK (r : Mem) (L : Value) : Prop := ∀ r', (∀ b j u, r b j = some u → r' b j = some u) → SOkG Tryd.prog r' 14 [L] emptyA fun v A r1 => Mem.le r' r1 ∧ A = mkA [] ∧ OrdM r1 v
theorem tameK_n {r : Mem} : TameK r nilT := fun r' _ => zt_nil
theorem tameK_r {r : Mem} {b off n cap : Nat} (hl : n ≤ cap) (h : ∀ i, i < cap * 1 → ∃ u, r b (off + i) = some u ∧ ArgRow r 1 ArgBool u) : TameK r (RS b off n cap) := fun r' hle => by
 by_cases n0 : n = 0
 ·subst n0
  exact zt_emp
 ·refine zt_ok (by omega) fun i hi => ?_
  obtain ⟨u, h1, h2⟩ := h i (by omega)
  exact ⟨u, hle _ _ _ h1, ArgRow.moreT hle h2⟩
noncomputable def eVv (a0 : List Value) (v : Value) : Ent := ent (fun args _ => m_svv args a0) fun _ _ => v
theorem eVv_ok {r : Mem} {f : Nat} {a0 : List Value} {v : Value} (ha : roVs a0 = true) (h : GrT Tryd.prog r f a0 v) : EOk (SC r) f (eVv a0 v) := EOk.ent fun args A hgd => by
 have hs := @of_decide_eq_true _ (Classical.propDecidable _) hgd
 subst hs
 exact h.ro ha A
section
variable {r : Mem} {f m n : Nat} {L : Value} {c0 c1 c2 : Code} {p : Nat}
end
end Go.Proofs
namespace Go.Proofs
open Go Go.Ev Go.Num
noncomputable def tTw (m : Nat) (w a : Nat → Nat) (v : Value) : Tbl := tcons 32 (eVv [.agg ⟨orC m w a⟩] v) fun _ => none
noncomputable def tTt (s : Value) (m : Nat) (w a : Nat → Nat) (v : Value) : Tbl := tcons 29 (eRd s m w a) (tTw m w a v)
noncomputable def eN2 (a0 : List Value) (k : Nat) (c : List Value) : Ent := ⟨fun args _ => m_svv args a0, fun _ _ => true, fun _ A => .slice (some ⟨A.next, 0, none⟩) k k, fun _ A => A.new (.cells c 61 A.next 2), fun _ _ => undef, fun _ A => A⟩
noncomputable def tIn0 (s : Value) (m : Nat) (w a : Nat → Nat) : Tbl := tcons 29 (eRd s m w a) (tcons 30 (eVv [.agg ⟨orC m w a⟩] (.bool false)) fun _ => none)
noncomputable def tIn1 (s : Value) (m : Nat) (w a : Nat → Nat) (c : List Value) : Tbl := tcons 29 (eRd s m w a) (tcons 30 (eVv [.agg ⟨orC m w a⟩] (.bool true)) (tcons 31 (eN2 [.agg ⟨orC m w a⟩] m c) fun _ => none))
theorem hiA (r : Mem) (m : Nat) (w a : Nat → Nat) (x : Nat → Int) (v : Bool) : (lvlT (SC r) (tTw m w a (.tuple ⟨[x4 x, .bool v]⟩)) .nil 1 2).call 30 [.agg ⟨orC m w a⟩] emptyA fin =
    bif m_svv [.agg ⟨(orC m w a)⟩] [.agg ⟨(orC m w a)⟩] then bif v then .ret (.bool false) (AW.mk 0 .nil .nil) else .ret (.bool true) (AW.mk 0 .nil .nil) else F4 := by kernel_rfl
theorem ttA (r : Mem) (b off n cap m : Nat) (w a : Nat → Nat) (x : Nat → Int) (v : Bool) : (lvlT (SC r) (tTt (RS b off n cap) m w a (.tuple ⟨[x4 x, .bool v]⟩)) .nil 1 2).call 16 [RS b off n cap] emptyA fin =
    bif m_svv [.slice (some ⟨b, off, some 0⟩) n cap] [.slice (some ⟨b, off, some 0⟩) n cap] then bif m_svv [.agg ⟨(orC m w a)⟩] [.agg ⟨(orC m w a)⟩] then bif v then .ret (.tuple ⟨[.agg ⟨[I (x 0), I (x 1), I (x 2), I (x 3)]⟩, .bool true, I (Int.ofNat 0)]⟩) (AW.mk 0 .nil .nil) else .ret (.tuple ⟨[.agg ⟨[I (x 0), I (x 1), I (x 2), I (x 3)]⟩, .bool false, I (Int.ofNat 0)]⟩) (AW.mk 0 .nil .nil) else F4 else F4 := by kernel_rfl
theorem inA (r : Mem) (b off n cap m : Nat) (w a : Nat → Nat) : (lvlT (SC r) (tIn0 (RS b off n cap) m w a) .nil 1 2).call 15 [RS b off n cap] emptyA fin =
    bif m_svv [.slice (some ⟨b, off, some 0⟩) n cap] [.slice (some ⟨b, off, some 0⟩) n cap] then bif m_svv [.agg ⟨(orC m w a)⟩] [.agg ⟨(orC m w a)⟩] then .ret (.tuple ⟨[.slice none 0 0, I (Int.ofNat 4)]⟩) (AW.mk 0 .nil .nil) else F4 else F4 := by kernel_rfl
theorem inB (r : Mem) (b off n cap m : Nat) (w a : Nat → Nat) (c : List Value) (K : Value → AW → CR) : (lvlT (SC r) (tIn1 (RS b off n cap) m w a c) .nil 1 2).call 15 [RS b off n cap] emptyA K =
    bif m_svv [.slice (some ⟨b, off, some 0⟩) n cap] [.slice (some ⟨b, off, some 0⟩) n cap] then bif m_svv [.agg ⟨(orC m w a)⟩] [.agg ⟨(orC m w a)⟩] then bif m_svv [.agg ⟨(orC m w a)⟩] [.agg ⟨(orC m w a)⟩] then K (.tuple ⟨[.slice (some ⟨1, 0, none⟩) m m, I (Int.ofNat 0)]⟩) (AW.mk 2 (.node (.node .nil (some (.cells c 61 1 2)) .nil) (some (.cells (orC m w a) 56 0 0)) .nil) .nil) else F4 else F4 else F4 := by kernel_rfl
section
variable {r : Mem} {b off n cap : Nat} {T : List (List Bool)}
theorem clW_lt (hn : T.length ≤ 12) : ∀ j, clW T j < 4096 := fun j => lt12 hn (clO_lt T j T.length)
theorem hi_ok (hmt : ∀ b j u, tabM b j = some u → r b j = some u) {m : Nat} {w a : Nat → Nat} (hw : ∀ j, w j < 4096) (h1 : 1 ≤ m) (hm : m ≤ 12) : GrT Tryd.prog r 30 [.agg ⟨orC m w a⟩] (.bool (!(twO w m).isSome)) := by
 have h := tw_okS (a := a) hmt hw h1 hm
 generalize (twO w m).isSome = v at h
 refine GrT.of (SC_ok r) (t := tTw m w a (.tuple ⟨[x4 (twV w m), .bool v]⟩)) (TOk.nil.cons (eVv_ok rfl h)) .nil rfl ⟨1, 2, ?_⟩
 have hn' := hiA r m w a (twV w m) v
 simp only [svv_rfl, cond_true] at hn'
 refine hn'.trans ?_
 cases v <;> rfl
theorem tt_ok (hmt : ∀ b j u, tabM b j = some u → r b j = some u) (hM : TabM r b off T) (hn : T.length = n) (hc : ckO T = true) : GrT Tryd.prog r 16 [RS b off n cap] (.tuple ⟨[x4 (twV (clW T) n), .bool (twO (clW T) n).isSome, I 0]⟩) := by
 have hl := ck_len hc
 have h := tw_okS (a := wA T n 0) hmt (clW_lt hl.2) (show 1 ≤ n by omega) (show n ≤ 12 by omega)
 generalize (twO (clW T) n).isSome = v at h
 refine GrT.of (SC_ok r) (t := tTt (RS b off n cap) n (clW T) (wA T n 0) (.tuple ⟨[x4 (twV (clW T) n), .bool v]⟩)) ((TOk.nil.cons (eVv_ok rfl h)).cons (eRd_okS hmt hM hn hc)) .nil rfl ⟨1, 2, ?_⟩
 have hn' := ttA r b off n cap n (clW T) (wA T n 0) (twV (clW T) n) v
 simp only [svv_rfl, cond_true] at hn'
 refine hn'.trans ?_
 cases v <;> rfl
theorem in_no (hmt : ∀ b j u, tabM b j = some u → r b j = some u) (hM : TabM r b off T) (hn : T.length = n) (hc : ckO T = true) (h2 : (twO (clW T) n).isSome = true) : GrT Tryd.prog r 15 [RS b off n cap] (.tuple ⟨[nilT, I 4]⟩) := by
 have hl := ck_len hc
 have h := hi_ok (a := wA T n 0) hmt (clW_lt hl.2) (show 1 ≤ n by omega) (show n ≤ 12 by omega)
 rw [h2] at h
 refine GrT.of (SC_ok r) (t := tIn0 (RS b off n cap) n (clW T) (wA T n 0)) ((TOk.nil.cons (eVv_ok rfl h)).cons (eRd_okS hmt hM hn hc)) .nil rfl ⟨1, 2, ?_⟩
 have hn' := inA r b off n cap n (clW T) (wA T n 0)
 simp only [svv_rfl, cond_true] at hn'
 exact hn'.trans rfl
theorem eN2_ok {f k : Nat} {a0 : List Value} {c : List Value} (ha0 : roVs a0 = true) (hgc : gnds c = true) (h : SOk (SC r) f a0 emptyA fun v A => v = gy 0 k ∧ A = mkA [oP2 c 0]) : EOk (SC r) f (eN2 a0 k c) := fun args A hgd F hF kk γ W args' hw hR ha => by
 refine ⟨fun hcc => ?_, fun h => nomatch h⟩
 have hs := @of_decide_eq_true _ (Classical.propDecidable _) hgd
 subst hs
 have hg : GrM Tryd.prog r f args (gy 0 k) (rowA c 61 2) := GrM.ofS (C := SC r) rfl rfl h
 have hof : ofV 0 (gy 0 k) = true := by simp [ofV, of1]
 exact hg.ends (γ := γ) (A := A) hof hgc hF hw (hR.noG noG fun _ => rfl) (ha.of_ros ha0) ha
theorem in_yes (hmt : ∀ b j u, tabM b j = some u → r b j = some u) (hM : TabM r b off T) (hn : T.length = n) (hc : ckO T = true) (h2 : (twO (clW T) n).isSome = false) : GrM Tryd.prog r 15 [RS b off n cap] (.tuple ⟨[gy 0 n, I 0]⟩) (rowA (ixN (ciZ (clW T) n) (2 * n)) 61 2) := by
 have hl := ck_len hc
 have h := hi_ok (a := wA T n 0) hmt (clW_lt hl.2) (show 1 ≤ n by omega) (show n ≤ 12 by omega)
 rw [h2] at h
 have hi := iv_S (r := r) (a := wA T n 0) (clW_lt hl.2) (show 1 ≤ n by omega) (show n ≤ 12 by omega)
 exact GrM.of (SC_ok r) (t := tIn1 (RS b off n cap) n (clW T) (wA T n 0) (ixN (ciZ (clW T) n) (2 * n))) (((TOk.nil.cons (eN2_ok rfl (ix_gnd _ _) hi)).cons (eVv_ok rfl h)).cons (eRd_okS hmt hM hn hc)) .nil ⟨1, 2, by
  rw [inB]
  simp only [svv_rfl, cond_true]
  unfold finM rowOf rowsOf row1
  have hb : Nat.beq n 0 = false := natFx (by omega)
  have hg : gnds (ixN (ciZ (clW T) n) (2 * n)) = true := ix_gnd _ _
  simp only [hb, Bool.and_false]
  show guardK (gnds (ixN (ciZ (clW T) n) (2 * n))) _ = _
  rw [hg]
  rfl⟩
end
end Go.Proofs
namespace Go.Proofs
open Go Go.Ev Go.Num
noncomputable def eI2n (a0 : List Value) (k : Nat) (c : List Value) : Ent := ⟨fun args _ => m_svv args a0, fun _ _ => true, fun _ A => .tuple ⟨[.slice (some ⟨A.next, 0, none⟩) k k, I 0]⟩, fun _ A => A.new (.cells c 61 A.next 2), fun _ _ => undef, fun _ A => A⟩
def z4i : Value := .agg ⟨[I 0, I 0, I 0, I 0]⟩
section
variable {r : Mem} {b off n cap : Nat} {T : List (List Bool)}
theorem eI2n_ok {f k : Nat} {a0 : List Value} {c : List Value} (hk : k ≠ 0) (ha0 : roVs a0 = true) (hgc : gnds c = true) (hg : GrM Tryd.prog r f a0 (.tuple ⟨[gy 0 k, I 0]⟩) (rowA c 61 2)) : EOk (SC r) f (eI2n a0 k c) := fun args A hgd F hF kk γ W args' hw hR ha => by
 refine ⟨fun hcc => ?_, fun h => nomatch h⟩
 have hs := @of_decide_eq_true _ (Classical.propDecidable _) hgd
 subst hs
 have hof : ofV 0 (.tuple ⟨[gy 0 k, I 0]⟩) = true := by simp [ofV, of1, gnd]
 exact hg.ends (γ := γ) (A := A) hof hgc hF hw (hR.noG noG fun _ => rfl) (ha.of_ros ha0) ha
end
end Go.Proofs
namespace Go.Proofs
open Go Go.Ev Go.Num
theorem twJ_no {w : Nat → Nat} {b : Nat} : ∀ {k : Nat}, twJ w b k = none → ∀ d, d < k → twI w b d = false
 | k + 1, h, d, hd => by
  rw [twJ] at h
  cases q : twJ w b k with
  | some e => rw [q] at h; cases h
  | none =>
   rw [q] at h
   by_cases c : d = k
   ·subst c
    cases q2 : twI w b d with
    | false => rfl
    | true => simp only [q2, cond_true] at h; cases h
   ·exact twJ_no q d (by omega)
theorem twO_no {w : Nat → Nat} : ∀ {n : Nat}, twO w n = none → ∀ b d, b < n → d < b → twI w b d = false
 | n + 1, h, b, d, hb, hd => by
  rw [twO] at h
  cases q : twO w n with
  | some e => rw [q] at h; cases h
  | none =>
   rw [q] at h
   by_cases c : b = n
   ·subst c
    cases q2 : twJ w b b with
    | some e => simp only [q2] at h; cases h
    | none => exact twJ_no q2 d hd
   ·exact twO_no q b d (by omega) hd
theorem twJ_yes {w : Nat → Nat} {b d : Nat} : ∀ {k : Nat}, twJ w b k = some d → d < k ∧ twI w b d = true
 | k + 1, h => by
  rw [twJ] at h
  cases q : twJ w b k with
  | some e =>
   rw [q] at h
   cases h
   have := twJ_yes q
   exact ⟨by omega, this.2⟩
  | none =>
   rw [q] at h
   cases q2 : twI w b k with
   | false => simp only [q2, cond_false] at h; cases h
   | true =>
    simp only [q2, cond_true] at h
    cases h
    exact ⟨by omega, q2⟩
theorem twO_yes {w : Nat → Nat} {b d : Nat} : ∀ {n : Nat}, twO w n = some (b, d) → b < n ∧ d < b ∧ twI w b d = true
 | n + 1, h => by
  rw [twO] at h
  cases q : twO w n with
  | some e =>
   rw [q] at h
   cases h
   have := twO_yes q
   exact ⟨by omega, this.2⟩
  | none =>
   rw [q] at h
   cases q2 : twJ w n n with
   | none => simp only [q2] at h; cases h
   | some e =>
    simp only [q2] at h
    cases h
    have := twJ_yes q2
    exact ⟨by omega, this⟩
theorem anN_ne {a b : Nat} (h : anN a b = 0) (i : Nat) (ha : a.testBit i = true) : b.testBit i = true := in_bit.1 (an_zero.1 h) i ha
section
variable {T : List (List Bool)}
theorem clW_b {x y : Nat} (hx : x < T.length) : (clW T y).testBit x = gT T x y := by rw [clW_bit, dT hx, Bool.true_and]
end
end Go.Proofs
namespace Go.Num
def enD (z : Nat → Int) : Nat → List Int
 | 0 => []
 | k + 1 => bif (enD z k).contains (z k) then enD z k else enD z k ++ [z k]
theorem enD_mem {z : Nat → Int} {x : Int} : ∀ {n : Nat}, x ∈ enD z n ↔ ∃ k, k < n ∧ z k = x
 | 0 => ⟨fun h => (nomatch h), fun ⟨_, h, _⟩ => absurd h (by omega)⟩
 | n + 1 => by
  have ih := enD_mem (z := z) (x := x) (n := n)
  have step : x ∈ enD z (n + 1) ↔ x ∈ enD z n ∨ x = z n := by
   rw [enD]
   cases c : (enD z n).contains (z n) with
   | true =>
    have hm : z n ∈ enD z n := by simpa using c
    exact ⟨.inl, fun h => h.elim id fun e => e ▸ hm⟩
   | false => simp
  rw [step, ih]
  exact ⟨fun h => by
   rcases h with ⟨k, h1, h2⟩ | rfl
   ·exact ⟨k, by omega, h2⟩
   ·exact ⟨n, by omega, rfl⟩, fun ⟨k, h1, h2⟩ => by
   by_cases c : k = n
   ·subst c; exact .inr h2.symm
   ·exact .inl ⟨k, by omega, h2⟩⟩
theorem enD_nodup (z : Nat → Int) : ∀ n, (enD z n).Nodup
 | 0 => .nil
 | n + 1 => by
  rw [enD]
  cases c : (enD z n).contains (z n) with
  | true => exact enD_nodup z n
  | false =>
   have hm : ¬ z n ∈ enD z n := fun h => by simp [h] at c
   exact List.nodup_append.2 ⟨enD_nodup z n, by simp, fun a ha b hb => by
    rw [List.mem_singleton] at hb
    subst hb
    exact fun e => hm (e ▸ ha)⟩
theorem enD_len (z : Nat → Int) : ∀ n, (enD z n).length ≤ n
 | 0 => Nat.le_refl _
 | n + 1 => by
  have := enD_len z n
  rw [enD]
  cases (enD z n).contains (z n) <;> simp <;> omega
theorem nod_len {α : Type} [DecidableEq α] : ∀ {a b : List α}, a.Nodup → (∀ x ∈ a, x ∈ b) → a.length ≤ b.length
 | [], _, _, _ => Nat.zero_le _
 | x :: a, b, hn, h => by
  rw [List.nodup_cons] at hn
  have hx := h x (by simp)
  have ih := nod_len (a := a) (b := b.erase x) hn.2 fun y hy => by
   have hne : y ≠ x := fun e => hn.1 (e ▸ hy)
   exact (List.mem_erase_of_ne hne).2 (h y (by simp [hy]))
  rw [List.length_erase_of_mem hx] at ih
  have : 0 < b.length := List.length_pos_of_mem hx
  simp only [List.length_cons]
  omega
theorem enD_range {z : Nat → Int} {n m : Nat} (h1 : ∀ k, k < n → 0 ≤ z k ∧ z k < m) (h2 : ∀ i, i < m → ∃ k, k < n ∧ z k = (i : Int)) : (enD z n).length = m := by
 have a : (enD z n).length ≤ ((List.range m).map fun i : Nat => (i : Int)).length := nod_len (enD_nodup z n) fun x hx => by
  obtain ⟨k, hk, rfl⟩ := enD_mem.1 hx
  have := h1 k hk
  exact List.mem_map.2 ⟨(z k).toNat, List.mem_range.2 (by omega), by omega⟩
 have b : ((List.range m).map fun i : Nat => (i : Int)).length ≤ (enD z n).length := nod_len (by
  rw [List.nodup_iff_pairwise_ne, List.pairwise_map]
  exact (List.nodup_range (n := m)).imp fun h => by omega) fun x hx => by
  obtain ⟨i, hi, rfl⟩ := List.mem_map.1 hx
  obtain ⟨k, hk, e⟩ := h2 i (List.mem_range.1 hi)
  exact enD_mem.2 ⟨k, hk, e⟩
 simp only [List.length_map, List.length_range] at a b
 omega
end Go.Num
namespace Go.Num
structure PkS where
 ends : List Int
 boat : Nat → Nat
section
variable (A B : Nat → Int)
def pkC (k : Int) : List Nat → Nat
 | [] => 0
 | i :: l => pkC k l + if A i ≤ k ∧ k ≤ B i then 1 else 0
def pkD (k : Int) : List Int → Nat
 | [] => 0
 | x :: l => pkD k l + if k ≤ x then 1 else 0
structure PkI (p : List Nat) (s : PkS) : Prop where
 eqD : ∀ k, (∀ j, j ∈ p → A j ≤ k) → pkD k s.ends = pkC A B k p
 upper : ∀ k, pkC A B k p ≤ s.ends.length
 le : ∀ i, i ∈ p → s.boat i < s.ends.length ∧ B i ≤ s.ends.getD (s.boat i) 0
 apart : ∀ i j, i ∈ p → j ∈ p → i ≠ j → s.boat i = s.boat j → B i < A j ∨ B j < A i
 most : s.ends.length = 0 ∨ ∃ i, i ∈ p ∧ s.ends.length ≤ pkC A B (A i) p
 top : s.ends.length = 0 ∨ ∃ i, i ∈ p ∧ s.boat i + 1 = s.ends.length
end
end Go.Num
namespace Go.Num
section
variable (A B : Nat → Int)
end
end Go.Num
namespace Go.Proofs
open Go Go.Ev Go.Num
noncomputable def m_sv (a b : List Value) : Bool := @decide (a = b) (Classical.propDecidable _)
theorem sv_rfl (a : List Value) : m_sv a a = true := @decide_eq_true _ (Classical.propDecidable _) rfl
noncomputable def cRI : Code := bodyOf S0 19
noncomputable def RI_0 : Code := (lc cRI)
noncomputable def RI_1 : Code := (lc (rc cRI))
noncomputable def RI_2 : Code := (lc (rc (rc cRI)))
noncomputable def RI_3 : Code := (lc (rc (rc (rc cRI))))
noncomputable def RI_4 : Code := (lc (lc (rc (rc (rc (rc cRI))))))
noncomputable def RI_5 : Code := (ic (ic (rc (lc (rc (rc (rc (rc cRI))))))))
noncomputable def RI_6 : Code := (rc (rc (rc (rc (rc cRI)))))
theorem RI_eq : cRI = (.seq RI_0 (.seq RI_1 (.seq RI_2 (.seq RI_3 (.seq (.seq RI_4 (.block 0 (.loop RI_5))) RI_6))))) := by kernel_rfl
def lvRI : List Nat := [4, 16, 17, 18]
def vRI (b off n cap i : Nat) : OV := [some (.slice (some ⟨0, 0, none⟩) n n), some (RS2 b off n cap), some (I (n : Nat)), some (I (i : Nat))]
theorem riA (r : Mem) (b off n cap : Nat) (fs : FnsC) (K : KO) (kx : Nat → KS) (KR : KO) : run (SC r) 458877 38 1 (.seq RI_0 (.seq RI_1 (.seq RI_2 (.seq RI_3 RI_4)))) fs none (rbK 0 lvRI [] K) kx (rbK 0 [2, 3] [] KR) (sc0 458877 [RS2 b off n cap]) (tr0 458877 [RS2 b off n cap]) [] emptyA =
    bif decide (Int.ofNat n > 12) then KR [some (.slice none 0 0), some (I (Int.ofNat 2))] [] [] else bif Int.ofNat n == Int.ofNat 0 then KR [some (.slice none 0 0), some (I (Int.ofNat 1))] [] [] else bif Nat.ble (Int.toNat (Int.ofNat n)) (Int.toNat (Int.ofNat n)) then bif Nat.ble (Int.toNat (Int.ofNat n)) 1000000 then bif m_nns (zerosL (Nat.mul (Int.toNat (Int.ofNat n)) 2) [I (Int.ofNat 0), I (Int.ofNat 0)]) && true then K [some (.slice (some ⟨0, 0, none⟩) (Int.toNat (Int.ofNat n)) (Int.toNat (Int.ofNat n))), some (.slice (some ⟨b, off, some 0⟩) n cap), some (I (Int.ofNat n)), some (I (Int.ofNat 0))] [] [some (.cells (zerosL (Nat.mul (Int.toNat (Int.ofNat n)) 2) [I (Int.ofNat 0), I (Int.ofNat 0)]) 75 0 2)] else F4 else F4 else F4 := by kernel_rfl
theorem riB (r : Mem) (b off n cap i : Nat) (c : List Value) (fs : FnsC) (K : KO) (KX : Nat → KO) (KR : KO) : run (SC r) 458877 38 1 RI_5 fs none (rbK 0 lvRI [] K) (fun j => rbK 0 [4] [] (KX j)) (rbK 0 [2, 3] [] KR) [] (bT lvRI (vRI b off n cap i) .nil) [] (mkA [some (.cells c 75 0 2)]) =
    bif decide (Int.ofNat i < Int.ofNat n) then bif Nat.blt (Int.toNat (Int.ofNat i)) n then Option.casesOn (r b (Nat.add off (Nat.mul (Int.toNat (Int.ofNat i)) 2))) (.fail 423) fun val => bif isI IntKind.i64 val then Option.casesOn (r b (Nat.succ (Nat.add off (Nat.mul (Int.toNat (Int.ofNat i)) 2)))) (.fail 423) fun val_1 => bif isI IntKind.i64 val_1 then bif decide (ofI val > ofI val_1) then KR [some (.slice none 0 0), some (I (Int.ofNat 1))] [] [] else bif Nat.blt (Int.toNat (Int.ofNat i)) n then Option.casesOn (setAt c (Nat.add 0 (Nat.mul (Int.toNat (Int.ofNat i)) 2)) [I (ofI val), I (ofI val_1)]) (.fail 450) fun val => bif m_nns val && true then K [some (.slice (some ⟨0, 0, none⟩) n n), some (.slice (some ⟨b, off, some 0⟩) n cap), some (I (Int.ofNat n)), some (I (IntKind.wrap .i64 (Int.ofNat i + Int.ofNat 1)))] [] [some (.cells val 75 0 2)] else F4 else F4 else F4 else F4 else F4 else bif m_nns c && true then KX 0 [some (.slice (some ⟨0, 0, none⟩) n n)] [] [some (.cells c 75 0 2)] else F4 := by kernel_rfl
theorem riC (r : Mem) (n : Nat) (c : List Value) (fs : FnsC) (K KR : KO) (kx : Nat → KS) : run (SC r) 458877 38 1 RI_6 fs none (rbK 0 [2, 3] [] K) kx (rbK 0 [2, 3] [] KR) [] (bT [4] [some (.slice (some ⟨0, 0, none⟩) n n)] .nil) [] (mkA [some (.cells c 75 0 2)]) =
    bif m_nns c && true then KR [some (.slice (some ⟨0, 0, none⟩) n n), some (I (Int.ofNat 0))] [] [some (.cells c 75 0 2)] else F4 := by kernel_rfl
end Go.Proofs
namespace Go.Proofs
open Go Go.Ev Go.Num
def okS (z : Nat → Int) (n : Nat) : Prop := ∀ i, i < n → ea z i ≤ eb z i
def erS (n : Nat) : Int := if n ≤ 12 then 1 else 2
def oSp (z : Nat → Int) (n i : Nat) : Option AObj := some (.cells (ixN z (2 * n)) 75 i 2)
def zTo (z : Nat → Int) (k j : Nat) : Int := if j < 2 * k then z j else 0
abbrev ow (i n : Nat) : Value := .slice (some ⟨i, 0, none⟩) n n
section
variable {r : Mem} {b off n cap : Nat} {z : Nat → Int}
theorem row_a (hz : rowAt r b off (2 * n) z) {i : Nat} (h : i < n) : r b (Nat.add off (Nat.mul i 2)) = some (I (ea z i)) := by
 have := hz (2 * i) (by omega)
 rw [Nat.add_eq, Nat.mul_eq, Nat.mul_comm]
 exact this
theorem row_b (hz : rowAt r b off (2 * n) z) {i : Nat} (h : i < n) : r b (Nat.succ (Nat.add off (Nat.mul i 2))) = some (I (eb z i)) := by
 have := hz (2 * i + 1) (by omega)
 rw [Nat.add_eq, Nat.mul_eq, Nat.mul_comm]
 exact this
theorem ri_S (hz : rowAt r b off (2 * n) z) : SOk (SC r) 19 [RS2 b off n cap] emptyA fun v A =>
  (1 ≤ n ∧ n ≤ 12 ∧ okS z n ∧ v = .tuple ⟨[ow 0 n, I 0]⟩ ∧ A = mkA [oSp z n 0]) ∨ (¬ (1 ≤ n ∧ n ≤ 12 ∧ okS z n) ∧ v = .tuple ⟨[.slice none 0 0, I (erS n)]⟩ ∧ A = mkA []) := by
 refine callL (SC_ok r) (by kernel_rfl) ((bodySC r _).trans RI_eq) (nt := 38) (by kernel_rfl) (rs := [.tmp 2, .tmp 3]) (by kernel_rfl) 458877 rfl (.step (.step (.step (.step .base)))) TOk.nil (tm := .nil) (L := 1) (d := 1) lvRI []
  (fun j vs ms os => 1 ≤ n ∧ n ≤ 12 ∧ ∃ k, k ≤ n ∧ j = n - k ∧ okS z k ∧ vs = vRI b off n cap k ∧ ms = [] ∧ os = [oSp (zTo z k) n 0])
  ⟨[4], [], fun vs ms os => 1 ≤ n ∧ n ≤ 12 ∧ okS z n ∧ vs = [some (ow 0 n)] ∧ ms = [] ∧ os = [oSp z n 0]⟩
  ⟨[2, 3], [], fun vs ms os => (1 ≤ n ∧ n ≤ 12 ∧ okS z n ∧ vs = [some (ow 0 n), some (I 0)] ∧ ms = [] ∧ os = [oSp z n 0]) ∨ (¬ (1 ≤ n ∧ n ≤ 12 ∧ okS z n) ∧ vs = [some (.slice none 0 0), some (I (erS n))] ∧ ms = [] ∧ os = [])⟩ ?_ ?_ ?_ ?_
 ·have hn := riA r b off n cap
  by_cases c : n ≤ 12
  ·by_cases c0 : n = 0
   ·subst c0
    exact (hn _ _ _ _).trans (qq_ok (.inr ⟨by omega, rfl, rfl, rfl⟩))
   ·have c1 : ¬ (n : Int) > 12 := by omega
    have c2 : (n : Int) ≠ ((0 : Nat) : Int) := by omega
    have c3 : Nat.ble n 1000000 = true := Nat.ble_eq_true_of_le (by omega)
    have c4 : Nat.ble n n = true := Nat.ble_eq_true_of_le (Nat.le_refl _)
    simp only [Int.ofNat_eq_natCast, Int.toNat_natCast] at hn
    simp only [dF c1, eqF c2, cond_false, c3, c4, cond_true] at hn
    have e0 := ix_zero2 n
    simp only [Int.ofNat_eq_natCast] at e0
    simp only [e0, ix_nn, Bool.and_true, cond_true] at hn
    exact (hn _ _ _ _).trans (qq_ok ⟨n, by omega, c, 0, by omega, rfl, fun i h => absurd h (by omega), rfl, rfl, rfl⟩)
  ·have c1 : Int.ofNat n > 12 := by simp; omega
   simp only [dT c1, cond_true] at hn
   exact (hn _ _ _ _).trans (qq_ok (.inr ⟨by omega, by unfold erS; rw [if_neg c]; rfl, rfl, rfl⟩))
 ·rintro j vs ms os ⟨h1, h12, k, hk, rfl, hok, rfl, rfl, rfl⟩
  refine ⟨_, TOk.nil, .nil, 1, 1, 1, ?_⟩
  have hn := riB r b off n cap k (ixN (zTo z k) (2 * n))
  by_cases c : k < n
  ·have c1 : (k : Int) < (n : Int) := by omega
   have c3 : Nat.blt k n = true := Nat.ble_eq_true_of_le (by omega)
   have e5 : setAt (ixN (zTo z k) (2 * n)) (Nat.add 0 (Nat.mul k 2)) [I (ea z k), I (eb z k)] = some (ixN (zTo z (k + 1)) (2 * n)) := by
    rw [Nat.add_eq, Nat.mul_eq, Nat.zero_add, ix_set2 (by omega)]
    refine congrArg some (ix_ext fun j hj => ?_)
    unfold zTo ea eb
    by_cases d : j < 2 * k
    ·rw [if_neg (by omega), if_neg (by omega), if_pos d, if_pos (by omega)]
    ·by_cases d1 : j = k * 2 + 1
     ·rw [if_pos d1, if_pos (by omega), d1, Nat.mul_comm]
     ·by_cases d2 : j = k * 2
      ·rw [if_neg d1, if_pos d2, if_pos (by omega), d2, Nat.mul_comm]
      ·rw [if_neg d1, if_neg d2, if_neg d, if_neg (by omega)]
   simp only [Int.ofNat_eq_natCast, Int.toNat_natCast] at hn
   simp only [dT c1, cond_true, c3, row_a hz c, row_b hz c, isI_I, Bool.and_true] at hn
   dsimp +instances only [ofI_I] at hn
   by_cases d : ea z k > eb z k
   ·simp only [dT d, cond_true] at hn
    exact (hn _ _ _ _).trans (qq_ok (.inr ⟨fun h => by have := h.2.2 k c; omega, by unfold erS; rw [if_pos h12]; rfl, rfl, rfl⟩))
   ·have e3 := inc1' (k := k) (by omega)
    simp only [Int.ofNat_eq_natCast] at e3
    simp only [dF d, cond_false, e3, e5, ix_nn, cond_true] at hn
    exact (hn _ _ _ _).trans (qq_ok ⟨n - (k + 1), by omega, h1, h12, k + 1, c, rfl, fun i hi => by
     by_cases e : i = k
     ·subst e; omega
     ·exact hok i (by omega), rfl, rfl, rfl⟩)
  ·have hkl : k = n := by omega
   subst hkl
   have c1 : ¬ Int.ofNat k < Int.ofNat k := by omega
   simp only [dF c1, cond_false, ix_nn, Bool.and_true, cond_true] at hn
   exact (hn _ _ _ _).trans (qq_ok ⟨h1, h12, hok, rfl, rfl, by
    unfold oSp
    rw [ix_ext (f := zTo z k) (g := z) fun j hj => if_pos hj]⟩)
 ·rintro vs ms os ⟨h1, h12, hok, rfl, rfl, rfl⟩
  have hn := riC r n (ixN z (2 * n))
  simp only [ix_nn, Bool.and_true, cond_true] at hn
  exact ⟨_, TOk.nil, .nil, 1, 1, 1, (hn _ _ _ _).trans (qq_ok (.inl ⟨h1, h12, hok, rfl, rfl, rfl⟩))⟩
 ·rintro vs ms os (⟨h1, h12, hok, rfl, rfl, rfl⟩ | ⟨hno, rfl, rfl, rfl⟩)
  ·exact ⟨_, mkA [oSp z n 0], by kernel_rfl, .inl ⟨h1, h12, hok, rfl, rfl⟩⟩
  ·exact ⟨_, mkA [], by kernel_rfl, .inr ⟨hno, rfl, rfl⟩⟩
end
end Go.Proofs
namespace Go.Proofs
open Go Go.Ev
def mskH : Tr Nat := (.node (.node (.node (.node (.node (.node (.node .nil (some 19) .nil) (some 117900287) (.node .nil (some 7199) .nil)) (some 61) (.node (.node .nil (some 783) .nil) (some 51) (.node .nil (some 0) .nil))) (some 125) (.node (.node (.node .nil (some 5) .nil) (some 1971) (.node .nil (some 271) .nil)) (some 2013) (.node (.node .nil (some 5) .nil) (some 11) (.node .nil (some 0) .nil)))) (some 4093) (.node (.node (.node (.node .nil (some 19) .nil) (some 7) (.node .nil (some 5) .nil)) (some 458877) (.node (.node .nil (some 775) .nil) (some 115) (.node .nil (some 0) .nil))) (some 115) (.node (.node (.node .nil (some 23) .nil) none (.node .nil (some 0) .nil)) (some 61) (.node (.node .nil (some 7943) .nil) (some 7351) .nil)))) none (.node (.node (.node (.node (.node .nil (some 5) .nil) (some 415) (.node .nil (some 3103) .nil)) (some 61) (.node (.node .nil (some 7943) .nil) (some 19) (.node .nil (some 0) .nil))) (some 49119) (.node (.node (.node .nil (some 5) .nil) (some 29) (.node .nil (some 3103) .nil)) (some 13) (.node (.node .nil (some 783) .nil) (some 39) (.node .nil (some 0) .nil)))) (some 13) (.node (.node (.node (.node .nil (some 5) .nil) (some 435) (.node .nil (some 4159) .nil)) (some 33557567) (.node (.node .nil (some 7199) .nil) (some 115) (.node .nil (some 0) .nil))) (some 455) (.node (.node (.node .nil (some 183) .nil) (some 19) (.node .nil (some 0) .nil)) none (.node (.node .nil (some 775) .nil) (some 479) .nil))))) none (.node (.node (.node (.node (.node (.node .nil (some 435) .nil) none (.node .nil (some 15391) .nil)) none (.node (.node .nil (some 7951) .nil) (some 7) (.node .nil (some 0) .nil))) (some 13) (.node (.node (.node .nil (some 2096159) .nil) none (.node .nil (some 4159) .nil)) none (.node (.node .nil (some 5) .nil) (some 19) (.node .nil (some 0) .nil)))) (some 1048307) (.node (.node (.node (.node .nil (some 43) .nil) (some 1567) (.node .nil (some 271) .nil)) none (.node (.node .nil (some 7951) .nil) (some 5) (.node .nil (some 0) .nil))) (some 125) (.node (.node (.node .nil (some 23) .nil) (some 12351) (.node .nil (some 0) .nil)) (some 253) (.node (.node .nil (some 36028797018996495) .nil) (some 25166847) .nil)))) none (.node (.node (.node (.node (.node .nil (some 5) .nil) (some 7) (.node .nil (some 5) .nil)) (some 253) (.node (.node .nil (some 36028797018996495) .nil) (some 493) (.node .nil (some 0) .nil))) (some 509) (.node (.node (.node .nil (some 7) .nil) (some 511) (.node .nil (some 3103) .nil)) (some 123) (.node (.node .nil (some 7951) .nil) (some 23) (.node .nil (some 0) .nil)))) (some 61) (.node (.node (.node (.node .nil (some 5) .nil) (some 23) (.node .nil (some 3103) .nil)) (some 28895) (.node (.node .nil (some 15391) .nil) (some 5) (.node .nil (some 0) .nil))) (some 65533) (.node (.node (.node .nil (some 2096159) .nil) (some 5) (.node .nil (some 0) .nil)) (some 23) (.node (.node .nil (some 7951) .nil) (some 79) .nil))))))
noncomputable abbrev CC (r : Mem) : Cfg := Cfg.ofRo Tryd.prog r
theorem CC_ok (r : Mem) : (CC r).Ok := Cfg.ofRo_ok evMixed evNames r
noncomputable def tSF : Tbl := tcons 47 eSF fun _ => none
theorem tSF_ok (r : Mem) : TOk (CC r) tSF := (show TOk (SC r) tSF from TOk.nil.cons (eSF_ok r))
end Go.Proofs
namespace Go.Proofs
open Go Go.Ev
theorem awake10 : GrT Tryd.prog tabM 9 [] (.bool true) := GrT.of (CC_ok tabM) (tSF_ok tabM) mskH rfl ⟨1000, 40, by kernel_rfl⟩
end Go.Proofs
namespace Go.Proofs
open Go Go.Ev Go.Num
abbrev gw (i n : Nat) : Value := .slice (some ⟨i, 0, none⟩) n unk
noncomputable def eVal (a0 : List Value) (v : Value) : Ent := ent (fun args _ => m_sv args a0) fun _ _ => v
noncomputable def eRi (sl : Value) (n : Nat) (c : List Value) : Ent := ⟨fun args _ => m_sv args [sl], fun _ _ => true, fun _ A => .tuple ⟨[.slice (some ⟨A.next, 0, none⟩) n n, I 0]⟩, fun _ A => A.new (.cells c 75 A.next 2), fun _ _ => undef, fun _ A => A⟩
theorem spR (r : Mem) (b off n cap : Nat) (K : Value → AW → CR) : (lvlT (SC r) (fun _ => none) .nil 1 2).call 5 [RS2 b off n cap] emptyA K =
    bif decide (0 ≤ bif decide (13 < Int.ofNat n) then Int.ofNat 13 else Int.ofNat n) then bif Nat.beq cap 9223372036854775809 then .fail 435 else bif Nat.ble (Int.toNat (bif decide (13 < Int.ofNat n) then Int.ofNat 13 else Int.ofNat n)) cap then bif Nat.beq (Int.toNat (bif decide (13 < Int.ofNat n) then Int.ofNat 13 else Int.ofNat n)) 0 then K (.slice none 0 0) (AW.mk 0 .nil .nil) else bif Nat.ble (Nat.add 0 (Nat.sub (Int.toNat (bif decide (13 < Int.ofNat n) then Int.ofNat 13 else Int.ofNat n)) 0)) 1000000 then Option.casesOn (match Nat.beq (Nat.sub cap 0) unkE with | true => none | false => takeF (Mem.get (Cfg.ro (SC r)) b) (Nat.add off (Nat.mul 0 (TypeInfo.size Tryd.t61))) (Nat.mul (Nat.sub (Int.toNat (bif decide (13 < Int.ofNat n) then 13 else Int.ofNat n)) 0) (TypeInfo.size Tryd.t61))) (.fail 443) fun val => bif Nat.beq (List.length val) (Nat.mul (Nat.sub (Int.toNat (bif decide (13 < Int.ofNat n) then Int.ofNat 13 else Int.ofNat n)) 0) 2) then bif Nat.beq (Nat.sub (Int.toNat (bif decide (13 < Int.ofNat n) then Int.ofNat 13 else Int.ofNat n)) 0) 0 then K (.slice none 0 0) (AW.mk 0 .nil .nil) else K (.slice (some ⟨0, 0, none⟩) (Nat.sub (Int.toNat (bif decide (13 < Int.ofNat n) then Int.ofNat 13 else Int.ofNat n)) 0) unk) (AW.mk 1 (.node .nil (some (.cells val 61 0 2)) .nil) .nil) else F4 else F4 else F4 else F4 := by kernel_rfl
section
variable {r : Mem} {b off n cap m : Nat} {z : Nat → Int}
theorem row_a0 (hz : rowAt r b off (2 * n) z) {i : Nat} (h : i < n) : r b (Nat.add (Nat.add off (Nat.mul i 2)) 0) = some (I (ea z i)) := row_a hz h
theorem row_b1 (hz : rowAt r b off (2 * n) z) {i : Nat} (h : i < n) : r b (Nat.add (Nat.add off (Nat.mul i 2)) 1) = some (I (eb z i)) := row_b hz h
theorem eRi_ok (hz : rowAt r b off (2 * n) z) (h1 : 1 ≤ n) (hn : n ≤ 12) (hok : okS z n) : EOk (SC r) 19 (eRi (RS2 b off n cap) n (ixN z (2 * n))) := fun args A hgd F hF k γ W args' hw hR ha => by
 refine ⟨fun hcc => ?_, fun h => nomatch h⟩
 have hs := @of_decide_eq_true _ (Classical.propDecidable _) hgd
 subst hs
 have hg : GrM Tryd.prog r 19 [RS2 b off n cap] (.tuple ⟨[ow 0 n, I 0]⟩) (rowA (ixN z (2 * n)) 75 2) := GrM.ofS (C := SC r) rfl rfl (SOk.mono (ri_S hz) fun v A' h => by
  rcases h with ⟨_, _, _, h1, h2⟩ | ⟨h, _⟩
  ·exact ⟨h1, h2⟩
  ·exact absurd ⟨h1, hn, hok⟩ h)
 have hof : ofV 0 (.tuple ⟨[ow 0 n, I 0]⟩) = true := by simp [ofV, of1, gnd]
 exact hg.ends (γ := γ) (A := A) hof (ix_gnd _ _) hF hw (hR.noG noG fun _ => rfl) (ha.of_ros rfl) ha
theorem takeF_ix {f : Nat → Option Value} {z : Nat → Int} : ∀ (n j k : Nat), (∀ i, i < n → f (k + i) = some (I (z (j + i)))) → takeF f k n = some ((List.range' j n).map fun i => I (z i))
 | 0, j, k, _ => rfl
 | n + 1, j, k, h => by
  have h0 := h 0 (by omega)
  have ih := takeF_ix (f := f) (z := z) n (j + 1) (k + 1) fun i hi => by
   have := h (i + 1) (by omega)
   rw [show k + 1 + i = k + (i + 1) by omega, this, show j + 1 + i = j + (i + 1) by omega]
  rw [takeF, show f k = some (I (z j)) from h0, ih]
  rfl
theorem min_13 (n : Nat) : (bif decide ((13 : Int) < Int.ofNat n) then Int.ofNat 13 else Int.ofNat n) = ((min n 13 : Nat) : Int) := by
 by_cases c : (13 : Int) < Int.ofNat n
 ·rw [dT c, cond_true, Nat.min_eq_right (by simp at c; omega)]; rfl
 ·rw [dF c, cond_false, Nat.min_eq_left (by simp at c; omega)]; rfl
theorem sp_row (hl : n ≤ cap) (hc : cap ≤ maxLen) (hm : m = min n 13) (h1 : 1 ≤ m) (hz : rowAt r b off (2 * m) z) : GrM Tryd.prog r 5 [RS2 b off n cap] (gw 0 m) (rowA (ixN z (2 * m)) 61 2) :=
 GrM.of (SC_ok r) TOk.nil .nil ⟨1, 2, by
  have hc : cap ≤ 9223372036854775807 := hc
  rw [spR]
  have e' : (bif decide ((13 : Int) < Int.ofNat n) then (13 : Int) else Int.ofNat n) = ((m : Nat) : Int) := by rw [hm]; exact min_13 n
  rw [min_13, ← hm]
  simp only [e', dT (show (0 : Int) ≤ ((m : Nat) : Int) by omega), natFx (show cap ≠ 9223372036854775809 by omega), Int.toNat_natCast, Nat.ble_eq_true_of_le (show m ≤ cap by omega), natFx (show m ≠ 0 by omega), Nat.ble_eq_true_of_le (show Nat.add 0 (Nat.sub m 0) ≤ 1000000 by simp; omega), cond_true, cond_false]
  have hr : takeF (r b) off (2 * m) = some (ixN z (2 * m)) := by
   rw [takeF_ix (z := z) (2 * m) 0 off fun i hi => by rw [Nat.zero_add]; exact hz i hi]
   unfold ixN
   rw [List.range_eq_range']
  have hr' : (match Nat.beq (Nat.sub cap 0) unkE with | true => none | false => takeF (r b) (Nat.add off (Nat.mul 0 2)) (Nat.mul (Nat.sub m 0) 2)) = some (ixN z (2 * m)) := by
   rw [natFx (show Nat.sub cap 0 ≠ unkE by unfold unkE; simp; omega)]
   show takeF (r b) off (Nat.mul m 2) = _
   rw [Nat.mul_eq, Nat.mul_comm]
   exact hr
  have oc : ∀ {o : Option (List Value)} {c : List Value} (h : o = some c) (a : CR) (F : List Value → CR), (Option.casesOn o a F : CR) = F c := fun h a F => by rw [h]
  refine (oc hr' _ _).trans ?_
  have l1 : Nat.beq (ixN z (2 * m)).length (Nat.mul (Nat.sub m 0) 2) = true := by
   rw [ix_len, show Nat.mul (Nat.sub m 0) 2 = 2 * m by show m * 2 = _; omega]
   exact Nat.beq_refl _
  simp only [l1, natFx (show Nat.sub m 0 ≠ 0 by show m ≠ 0; omega), cond_true, cond_false]
  unfold finM rowOf rowsOf row1
  have hb : Nat.beq (Nat.sub m 0) 0 = false := natFx (by show m ≠ 0; omega)
  simp only [hb, Bool.and_false]
  have hg : gnds (ixN z (2 * m)) = true := ix_gnd _ _
  show guardK (gnds (ixN z (2 * m))) _ = _
  rw [hg]
  rfl⟩
theorem sp_0 (hc : cap ≤ maxLen) : GrT Tryd.prog r 5 [RS2 b off 0 cap] (.slice none 0 0) := GrT.of (SC_ok r) TOk.nil .nil rfl ⟨1, 2, by
 have hc : cap ≤ 9223372036854775807 := hc
 rw [spR, min_13]
 simp only [Nat.zero_min, dT (show (0 : Int) ≤ ((0 : Nat) : Int) by omega), natFx (show cap ≠ 9223372036854775809 by omega), Int.toNat_natCast, Nat.ble_eq_true_of_le (Nat.zero_le cap), show Nat.beq 0 0 = true from rfl, cond_true, cond_false]
 rfl⟩
end
end Go.Proofs
namespace Go.Proofs
open Go Go.Ev Go.Num
noncomputable def cYo : Code := bodyOf S0 20
noncomputable def Yo_0 : Code := (lc cYo)
noncomputable def Yo_1 : Code := (lc (rc cYo))
noncomputable def Yo_2 : Code := (lc (lc (rc (rc cYo))))
noncomputable def Yo_3 : Code := (lc (ic (ic (rc (lc (rc (rc cYo)))))))
noncomputable def Yo_4 : Code := (lc (rc (ic (ic (rc (lc (rc (rc cYo))))))))
noncomputable def Yo_5 : Code := (lc (ic (lc (rc (rc (ic (ic (rc (lc (rc (rc cYo)))))))))))
noncomputable def Yo_6 : Code := (lc (rc (ic (lc (rc (rc (ic (ic (rc (lc (rc (rc cYo))))))))))))
noncomputable def Yo_7 : Code := (ic (ic (rc (rc (ic (lc (rc (rc (ic (ic (rc (lc (rc (rc cYo))))))))))))))
noncomputable def Yo_8 : Code := (rc (rc (rc (ic (ic (rc (lc (rc (rc cYo)))))))))
noncomputable def Yo_9 : Code := (rc (rc (rc cYo)))
theorem Yo_eq : cYo = (.seq Yo_0 (.seq Yo_1 (.seq (.seq Yo_2 (.block 0 (.loop (.seq Yo_3 (.seq Yo_4 (.seq (.block 1 (.seq Yo_5 (.seq Yo_6 (.block 2 (.loop Yo_7))))) Yo_8)))))) Yo_9))) := by kernel_rfl
def oSn (x y : Int) (i : Nat) : Option AObj := some (.cells [I x, I y] 75 i 0)
def lvYo : List Nat := [2, 3, 0, 11, 12, 13]
def vYo (b off n cap i : Nat) : OV := [some (pq 0), some (pq 1), some (RS2 b off n cap), some (RS2 b off n cap), some (I (n : Nat)), some (I (i : Nat))]
def lvYoi : List Nat := [2, 3, 5, 0, 11, 12, 13, 4, 18, 19, 20]
def vYoi (b off n cap i k : Nat) : OV := [some (pq 0), some (pq 1), some (pq 2), some (RS2 b off n cap), some (RS2 b off n cap), some (I (n : Nat)), some (I (i : Nat)), some (I (i : Nat)), some (RS2 b off n cap), some (I (n : Nat)), some (I (k : Nat))]
def oYo (c : List Value) : OO := [oOr z25 0, oOr c 1]
def oYoi (c : List Value) (x y : Int) : OO := oYo c ++ [oSn x y 2]
theorem yoA (r : Mem) (b off n cap : Nat) (fs : FnsC) (K : KO) (kx : Nat → KS) (kr : KS) : run (SC r) 1849597 36 1 (.seq Yo_0 (.seq Yo_1 Yo_2)) fs none (rbK 0 lvYo [] K) kx kr (sc0 1849597 [RS2 b off n cap]) (tr0 1849597 [RS2 b off n cap]) [] emptyA =
    K [some (.pointer (some ⟨0, 0, none⟩)), some (.pointer (some ⟨1, 0, none⟩)), some (.slice (some ⟨b, off, some 0⟩) n cap), some (.slice (some ⟨b, off, some 0⟩) n cap), some (I (Int.ofNat n)), some (I (Int.ofNat 0))] [] [some (.cells z25 56 0 0), some (.cells [I (Int.ofNat n), .int .u16 (Int.ofNat 0), .int .u16 (Int.ofNat 0), .int .u16 (Int.ofNat 0), .int .u16 (Int.ofNat 0), .int .u16 (Int.ofNat 0), .int .u16 (Int.ofNat 0), .int .u16 (Int.ofNat 0), .int .u16 (Int.ofNat 0), .int .u16 (Int.ofNat 0), .int .u16 (Int.ofNat 0), .int .u16 (Int.ofNat 0), .int .u16 (Int.ofNat 0), .int .u16 (Int.ofNat 0), .int .u16 (Int.ofNat 0), .int .u16 (Int.ofNat 0), .int .u16 (Int.ofNat 0), .int .u16 (Int.ofNat 0), .int .u16 (Int.ofNat 0), .int .u16 (Int.ofNat 0), .int .u16 (Int.ofNat 0), .int .u16 (Int.ofNat 0), .int .u16 (Int.ofNat 0), .int .u16 (Int.ofNat 0), .int .u16 (Int.ofNat 0)] 56 1 0)] := by kernel_rfl
theorem yoB (r : Mem) (b off n cap i : Nat) (c : List Value) (fs : FnsC) (K : KO) (KX : Nat → KO) (kr : KS) : run (SC r) 1849597 36 1 (.seq Yo_3 Yo_4) fs none (rbK 0 lvYo [] K) (fun j => rbK 0 [2, 3] [] (KX j)) kr [] (bT lvYo (vYo b off n cap i) .nil) [] (mkA (oYo c)) =
    bif decide (Int.ofNat i < Int.ofNat n) then bif true && (m_nns c && true) then K [some (.pointer (some ⟨0, 0, none⟩)), some (.pointer (some ⟨1, 0, none⟩)), some (.slice (some ⟨b, off, some 0⟩) n cap), some (.slice (some ⟨b, off, some 0⟩) n cap), some (I (Int.ofNat n)), some (I (Int.ofNat i))] [] [some (.cells z25 56 0 0), some (.cells c 56 1 0)] else F4 else bif true && (m_nns c && true) then KX 0 [some (.pointer (some ⟨0, 0, none⟩)), some (.pointer (some ⟨1, 0, none⟩))] [] [some (.cells z25 56 0 0), some (.cells c 56 1 0)] else F4 := by kernel_rfl
theorem yoC (r : Mem) (b off n cap i : Nat) (c : List Value) (fs : FnsC) (K : KO) (kx : Nat → KS) (kr : KS) : run (SC r) 1849597 36 1 (.seq Yo_5 Yo_6) fs none (rbK 0 lvYoi [] K) kx kr [] (bT lvYo (vYo b off n cap i) .nil) [] (mkA (oYo c)) =
    bif Nat.blt (Int.toNat (Int.ofNat i)) n then Option.casesOn (r b (Nat.add off (Nat.mul (Int.toNat (Int.ofNat i)) 2))) (.fail 423) fun val => bif isI IntKind.i64 val then Option.casesOn (r b (Nat.succ (Nat.add off (Nat.mul (Int.toNat (Int.ofNat i)) 2)))) (.fail 423) fun val_1 => bif isI IntKind.i64 val_1 then bif true && (m_nns c && (m_nns [I (ofI val), I (ofI val_1)] && true)) then K [some (.pointer (some ⟨0, 0, none⟩)), some (.pointer (some ⟨1, 0, none⟩)), some (.pointer (some ⟨2, 0, none⟩)), some (.slice (some ⟨b, off, some 0⟩) n cap), some (.slice (some ⟨b, off, some 0⟩) n cap), some (I (Int.ofNat n)), some (I (Int.ofNat i)), some (I (Int.ofNat i)), some (.slice (some ⟨b, off, some 0⟩) n cap), some (I (Int.ofNat n)), some (I (Int.ofNat 0))] [] [some (.cells z25 56 0 0), some (.cells c 56 1 0), some (.cells [I (ofI val), I (ofI val_1)] 75 2 0)] else F4 else F4 else F4 else F4 := by kernel_rfl
theorem yoD (r : Mem) (b off n cap i k : Nat) (x y : Int) (c : List Value) (K : KO) (KX : Nat → KO) (kr : KS) : run (SC r) 1849597 36 1 Yo_7 (lvlT (SC r) (fun _ => none) .nil 1 3) none (rbK 0 lvYoi [] K) (fun j => rbK 0 lvYo [] (KX j)) kr [] (bT lvYoi (vYoi b off n cap i k) .nil) [] (mkA (oYoi c x y)) =
    bif decide (Int.ofNat k < Int.ofNat n) then bif Nat.blt (Int.toNat (Int.ofNat k)) n then Option.casesOn (r b (Nat.add off (Nat.mul (Int.toNat (Int.ofNat k)) 2))) (.fail 423) fun val => bif isI IntKind.i64 val then Option.casesOn (r b (Nat.succ (Nat.add off (Nat.mul (Int.toNat (Int.ofNat k)) 2)))) (.fail 423) fun val_1 => bif isI IntKind.i64 val_1 then bif decide (y < ofI val) then bif Nat.blt (Int.toNat (Int.ofNat k)) 12 then Option.casesOn c[Nat.add 1 (Nat.mul (Int.toNat (Int.ofNat k)) 1)]? (.fail 423) fun val => bif isI IntKind.u16 val then bif Nat.blt (Int.toNat (Int.ofNat k)) 12 then bif Nat.blt (Nat.add 1 (Nat.mul (Int.toNat (Int.ofNat k)) 1)) (List.length c) then Option.casesOn c[Nat.add 1 (Nat.mul (Int.toNat (Int.ofNat k)) 1)]? (.fail 423) fun val_2 => bif isI IntKind.u16 val_2 then bif m_eqv (.int .u16 (ofI val_2)) (.int .u16 (ofI val)) then Option.casesOn c[Nat.add 1 (Nat.mul (Int.toNat (Int.ofNat k)) 1)]? (.fail 423) fun val_3 => bif isI IntKind.u16 val_3 then bif m_eqv (.int .u16 (ofI val_3)) (.int .u16 (ofI val)) then bif Nat.blt (Int.toNat (Int.ofNat i)) 12 then Option.casesOn (List.set c (Nat.add 1 (Nat.mul (Int.toNat (Int.ofNat k)) 1)) (.int .u16 (ibits BinOp.or IntKind.u16 (ofI val) (IntKind.wrap .u16 (Int.ofNat 1 * Int.ofNat 2 ^ min (Int.toNat (Int.ofNat i)) 16)))))[Nat.add 13 (Nat.mul (Int.toNat (Int.ofNat i)) 1)]? (.fail 423) fun val_4 => bif isI IntKind.u16 val_4 then bif Nat.blt (Int.toNat (Int.ofNat i)) 12 then bif Nat.blt (Nat.add 13 (Nat.mul (Int.toNat (Int.ofNat i)) 1)) (List.length (List.set c (Nat.add 1 (Nat.mul (Int.toNat (Int.ofNat k)) 1)) (.int .u16 (ibits BinOp.or IntKind.u16 (ofI val) (IntKind.wrap .u16 (Int.ofNat 1 * Int.ofNat 2 ^ min (Int.toNat (Int.ofNat i)) 16)))))) then Option.casesOn (List.set c (Nat.add 1 (Nat.mul (Int.toNat (Int.ofNat k)) 1)) (.int .u16 (ibits BinOp.or IntKind.u16 (ofI val) (IntKind.wrap .u16 (Int.ofNat 1 * Int.ofNat 2 ^ min (Int.toNat (Int.ofNat i)) 16)))))[Nat.add 13 (Nat.mul (Int.toNat (Int.ofNat i)) 1)]? (.fail 423) fun val_5 => bif isI IntKind.u16 val_5 then bif m_eqv (.int .u16 (ofI val_5)) (.int .u16 (ofI val_4)) then Option.casesOn (List.set c (Nat.add 1 (Nat.mul (Int.toNat (Int.ofNat k)) 1)) (.int .u16 (ibits BinOp.or IntKind.u16 (ofI val) (IntKind.wrap .u16 (Int.ofNat 1 * Int.ofNat 2 ^ min (Int.toNat (Int.ofNat i)) 16)))))[Nat.add 13 (Nat.mul (Int.toNat (Int.ofNat i)) 1)]? (.fail 423) fun val_6 => bif isI IntKind.u16 val_6 then bif m_eqv (.int .u16 (ofI val_6)) (.int .u16 (ofI val_4)) then bif true && (m_nns (List.set (List.set c (Nat.add 1 (Nat.mul (Int.toNat (Int.ofNat k)) 1)) (.int .u16 (ibits BinOp.or IntKind.u16 (ofI val) (IntKind.wrap .u16 (Int.ofNat 1 * Int.ofNat 2 ^ min (Int.toNat (Int.ofNat i)) 16))))) (Nat.add 13 (Nat.mul (Int.toNat (Int.ofNat i)) 1)) (.int .u16 (ibits BinOp.or IntKind.u16 (ofI val_4) (IntKind.wrap .u16 (Int.ofNat 1 * Int.ofNat 2 ^ min (Int.toNat (Int.ofNat k)) 16))))) && (m_nns [I x, I y] && true)) then K [some (.pointer (some ⟨0, 0, none⟩)), some (.pointer (some ⟨1, 0, none⟩)), some (.pointer (some ⟨2, 0, none⟩)), some (.slice (some ⟨b, off, some 0⟩) n cap), some (.slice (some ⟨b, off, some 0⟩) n cap), some (I (Int.ofNat n)), some (I (Int.ofNat i)), some (I (Int.ofNat i)), some (.slice (some ⟨b, off, some 0⟩) n cap), some (I (Int.ofNat n)), some (I (IntKind.wrap .i64 (Int.ofNat k + Int.ofNat 1)))] [] [some (.cells z25 56 0 0), some (.cells (List.set (List.set c (Nat.add 1 (Nat.mul (Int.toNat (Int.ofNat k)) 1)) (.int .u16 (ibits BinOp.or IntKind.u16 (ofI val) (IntKind.wrap .u16 (Int.ofNat 1 * Int.ofNat 2 ^ min (Int.toNat (Int.ofNat i)) 16))))) (Nat.add 13 (Nat.mul (Int.toNat (Int.ofNat i)) 1)) (.int .u16 (ibits BinOp.or IntKind.u16 (ofI val_4) (IntKind.wrap .u16 (Int.ofNat 1 * Int.ofNat 2 ^ min (Int.toNat (Int.ofNat k)) 16))))) 56 1 0), some (.cells [I x, I y] 75 2 0)] else F4 else F4 else F4 else F4 else F4 else F4 else F4 else F4 else F4 else F4 else F4 else F4 else F4 else F4 else F4 else F4 else F4 else bif true && (m_nns c && (m_nns [I x, I y] && true)) then K [some (.pointer (some ⟨0, 0, none⟩)), some (.pointer (some ⟨1, 0, none⟩)), some (.pointer (some ⟨2, 0, none⟩)), some (.slice (some ⟨b, off, some 0⟩) n cap), some (.slice (some ⟨b, off, some 0⟩) n cap), some (I (Int.ofNat n)), some (I (Int.ofNat i)), some (I (Int.ofNat i)), some (.slice (some ⟨b, off, some 0⟩) n cap), some (I (Int.ofNat n)), some (I (IntKind.wrap .i64 (Int.ofNat k + Int.ofNat 1)))] [] [some (.cells z25 56 0 0), some (.cells c 56 1 0), some (.cells [I x, I y] 75 2 0)] else F4 else F4 else F4 else F4 else bif true && (m_nns c && true) then KX 2 [some (.pointer (some ⟨0, 0, none⟩)), some (.pointer (some ⟨1, 0, none⟩)), some (.slice (some ⟨b, off, some 0⟩) n cap), some (.slice (some ⟨b, off, some 0⟩) n cap), some (I (Int.ofNat n)), some (I (Int.ofNat i))] [] [some (.cells z25 56 0 0), some (.cells c 56 1 0)] else F4 := by kernel_rfl
theorem yoE (r : Mem) (b off n cap i : Nat) (c : List Value) (fs : FnsC) (K : KO) (kx : Nat → KS) (kr : KS) : run (SC r) 1849597 36 1 Yo_8 fs none (rbK 0 lvYo [] K) kx kr [] (bT lvYo (vYo b off n cap i) .nil) [] (mkA (oYo c)) =
    bif true && (m_nns c && true) then K [some (.pointer (some ⟨0, 0, none⟩)), some (.pointer (some ⟨1, 0, none⟩)), some (.slice (some ⟨b, off, some 0⟩) n cap), some (.slice (some ⟨b, off, some 0⟩) n cap), some (I (Int.ofNat n)), some (I (IntKind.wrap .i64 (Int.ofNat i + Int.ofNat 1)))] [] [some (.cells z25 56 0 0), some (.cells c 56 1 0)] else F4 := by kernel_rfl
theorem yoF (r : Mem) (n : Nat) (w a : Nat → Nat) (fs : FnsC) (K KR : KO) (kx : Nat → KS) : run (SC r) 1849597 36 1 Yo_9 fs none (rbK 0 [2] [] K) kx (rbK 0 [2] [] KR) [] (bT [2, 3] [some (pq 0), some (pq 1)] .nil) [] (mkA (oYo (orC n w a))) =
    KR [some (.pointer (some ⟨0, 0, none⟩))] [] [some (.cells (orC n w a) 56 0 0)] := by kernel_rfl
end Go.Proofs
namespace Go.Proofs
open Go Go.Ev Go.Num
def tS (z : Nat → Int) (n : Nat) : List (List Bool) := (List.range n).map fun i => (List.range n).map fun k => decide (eb z i < ea z k)
theorem tS_len (z : Nat → Int) (n : Nat) : (tS z n).length = n := by simp [tS]
theorem tS_get {z : Nat → Int} {n i : Nat} (h : i < n) : (tS z n)[i]? = some ((List.range n).map fun k => decide (eb z i < ea z k)) := by
 unfold tS
 rw [List.getElem?_map, List.getElem?_range h]
 rfl
theorem tS_row {z : Nat → Int} {n i : Nat} (h : i < n) : (tS z n).getD i [] = (List.range n).map fun k => decide (eb z i < ea z k) := by
 rw [List.getD_eq_getElem?_getD, tS_get h]
 rfl
theorem tS_rl {z : Nat → Int} {n i : Nat} (h : i < n) : ((tS z n).getD i []).length = n := by rw [tS_row h]; simp
theorem tS_at {z : Nat → Int} {n i k : Nat} (h : i < n) (hk : k < n) : gT (tS z n) i k = decide (eb z i < ea z k) := by
 unfold gT
 rw [tS_row h, List.getD_eq_getElem?_getD, List.getElem?_map, List.getElem?_range hk]
 rfl
section
variable {r : Mem} {b off n cap : Nat} {z : Nat → Int}
theorem yo_ok (hz : rowAt r b off (2 * n) z) (hn : n ≤ 12) : GrT Tryd.prog r 20 [RS2 b off n cap] (.agg ⟨orC n (wB (tS z n) n 0) (wA (tS z n) n 0)⟩) := by
 have hTl := tS_len z n
 let st : Nat → Nat → List Value := fun i k => orC n (wB (tS z n) i k) (wA (tS z n) i k)
 have snn : ∀ i k, m_nns (st i k) = true := fun i k => orC_nn _ _ _
 refine GrT.ofS (C := SC r) rfl rfl rfl (callO (SC_ok r) (by kernel_rfl) ((bodySC r _).trans Yo_eq) (nt := 36) (by kernel_rfl) (rs := [.cell 2 56]) (by kernel_rfl) 1849597 rfl ⟨[2], [], fun vs ms os => vs = [some (pq 0)] ∧ ms = [] ∧ os = [oOr (st n 0) 0]⟩ ?_ fun γ W F kk hwr hF hro h0' => ?_)
 ·rintro vs ms os ⟨rfl, rfl, rfl⟩
  exact ⟨_, mkA [oOr (st n 0) 0], by kernel_rfl, rfl⟩
 have h0' : ∀ i, 0 ≤ i → γ i = none := h0'
 have w1 : ∀ k : Nat, k ≤ 1000 → IntKind.wrap IntKind.i64 ((k : Int) + ((1 : Nat) : Int)) = ((k + 1 : Nat) : Int) := fun k hk => inc1' (by omega)
 refine Go.Ev.Reach.after3R (SC_ok r) TOk.nil (tm := .nil) (L := 1) (L' := 1) (d := 1) hF hro h0' (.step (.step .base))
  (o1 := ⟨lvYo, [], fun vs ms os => vs = vYo b off n cap 0 ∧ ms = [] ∧ os = oYo (st 0 0)⟩)
  (o2 := ⟨[2, 3], [], fun vs ms os => vs = [some (pq 0), some (pq 1)] ∧ ms = [] ∧ os = oYo (st n 0)⟩) [] (fun p hp => nomatch hp) ?_ ?_ ?_
 ·rintro vs ms os ⟨rfl, rfl, rfl⟩
  refine Go.Ev.Reach.blockC (Go.Ev.Reach.loopC (j := n) (lv := lvYo) (fl := []) (I := fun j vs ms os => ∃ i : Nat, i ≤ n ∧ j = n - i ∧ vs = vYo b off n cap i ∧ ms = [] ∧ os = oYo (st i 0)) (fun j vs ms os hI => ?_) ⟨0, by omega, rfl, rfl, rfl, rfl⟩)
  obtain ⟨i, hi, rfl, rfl, rfl, rfl⟩ := hI
  have hB := yoB r b off n cap i (st i 0)
  simp only [Int.ofNat_eq_natCast, snn, Bool.and_true, Bool.true_and, cond_true] at hB
  by_cases c : i < n
  ·simp only [dT (show (i : Int) < (n : Int) by omega), cond_true] at hB
   refine Go.Ev.Reach.afterR (SC_ok r) TOk.nil (tm := .nil) (L := 1) (L' := 1) (d := 1) hF hro h0' (.step .base) (o1 := ⟨lvYo, [], fun vs ms os => vs = vYo b off n cap i ∧ ms = [] ∧ os = oYo (st i 0)⟩) [(0, ⟨[2, 3], [], fun vs ms os => vs = [some (pq 0), some (pq 1)] ∧ ms = [] ∧ os = oYo (st n 0)⟩)] (fun p hp => by simp only [List.mem_cons, List.not_mem_nil, or_false] at hp; subst hp; rfl) (fun vs ms os hq => ?_) ((hB _ _ _ _).trans (qq_ok ⟨rfl, rfl, rfl⟩))
   obtain ⟨rfl, rfl, rfl⟩ := hq
   refine Go.Ev.Reach.seqC (o1 := ⟨lvYo, [], fun vs ms os => vs = vYo b off n cap i ∧ ms = [] ∧ os = oYo (st (i + 1) 0)⟩) (Go.Ev.Reach.blockC ?_) fun vs ms os hq => ?_
   ·have b1 : Nat.blt i n = true := Nat.ble_eq_true_of_le (by omega)
    have hC := yoC r b off n cap i (st i 0)
    simp only [tnO, b1, row_a hz c, row_b hz c, isI_I, cond_true] at hC
    dsimp +instances only [ofI_I] at hC
    simp only [snn, show m_nns [I (ea z i), I (eb z i)] = true from rfl, Bool.and_true, Bool.true_and, cond_true] at hC
    refine Go.Ev.Reach.afterR (SC_ok r) TOk.nil (tm := .nil) (L := 1) (L' := 1) (d := 1) hF hro h0' (.step .base) (o1 := ⟨lvYoi, [], fun vs ms os => vs = vYoi b off n cap i 0 ∧ ms = [] ∧ os = oYoi (st i 0) (ea z i) (eb z i)⟩) [] (fun p hp => nomatch hp) (fun vs ms os hq => ?_) ((hC _ _ _ _).trans (qq_ok ⟨rfl, rfl, rfl⟩))
    obtain ⟨rfl, rfl, rfl⟩ := hq
    refine Go.Ev.Reach.blockC (Go.Ev.Reach.loopC (j := n) (lv := lvYoi) (fl := []) (I := fun j vs ms os => ∃ k : Nat, k ≤ n ∧ j = n - k ∧ vs = vYoi b off n cap i k ∧ ms = [] ∧ os = oYoi (st i k) (ea z i) (eb z i)) (fun j vs ms os hI => ?_) ⟨0, by omega, rfl, rfl, rfl, rfl⟩)
    obtain ⟨k, hk, rfl, rfl, rfl, rfl⟩ := hI
    refine Go.Ev.Reach.segR (SC_ok r) TOk.nil (tm := .nil) (L := 1) (L' := 1) (d := 3) hF hro h0' [(2, ⟨lvYo, [], fun vs ms os => vs = vYo b off n cap i ∧ ms = [] ∧ os = oYo (st (i + 1) 0)⟩)] (fun p hp => by simp only [List.mem_cons, List.not_mem_nil, or_false] at hp; subst hp; rfl) ?_
    have hn' := yoD r b off n cap i k (ea z i) (eb z i) (st i k)
    simp only [tnO] at hn'
    by_cases ck : k < n
    ·have b3 : Nat.blt k n = true := Nat.ble_eq_true_of_le (by omega)
     have b4 : Nat.blt i 12 = true := Nat.ble_eq_true_of_le (by omega)
     have b4' : Nat.blt k 12 = true := Nat.ble_eq_true_of_le (by omega)
     have hlw := wB_lt (T := tS z n) (i := i) (by omega) k k
     have hla := wA_lt (T := tS z n) (by omega) (k := k) (by omega) i i
     have h2i : 2 ^ i < 4096 := Nat.pow_lt_pow_right (n := 12) (by decide) (by omega)
     have h2k : 2 ^ k < 4096 := Nat.pow_lt_pow_right (n := 12) (by decide) (by omega)
     have ho1 : ibits .or .u16 ((wB (tS z n) i k k : Nat) : Int) ((2 ^ i : Nat) : Int) = ((wB (tS z n) i k k ||| 2 ^ i : Nat) : Int) := (uV (by omega) (by omega)).1
     have ho2 : ibits .or .u16 ((wA (tS z n) i k i : Nat) : Int) ((2 ^ k : Nat) : Int) = ((wA (tS z n) i k i ||| 2 ^ k : Nat) : Int) := (uV (by omega) (by omega)).1
     have g1 : (st i k)[1 + k]? = some (V ((wB (tS z n) i k k : Nat) : Int)) := orC_w (by omega)
     have b5 : Nat.blt (1 + k) (st i k).length = true := by rw [show (st i k).length = 25 from rfl]; exact Nat.ble_eq_true_of_le (by omega)
     have hset1 : (st i k).set (1 + k) (V ((wB (tS z n) i k k ||| 2 ^ i : Nat) : Int)) = orC n (fun j => if j = k then wB (tS z n) i k k ||| 2 ^ i else wB (tS z n) i k j) (wA (tS z n) i k) := orC_setw (by omega)
     have hs1 := shlV (b := i) (by omega)
     have hs2 := shlV (b := k) (by omega)
     have e0 : ∀ o k : Nat, Nat.add o (Nat.mul k 1) = o + k := fun o k => by simp
     simp only [dT (show (Int.ofNat k) < (Int.ofNat n) by simp; omega), b3, b4, b4', row_a hz ck, row_b hz ck, e0, isI_I, cond_true] at hn'
     dsimp +instances only [ofI_I] at hn'
     rw [show IntKind.wrap IntKind.i64 (Int.ofNat k + Int.ofNat 1) = ((k + 1 : Nat) : Int) from w1 k (by omega)] at hn'
     cases hg : gT (tS z n) i k with
     | true =>
      have hput : ((st i k).set (1 + k) (V ((wB (tS z n) i k k ||| 2 ^ i : Nat) : Int))).set (13 + i) (V ((wA (tS z n) i k i ||| 2 ^ k : Nat) : Int)) = st i (k + 1) := put_ok (by omega) (by omega) hg
      have g2 : ((st i k).set (1 + k) (V ((wB (tS z n) i k k ||| 2 ^ i : Nat) : Int)))[13 + i]? = some (V ((wA (tS z n) i k i : Nat) : Int)) := by rw [hset1]; exact orC_a (by omega)
      have b6 : Nat.blt (13 + i) ((st i k).set (1 + k) (V ((wB (tS z n) i k k ||| 2 ^ i : Nat) : Int))).length = true := by rw [List.length_set, show (st i k).length = 25 from rfl]; exact Nat.ble_eq_true_of_le (by omega)
      have hlt : decide (eb z i < ea z k) = true := by rw [← tS_at c ck]; exact hg
      simp only [hlt, cond_true, g1, isV_V, b5] at hn'
      dsimp +instances only [ofI_V] at hn'
      simp only [eqv_v, cond_true, hs1, ho1, g2, isV_V, b6] at hn'
      dsimp +instances only [ofI_V] at hn'
      simp only [eqv_v, cond_true, hs2, ho2, hput, snn, show m_nns [I (ea z i), I (eb z i)] = true from rfl, Bool.and_true, Bool.true_and] at hn'
      exact (hn' _ _ _).trans (qq_ok ⟨n - (k + 1), by omega, k + 1, ck, rfl, rfl, rfl, rfl⟩)
     | false =>
      have hlt : decide (eb z i < ea z k) = false := by rw [← tS_at c ck]; exact hg
      simp only [hlt, cond_false, snn, show m_nns [I (ea z i), I (eb z i)] = true from rfl, Bool.and_true, Bool.true_and, cond_true] at hn'
      have hsk : st i k = st i (k + 1) := skip_ok hg
      rw [hsk] at hn'
      rw [hsk]
      exact (hn' _ _ _).trans (qq_ok ⟨n - (k + 1), by omega, k + 1, ck, rfl, rfl, rfl, rfl⟩)
    ·obtain rfl : k = n := by omega
     simp only [Int.ofNat_eq_natCast, dF (show ¬ (k : Int) < (k : Int) by omega), cond_false, snn, Bool.and_true, Bool.true_and, cond_true] at hn'
     have hne := next_ok (T := tS z k) (n := k) (i := i) (by rw [tS_rl c, hTl])
     rw [hTl] at hne
     exact (hn' _ _ _).trans (qq_ok ⟨rfl, rfl, by rw [show st (i + 1) 0 = st i k from hne.symm]; rfl⟩)
   ·obtain ⟨rfl, rfl, rfl⟩ := hq
    refine Go.Ev.Reach.segR (SC_ok r) TOk.nil (tm := .nil) (L := 1) (L' := 1) (d := 1) hF hro h0' [] (fun p hp => nomatch hp) ?_
    have hn' := yoE r b off n cap i (st (i + 1) 0)
    simp only [Int.ofNat_eq_natCast, snn, Bool.and_true, Bool.true_and, cond_true, w1 i (by omega)] at hn'
    exact (hn' _ _ _ _).trans (qq_ok ⟨n - (i + 1), by omega, i + 1, c, rfl, rfl, rfl, rfl⟩)
  ·obtain rfl : i = n := by omega
   simp only [dF (show ¬ (i : Int) < (i : Int) by omega), cond_false] at hB
   exact Go.Ev.Reach.afterR (SC_ok r) TOk.nil (tm := .nil) (L := 1) (L' := 1) (d := 1) hF hro h0' (.step .base) (o1 := ⟨lvYo, [], fun _ _ _ => False⟩) [(0, ⟨[2, 3], [], fun vs ms os => vs = [some (pq 0), some (pq 1)] ∧ ms = [] ∧ os = oYo (st i 0)⟩)] (fun p hp => by simp only [List.mem_cons, List.not_mem_nil, or_false] at hp; subst hp; rfl) (fun vs ms os hq => hq.elim) ((hB _ _ _ _).trans (qq_ok ⟨rfl, rfl, rfl⟩))
 ·rintro vs ms os ⟨rfl, rfl, rfl⟩
  exact Go.Ev.Reach.segR (SC_ok r) TOk.nil (tm := .nil) (L := 1) (L' := 1) (d := 1) hF hro h0' [] (fun p hp => nomatch hp) ((yoF r n (wB (tS z n) n 0) (wA (tS z n) n 0) _ _ _ _).trans (qq_ok ⟨rfl, rfl, rfl⟩))
 ·exact (yoA r b off n cap _ _ _ _).trans (qq_ok ⟨rfl, rfl, rfl⟩)
end
end Go.Proofs
namespace Go.Proofs
open Go Go.Ev Go.Num
theorem szK_sub {a b : Nat} (h : ∀ i, a.testBit i = true → b.testBit i = true) : ∀ k, szK a k ≤ szK b k ∧ (szK a k = szK b k → ∀ i, i < k → a.testBit i = b.testBit i)
 | 0 => ⟨Nat.le_refl _, fun _ i hi => by omega⟩
 | k + 1 => by
  obtain ⟨h1, h2⟩ := szK_sub h k
  have ea := Nat.testBit_eq_decide_div_mod_eq (x := a) (i := k)
  have eb := Nat.testBit_eq_decide_div_mod_eq (x := b) (i := k)
  have hk := h k
  rw [szK, szK]
  have ma : a / 2 ^ k % 2 < 2 := Nat.mod_lt _ (by decide)
  have mb : b / 2 ^ k % 2 < 2 := Nat.mod_lt _ (by decide)
  generalize a / 2 ^ k % 2 = u at ea ma ⊢
  generalize b / 2 ^ k % 2 = v at eb mb ⊢
  have huv : u ≤ v := by
   by_cases c : u = 1
   ·rw [dT c] at ea
    have := hk ea
    rw [eb, decide_eq_true_eq] at this
    omega
   ·omega
  refine ⟨by omega, fun he i hi => ?_⟩
  by_cases c : i = k
  ·subst c
   rw [ea, eb, show u = v by omega]
  ·exact h2 (by omega) i (by omega)
theorem szN_sub {a b : Nat} (ha : a < 4096) (hb : b < 4096) (h : ∀ i, a.testBit i = true → b.testBit i = true) : szN a ≤ szN b ∧ (szN a = szN b → a = b) := by
 obtain ⟨h1, h2⟩ := szK_sub h 12
 refine ⟨h1, fun he => Nat.eq_of_testBit_eq fun i => ?_⟩
 by_cases c : i < 12
 ·exact h2 he i c
 ·have e : ∀ x : Nat, x < 4096 → x.testBit i = false := fun x hx => Nat.testBit_lt_two_pow (Nat.lt_of_lt_of_le hx (show 2 ^ 12 ≤ 2 ^ i from Nat.pow_le_pow_right (by decide) (by omega)))
  rw [e a ha, e b hb]
section
variable {w : Nat → Nat} {n : Nat}
theorem nest (hO : twO w n = none) {x y : Nat} (hx : x < n) (hy : y < n) : (∀ i, (w x).testBit i = true → (w y).testBit i = true) ∨ (∀ i, (w y).testBit i = true → (w x).testBit i = true) := by
 have key : ∀ b d, b < n → d < b → anN (w b) (w d) = 0 ∨ anN (w d) (w b) = 0 := fun b d hb hd => by
  have := twO_no hO b d hb hd
  unfold twI at this
  rw [beq_ne, beq_ne] at this
  by_cases c : anN (w b) (w d) = 0
  ·exact .inl c
  ·rw [dT c, Bool.true_and, decide_eq_false_iff_not] at this
   exact .inr (Classical.byContradiction this)
 rcases Nat.lt_trichotomy x y with c | c | c
 ·rcases key y x hy c with h | h
  ·exact .inr fun i hi => anN_ne h i hi
  ·exact .inl fun i hi => anN_ne h i hi
 ·subst c; exact .inl fun i hi => hi
 ·rcases key x y hx c with h | h
  ·exact .inl fun i hi => anN_ne h i hi
  ·exact .inr fun i hi => anN_ne h i hi
theorem rs_sub (hw : ∀ j, w j < 4096) (hO : twO w n = none) {j k : Nat} (hj : j < k) (hk : k < (rsN w n).length) : ∀ i, ((rsN w n)[j]'(by omega)).testBit i = true → ((rsN w n)[k]).testBit i = true := by
 have hlt := List.pairwise_iff_getElem.1 (rsN_sorted w n) j k (by omega) hk hj
 obtain ⟨x, hx, ex⟩ := rsN_mem.1 (List.getElem_mem (l := rsN w n) (n := j) (by omega))
 obtain ⟨y, hy, ey⟩ := rsN_mem.1 (List.getElem_mem hk)
 rw [← ex, ← ey] at hlt ⊢
 rcases nest hO hx hy with h | h
 ·exact h
 ·exfalso
  obtain ⟨h1, h2⟩ := szN_sub (hw y) (hw x) h
  unfold ltS at hlt
  rw [decide_eq_true_eq] at hlt
  have := h2 (by omega)
  omega
theorem rtK_spec {L : List Nat} {x i0 : Nat} : ∀ {k : Nat}, (∃ j, j < k ∧ (L.getD j 0).testBit x = false) → rtK L x i0 k < k ∧ (L.getD (rtK L x i0 k) 0).testBit x = false ∧ ∀ j, rtK L x i0 k < j → j < k → (L.getD j 0).testBit x = true
 | 0, ⟨_, h, _⟩ => absurd h (by omega)
 | k + 1, ⟨j, hj, hb⟩ => by
  rw [rtK]
  cases q : (L.getD k 0).testBit x with
  | false => exact ⟨by simp, by simpa using q, fun i h1 h2 => by simp only [cond_false] at h1; omega⟩
  | true =>
   have hjk : j < k := by
    by_cases c : j = k
    ·subst c; rw [hb] at q; cases q
    ·omega
   obtain ⟨h1, h2, h3⟩ := rtK_spec (i0 := i0) ⟨j, hjk, hb⟩
   simp only [cond_true]
   exact ⟨by omega, h2, fun i hi hi2 => by
    by_cases c : i = k
    ·subst c; exact q
    ·exact h3 i hi (by omega)⟩
theorem lf_get {x : Nat} (hx : x < n) : (rsN w n).idxOf (w x) < (rsN w n).length ∧ (rsN w n).getD ((rsN w n).idxOf (w x)) 0 = w x := by
 have hmem : w x ∈ rsN w n := rsN_mem.2 ⟨x, hx, rfl⟩
 have hi := List.idxOf_lt_length_of_mem hmem
 refine ⟨hi, ?_⟩
 rw [List.getD_eq_getElem?_getD, List.getElem?_eq_getElem hi, List.getElem_idxOf hi]
 rfl
theorem rt_spec {x : Nat} (hx : x < n) (hb : (w x).testBit x = false) : rtZ w n x < (rsN w n).length ∧ ((rsN w n).getD (rtZ w n x) 0).testBit x = false ∧ ∀ j, rtZ w n x < j → j < (rsN w n).length → ((rsN w n).getD j 0).testBit x = true := by
 obtain ⟨h1, h2⟩ := lf_get (w := w) hx
 exact rtK_spec ⟨_, h1, by rw [h2]; exact hb⟩
theorem rep_can (hw : ∀ j, w j < 4096) (hO : twO w n = none) {x y : Nat} (hx : x < n) (hy : y < n) (hb : (w x).testBit x = false) : (w y).testBit x = decide (rtZ w n x < (rsN w n).idxOf (w y)) := by
 obtain ⟨h1, h2⟩ := lf_get (w := w) hy
 obtain ⟨r1, r2, r3⟩ := rt_spec hx hb
 have gd : ∀ j, (h : j < (rsN w n).length) → (rsN w n).getD j 0 = (rsN w n)[j] := fun j h => by simp [h]
 generalize hlf : (rsN w n).idxOf (w y) = lf at h1 h2
 generalize rtZ w n x = rt at r1 r2 r3
 cases q : (w y).testBit x with
 | true =>
  refine (dT ?_).symm
  refine Classical.byContradiction fun c => ?_
  by_cases e : lf = rt
  ·subst e
   rw [h2, q] at r2
   cases r2
  ·have := rs_sub hw hO (show lf < rt by omega) r1 x (by rw [← gd lf h1, h2]; exact q)
   rw [← gd rt r1, r2] at this
   cases this
 | false =>
  refine (dF ?_).symm
  intro c
  have := r3 lf c h1
  rw [h2, q] at this
  cases this
end
section
variable {T : List (List Bool)}
theorem ea_ci (w : Nat → Nat) (n x : Nat) : ea (ciZ w n) x = ((rsN w n).idxOf (w x) : Nat) := by
 unfold ea ciZ lfZ
 rw [if_pos (by omega), show 2 * x / 2 = x by omega]
theorem eb_ci (w : Nat → Nat) (n x : Nat) : eb (ciZ w n) x = (rtZ w n x : Nat) := by
 unfold eb ciZ
 rw [if_neg (by omega), show (2 * x + 1) / 2 = x by omega]
theorem cl_irr (hc : ckO T = true) {x : Nat} (hx : x < T.length) : (clW T x).testBit x = false := by
 rw [clW_b hx]
 exact (ck_row hc hx).2
theorem ci_ok (hc : ckO T = true) : okS (ciZ (clW T) T.length) T.length := fun x hx => by
 rw [ea_ci, eb_ci]
 obtain ⟨h1, h2⟩ := lf_get (w := clW T) hx
 obtain ⟨r1, r2, r3⟩ := rt_spec hx (cl_irr hc hx)
 have : (rsN (clW T) T.length).idxOf (clW T x) ≤ rtZ (clW T) T.length x := by
  refine Classical.byContradiction fun c => ?_
  have := r3 _ (by omega) h1
  rw [h2, cl_irr hc hx] at this
  cases this
 omega
theorem ci_tS (hc : ckO T = true) (hO : twO (clW T) T.length = none) : tS (ciZ (clW T) T.length) T.length = T := by
 have hl := ck_len hc
 refine List.ext_getElem (tS_len _ _) fun i h1 h2 => ?_
 have e1 : (tS (ciZ (clW T) T.length) T.length)[i] = (tS (ciZ (clW T) T.length) T.length).getD i [] := by simp [h1]
 have e2 : T[i] = T.getD i [] := by simp [h2]
 rw [e1, e2]
 refine List.ext_getElem (by rw [tS_rl h2, (ck_row hc h2).1]) fun k k1 k2 => ?_
 have hk : k < T.length := by rw [(ck_row hc h2).1] at k2; exact k2
 have g1 : ((tS (ciZ (clW T) T.length) T.length).getD i [])[k] = gT (tS (ciZ (clW T) T.length) T.length) i k := by unfold gT; rw [List.getD_eq_getElem?_getD (i := k), List.getElem?_eq_getElem k1]; rfl
 have g2 : (T.getD i [])[k] = gT T i k := by unfold gT; rw [List.getD_eq_getElem?_getD (i := k), List.getElem?_eq_getElem k2]; rfl
 rw [g1, g2, tS_at h2 hk, ea_ci, eb_ci, ← clW_b h2, rep_can (clW_lt hl.2) hO h2 hk (cl_irr hc h2)]
 by_cases c : rtZ (clW T) T.length i < (rsN (clW T) T.length).idxOf (clW T k)
 ·rw [dT c, dT (by omega)]
 ·rw [dF c, dF (by omega)]
theorem ci_ends (hc : ckO T = true) : (enD (ciZ (clW T) T.length) (2 * T.length)).length = (rsN (clW T) T.length).length := by
 refine enD_range (fun k hk => ?_) fun i hi => ?_
 ·have hx : k / 2 < T.length := by omega
  unfold ciZ lfZ
  split
  ·have := (lf_get (w := clW T) hx).1
   omega
  ·have := (rt_spec hx (cl_irr hc hx)).1
   omega
 ·obtain ⟨x, hx, ex⟩ := rsN_mem.1 (List.getElem_mem hi)
  refine ⟨2 * x, by omega, ?_⟩
  have h1 := ea_ci (clW T) T.length x
  unfold ea at h1
  rw [h1]
  obtain ⟨h2, h3⟩ := lf_get (w := clW T) hx
  have : (rsN (clW T) T.length).idxOf (clW T x) = i := (List.getElem_inj (rsN_nodup (clW T) T.length) (h₀ := h2) (h₁ := hi)).1 (by rw [← ex]; exact List.getElem_idxOf h2)
  rw [this]
end
/-! ### the order of any intervals -/
section
variable {z : Nat → Int} {n : Nat}
theorem tS_ck (h1 : 1 ≤ n) (hn : n ≤ 12) (hok : okS z n) : ckO (tS z n) = true := by
 unfold ckO
 have hl := tS_len z n
 rw [hl, decide_eq_true ⟨h1, hn⟩, Bool.true_and, Bool.and_eq_true]
 constructor
 ·have hlen : ∀ m, m ≤ n → lenO (tS z n) m = true := fun m => by
   induction m with
   | zero => exact fun _ => rfl
   | succ m ih =>
    intro hm
    rw [lenO, ih (by omega), tS_rl (show m < n by omega), hl]
    simp
  exact lenI_all.2 ⟨hlen n (Nat.le_refl _), fun i hi => by
   rw [tS_at hi hi]
   have := hok i hi
   exact dF (by omega)⟩
 ·refine trI_all.2 fun i hi => trJ_all.2 fun k hk => trK_all.2 fun m hm => ?_
  rw [hl] at hk hm
  unfold badO
  rw [tS_at hi hk, tS_at hk hm, tS_at hi hm]
  have := hok k hk
  by_cases q1 : eb z i < ea z k
  ·by_cases q2 : eb z k < ea z m
   ·rw [dT q1, dT q2, dT (show eb z i < ea z m by omega)]; rfl
   ·rw [dT q1, dF q2]; rfl
  ·rw [dF q1]; rfl
theorem tS_no : twO (clW (tS z n)) n = none := by
 cases h : twO (clW (tS z n)) n with
 | none => rfl
 | some p =>
  exfalso
  obtain ⟨b, d⟩ := p
  obtain ⟨h1, h2, h3⟩ := twO_yes h
  unfold twI at h3
  rw [beq_ne, beq_ne, Bool.and_eq_true, decide_eq_true_eq, decide_eq_true_eq] at h3
  have bit : ∀ x y : Nat, anN x y ≠ 0 → ∃ i, x.testBit i = true ∧ y.testBit i = false := fun x y hne => by
   refine Classical.byContradiction fun c => hne (an_zero.2 (in_bit.2 fun i hi => ?_))
   cases q : y.testBit i with
   | true => rfl
   | false => exact absurd ⟨i, hi, q⟩ c
  obtain ⟨a, a1, a2⟩ := bit _ _ h3.1
  obtain ⟨c, c1, c2⟩ := bit _ _ h3.2
  rw [clW_bit, Bool.and_eq_true, decide_eq_true_eq, tS_len] at a1 c1
  rw [clW_bit, tS_len, dT a1.1, Bool.true_and] at a2
  rw [clW_bit, tS_len, dT c1.1, Bool.true_and] at c2
  have a3 := a1.2
  have c3 := c1.2
  rw [tS_at a1.1 (by omega)] at a3 a2
  rw [tS_at c1.1 (by omega)] at c3 c2
  rw [decide_eq_true_eq] at a3 c3
  rw [decide_eq_false_iff_not] at a2 c2
  omega
def hW (z : Nat → Int) (v : Int) : Nat → Nat
 | 0 => 0
 | k + 1 => if eb z k < v then hW z v k ||| 2 ^ k else hW z v k
theorem hW_bit (z : Nat → Int) (v : Int) : ∀ k j, (hW z v k).testBit j = (decide (j < k) && decide (eb z j < v))
 | 0, j => by simp [hW]
 | k + 1, j => by
  have ih := hW_bit z v k j
  rw [hW]
  by_cases c : eb z k < v
  ·rw [if_pos c, Nat.testBit_or, ih, Nat.testBit_two_pow]
   by_cases e : k = j
   ·subst e; simp [c]
   ·by_cases h : j < k
    ·simp [h, e, show j < k + 1 by omega]
    ·simp [h, e, show ¬ j < k + 1 by omega]
  ·rw [if_neg c, ih]
   by_cases e : k = j
   ·subst e; simp at c; simp [show ¬ eb z k < v by omega]
   ·by_cases h : j < k
    ·simp [h, show j < k + 1 by omega]
    ·simp [h, show ¬ j < k + 1 by omega]
theorem ends_few : (rsN (clW (tS z n)) n).length ≤ (enD z (2 * n)).length := by
 have h : (rsN (clW (tS z n)) n).length ≤ ((enD z (2 * n)).map fun v => hW z v n).length := nod_len (rsN_nodup _ _) fun s hs => by
  obtain ⟨y, hy, rfl⟩ := rsN_mem.1 hs
  refine List.mem_map.2 ⟨ea z y, enD_mem.2 ⟨2 * y, by omega, rfl⟩, Nat.eq_of_testBit_eq fun i => ?_⟩
  rw [hW_bit, clW_bit, tS_len]
  by_cases c : i < n
  ·rw [dT c, Bool.true_and, Bool.true_and, tS_at c hy]
  ·rw [dF c]; rfl
 rwa [List.length_map] at h
end
end Go.Proofs
namespace Go.Proofs
open Go Go.Ev Go.Num
noncomputable def cYi : Code := bodyOf S0 8
noncomputable def Yi_0 : Code := (lc cYi)
noncomputable def Yi_1 : Code := (lc (rc cYi))
noncomputable def Yi_2 : Code := (lc (rc (rc cYi)))
noncomputable def Yi_3 : Code := (lc (lc (rc (rc (rc cYi)))))
noncomputable def Yi_4 : Code := (ic (ic (rc (lc (rc (rc (rc cYi)))))))
noncomputable def Yi_5 : Code := (rc (rc (rc (rc cYi))))
theorem Yi_eq : cYi = (.seq Yi_0 (.seq Yi_1 (.seq Yi_2 (.seq (.seq Yi_3 (.block 0 (.loop Yi_4))) Yi_5)))) := by kernel_rfl
noncomputable def cYs : Code := bodyOf S0 11
noncomputable def Ys_0 : Code := (lc cYs)
noncomputable def Ys_1 : Code := (lc (rc cYs))
noncomputable def Ys_2 : Code := (lc (lc (rc (rc cYs))))
noncomputable def Ys_3 : Code := (lc (ic (ic (rc (lc (rc (rc cYs)))))))
noncomputable def Ys_4 : Code := (lc (ic (lc (rc (ic (ic (rc (lc (rc (rc cYs))))))))))
noncomputable def Ys_5 : Code := (lc (rc (ic (lc (rc (ic (ic (rc (lc (rc (rc cYs)))))))))))
noncomputable def Ys_6 : Code := (ic (ic (rc (rc (ic (lc (rc (ic (ic (rc (lc (rc (rc cYs)))))))))))))
noncomputable def Ys_7 : Code := (rc (rc (ic (ic (rc (lc (rc (rc cYs))))))))
noncomputable def Ys_8 : Code := (rc (rc (rc cYs)))
theorem Ys_eq : cYs = (.seq Ys_0 (.seq Ys_1 (.seq (.seq Ys_2 (.block 0 (.loop (.seq Ys_3 (.seq (.block 1 (.seq Ys_4 (.seq Ys_5 (.block 2 (.loop Ys_6))))) Ys_7))))) Ys_8))) := by kernel_rfl
def lvYt : List Nat := [0, 1, 5]
def lvYu : List Nat := [0, 1, 5, 6]
def vYt (b off n cap b2 o2 c2 i : Nat) : OV := [some (RS b off n cap), some (RS b2 o2 n c2), some (I (i : Nat))]
def vYu (b off n cap b2 o2 c2 i k : Nat) : OV := [some (RS b off n cap), some (RS b2 o2 n c2), some (I (i : Nat)), some (I (k : Nat))]
theorem yiA (r : Mem) (b off n cap : Nat) (fs : FnsC) (K : KO) (kx : Nat → KS) (KR : KO) : run (SC r) 13 27 1 (.seq Yi_0 (.seq Yi_1 (.seq Yi_2 Yi_3))) fs none (rbK 0 [0, 3] [] K) kx (rbK 0 [2] [] KR) (sc0 13 [RS2 b off n cap]) (tr0 13 [RS2 b off n cap]) [] emptyA =
    bif decide (Int.ofNat n > 12) then KR [some (I (Int.ofNat 2))] [] [] else bif Int.ofNat n == Int.ofNat 0 then KR [some (I (Int.ofNat 1))] [] [] else K [some (.slice (some ⟨b, off, some 0⟩) n cap), some (I (Int.ofNat 0))] [] [] := by kernel_rfl
theorem yiB (r : Mem) (b off n cap : Nat) (i : Nat) (fs : FnsC) (K : KO) (KX : Nat → KO) (KR : KO) : run (SC r) 13 27 1 Yi_4 fs none (rbK 0 [0, 3] [] K) (fun j => rbK 0 [] [] (KX j)) (rbK 0 [2] [] KR) [] (bT [0, 3] [some (RS2 b off n cap), some (I (i : Nat))] .nil) [] (mkA []) =
    bif decide (Int.ofNat i < Int.ofNat n) then bif Nat.blt (Int.toNat (Int.ofNat i)) n then Option.casesOn (r b (Nat.add (Nat.add off (Nat.mul (Int.toNat (Int.ofNat i)) 2)) 0)) (.fail 423) fun val => bif isI IntKind.i64 val then bif Nat.blt (Int.toNat (Int.ofNat i)) n then Option.casesOn (r b (Nat.add (Nat.add off (Nat.mul (Int.toNat (Int.ofNat i)) 2)) 1)) (.fail 423) fun val_1 => bif isI IntKind.i64 val_1 then bif decide (ofI val > ofI val_1) then KR [some (I (Int.ofNat 1))] [] [] else K [some (.slice (some ⟨b, off, some 0⟩) n cap), some (I (IntKind.wrap .i64 (Int.ofNat i + Int.ofNat 1)))] [] [] else F4 else F4 else F4 else F4 else KX 0 [] [] [] := by kernel_rfl
theorem yiC (r : Mem) (fs : FnsC) (K : KO) (KR : KO) (kx : Nat → KS) : run (SC r) 13 27 1 Yi_5 fs none (rbK 0 [2] [] K) kx (rbK 0 [2] [] KR) [] (bT [] [] .nil) [] (mkA []) =
    KR [some (I (Int.ofNat 0))] [] [] := by kernel_rfl
theorem ysA (r : Mem) (b off n cap b2 o2 c2 : Nat) (fs : FnsC) (K : KO) (kx : Nat → KS) (KR : KO) : run (SC r) 115 53 1 (.seq Ys_0 (.seq Ys_1 Ys_2)) fs none (rbK 0 lvYt [] K) kx (rbK 0 [4] [] KR) (sc0 115 [RS b off n cap, RS b2 o2 n c2]) (tr0 115 [RS b off n cap, RS b2 o2 n c2]) [] emptyA =
    bif Int.ofNat n != Int.ofNat n then KR [some (.bool false)] [] [] else K [some (.slice (some ⟨b, off, some 0⟩) n cap), some (.slice (some ⟨b2, o2, some 0⟩) n c2), some (I (Int.ofNat 0))] [] [] := by kernel_rfl
theorem ysB (r : Mem) (b off n cap b2 o2 c2 : Nat) (i : Nat) (fs : FnsC) (K : KO) (KX : Nat → KO) (kr : KS) : run (SC r) 115 53 1 Ys_3 fs none (rbK 0 lvYt [] K) (fun j => rbK 0 [] [] (KX j)) kr [] (bT lvYt (vYt b off n cap b2 o2 c2 i) .nil) [] (mkA []) =
    bif decide (Int.ofNat i < Int.ofNat n) then K [some (.slice (some ⟨b, off, some 0⟩) n cap), some (.slice (some ⟨b2, o2, some 0⟩) n c2), some (I (Int.ofNat i))] [] [] else KX 0 [] [] [] := by kernel_rfl
theorem ysC (r : Mem) (b off n cap b2 o2 c2 : Nat) (i : Nat) (fs : FnsC) (K : KO) (kx : Nat → KS) (KR : KO) : run (SS r 2) 115 53 1 (.seq Ys_4 Ys_5) fs none (rbK 0 lvYu [] K) kx (rbK 0 [4] [] KR) [] (bT lvYt (vYt b off n cap b2 o2 c2 i) .nil) [] (mkA []) =
    bif Nat.blt (Int.toNat (Int.ofNat i)) n then Option.casesOn (r b (Nat.add off (Nat.mul (Int.toNat (Int.ofNat i)) 1))) (.fail 423) fun val => bif isRoS val then bif Nat.blt (Int.toNat (Int.ofNat i)) n then Option.casesOn (r b2 (Nat.add o2 (Nat.mul (Int.toNat (Int.ofNat i)) 1))) (.fail 423) fun val_1 => bif isRoS val_1 then bif Int.ofNat (lnOf val) != Int.ofNat (lnOf val_1) then KR [some (.bool false)] [] [] else K [some (.slice (some ⟨b, off, some 0⟩) n cap), some (.slice (some ⟨b2, o2, some 0⟩) n c2), some (I (Int.ofNat i)), some (I (Int.ofNat 0))] [] [] else F4 else F4 else F4 else F4 := by kernel_rfl
theorem ysD (r : Mem) (b off n cap b2 o2 c2 : Nat) (i : Nat) (k : Nat) (fs : FnsC) (K : KO) (KX : Nat → KO) (KR : KO) : run (SS r 2) 115 53 1 Ys_6 fs none (rbK 0 lvYu [] K) (fun j => rbK 0 lvYt [] (KX j)) (rbK 0 [4] [] KR) [] (bT lvYu (vYu b off n cap b2 o2 c2 i k) .nil) [] (mkA []) =
    bif Nat.blt (Int.toNat (Int.ofNat i)) n then Option.casesOn (r b (Nat.add off (Nat.mul (Int.toNat (Int.ofNat i)) 1))) (.fail 423) fun val => bif isRoS val then bif decide (Int.ofNat k < Int.ofNat (lnOf val)) then bif Nat.blt (Int.toNat (Int.ofNat i)) n then Option.casesOn (r b (Nat.add off (Nat.mul (Int.toNat (Int.ofNat i)) 1))) (.fail 423) fun val => bif isRoS val then bif Nat.blt (Int.toNat (Int.ofNat k)) (lnOf val) then Option.casesOn (r (blkOf val) (Nat.add (offOf val) (Nat.mul (Int.toNat (Int.ofNat k)) 1))) (.fail 423) fun val => bif isB val then bif ofB val then bif Nat.blt (Int.toNat (Int.ofNat i)) n then Option.casesOn (r b2 (Nat.add o2 (Nat.mul (Int.toNat (Int.ofNat i)) 1))) (.fail 423) fun val => bif isRoS val then bif Nat.blt (Int.toNat (Int.ofNat k)) (lnOf val) then Option.casesOn (r (blkOf val) (Nat.add (offOf val) (Nat.mul (Int.toNat (Int.ofNat k)) 1))) (.fail 423) fun val => bif isB val then bif ofB val then K [some (.slice (some ⟨b, off, some 0⟩) n cap), some (.slice (some ⟨b2, o2, some 0⟩) n c2), some (I (Int.ofNat i)), some (I (IntKind.wrap .i64 (Int.ofNat k + Int.ofNat 1)))] [] [] else KR [some (.bool false)] [] [] else F4 else F4 else F4 else F4 else bif Nat.blt (Int.toNat (Int.ofNat i)) n then Option.casesOn (r b2 (Nat.add o2 (Nat.mul (Int.toNat (Int.ofNat i)) 1))) (.fail 423) fun val => bif isRoS val then bif Nat.blt (Int.toNat (Int.ofNat k)) (lnOf val) then Option.casesOn (r (blkOf val) (Nat.add (offOf val) (Nat.mul (Int.toNat (Int.ofNat k)) 1))) (.fail 423) fun val => bif isB val then bif ofB val then KR [some (.bool false)] [] [] else K [some (.slice (some ⟨b, off, some 0⟩) n cap), some (.slice (some ⟨b2, o2, some 0⟩) n c2), some (I (Int.ofNat i)), some (I (IntKind.wrap .i64 (Int.ofNat k + Int.ofNat 1)))] [] [] else F4 else F4 else F4 else F4 else F4 else F4 else F4 else F4 else KX 2 [some (.slice (some ⟨b, off, some 0⟩) n cap), some (.slice (some ⟨b2, o2, some 0⟩) n c2), some (I (Int.ofNat i))] [] [] else F4 else F4 := by kernel_rfl
theorem ysE (r : Mem) (b off n cap b2 o2 c2 : Nat) (i : Nat) (fs : FnsC) (K : KO) (kx : Nat → KS) (kr : KS) : run (SC r) 115 53 1 Ys_7 fs none (rbK 0 lvYt [] K) kx kr [] (bT lvYt (vYt b off n cap b2 o2 c2 i) .nil) [] (mkA []) =
    K [some (.slice (some ⟨b, off, some 0⟩) n cap), some (.slice (some ⟨b2, o2, some 0⟩) n c2), some (I (IntKind.wrap .i64 (Int.ofNat i + Int.ofNat 1)))] [] [] := by kernel_rfl
theorem ysF (r : Mem) (fs : FnsC) (K : KO) (KR : KO) (kx : Nat → KS) : run (SC r) 115 53 1 Ys_8 fs none (rbK 0 [4] [] K) kx (rbK 0 [4] [] KR) [] (bT [] [] .nil) [] (mkA []) =
    KR [some (.bool true)] [] [] := by kernel_rfl
end Go.Proofs
namespace Go.Proofs
open Go Go.Ev Go.Num
theorem w1k (k : Nat) (hk : k ≤ 1000) : IntKind.wrap IntKind.i64 ((k : Int) + ((1 : Nat) : Int)) = ((k + 1 : Nat) : Int) := inc1' (by omega)
theorem cT {p : Prop} {i : Decidable p} (h : p) {a b c : CR} (e : a = c) : (bif @decide p i then a else b) = c := by rw [@decide_eq_true _ i h]; exact e
theorem cF {p : Prop} {i : Decidable p} (h : ¬ p) {a b c : CR} (e : b = c) : (bif @decide p i then a else b) = c := by rw [@decide_eq_false _ i h]; exact e
section
variable {r : Mem} {b off n cap : Nat} {z : Nat → Int}
theorem yi_ok (hz : rowAt r b off (2 * n) z) (hn : n ≤ 1000) (v : Int) (h1 : (1 ≤ n ∧ n ≤ 12 ∧ okS z n) → v = 0) (h2 : ¬ (1 ≤ n ∧ n ≤ 12 ∧ okS z n) → v = erS n) : GrT Tryd.prog r 8 [RS2 b off n cap] (I v) := by
 refine GrT.ofS (C := SC r) rfl rfl rfl (callO (SC_ok r) (by kernel_rfl) ((bodySC r _).trans Yi_eq) (nt := 27) (by kernel_rfl) (rs := [.tmp 2]) (by kernel_rfl) 13 rfl ⟨[2], [], fun vs ms os => vs = [some (I v)] ∧ ms = [] ∧ os = []⟩ ?_ fun γ W F kk hwr hF hro h0' => ?_)
 ·rintro vs ms os ⟨rfl, rfl, rfl⟩
  exact ⟨_, mkA [], by kernel_rfl, rfl⟩
 have h0' : ∀ i, 0 ≤ i → γ i = none := h0'
 refine Go.Ev.Reach.after3R (SC_ok r) TOk.nil (tm := .nil) (L := 1) (L' := 1) (d := 1) hF hro h0' (.step (.step (.step .base)))
  (o1 := ⟨[0, 3], [], fun vs ms os => (1 ≤ n ∧ n ≤ 12) ∧ vs = [some (RS2 b off n cap), some (I (0 : Nat))] ∧ ms = [] ∧ os = []⟩)
  (o2 := ⟨[], [], fun vs ms os => (1 ≤ n ∧ n ≤ 12 ∧ okS z n) ∧ vs = [] ∧ ms = [] ∧ os = []⟩) [] (fun p hp => nomatch hp) ?_ ?_ ?_
 ·rintro vs ms os ⟨⟨hn1, hn12⟩, rfl, rfl, rfl⟩
  refine Go.Ev.Reach.blockC (Go.Ev.Reach.loopC (j := n) (lv := [0, 3]) (fl := []) (I := fun j vs ms os => ∃ i : Nat, i ≤ n ∧ j = n - i ∧ okS z i ∧ vs = [some (RS2 b off n cap), some (I (i : Nat))] ∧ ms = [] ∧ os = []) (fun j vs ms os hI => ?_) ⟨0, by omega, rfl, fun j h => absurd h (by omega), rfl, rfl, rfl⟩)
  obtain ⟨i, hi, rfl, hok, rfl, rfl, rfl⟩ := hI
  refine Go.Ev.Reach.segR (SC_ok r) TOk.nil (tm := .nil) (L := 1) (L' := 1) (d := 1) hF hro h0' [(0, ⟨[], [], fun vs ms os => (1 ≤ n ∧ n ≤ 12 ∧ okS z n) ∧ vs = [] ∧ ms = [] ∧ os = []⟩)] (fun p hp => by simp only [List.mem_cons, List.not_mem_nil, or_false] at hp; subst hp; rfl) ?_
  have hn' := yiB r b off n cap i
  simp only [Int.ofNat_eq_natCast, Int.toNat_natCast] at hn'
  by_cases c : i < n
  ·have b1 : Nat.blt i n = true := Nat.ble_eq_true_of_le (by omega)
   simp only [dT (show (i : Int) < (n : Int) by omega), b1, row_a0 hz c, row_b1 hz c, isI_I, cond_true] at hn'
   dsimp +instances only [ofI_I] at hn'
   rw [w1k i (by omega)] at hn'
   by_cases q : ea z i ≤ eb z i
   ·simp only [dF (show ¬ ea z i > eb z i by omega), cond_false] at hn'
    exact (hn' _ _ _ _).trans (qq_ok ⟨n - (i + 1), by omega, i + 1, c, rfl, fun j hj => by
     by_cases e : j = i
     ·rw [e]; exact q
     ·exact hok j (by omega), rfl, rfl, rfl⟩)
   ·simp only [dT (show ea z i > eb z i by omega), cond_true] at hn'
    have hv := h2 fun h => q (h.2.2 i c)
    unfold erS at hv
    rw [if_pos hn12] at hv
    exact (hn' _ _ _ _).trans (qq_ok ⟨by rw [hv]; rfl, rfl, rfl⟩)
  ·obtain rfl : i = n := by omega
   simp only [dF (show ¬ (i : Int) < (i : Int) by omega), cond_false] at hn'
   exact (hn' _ _ _ _).trans (qq_ok ⟨⟨hn1, hn12, hok⟩, rfl, rfl, rfl⟩)
 ·rintro vs ms os ⟨hh, rfl, rfl, rfl⟩
  have hv := h1 hh
  subst hv
  exact Go.Ev.Reach.segR (SC_ok r) TOk.nil (tm := .nil) (L := 1) (L' := 1) (d := 1) hF hro h0' [] (fun p hp => nomatch hp) ((yiC r _ _ _ _).trans (qq_ok ⟨rfl, rfl, rfl⟩))
 ·have hn' := yiA r b off n cap
  simp only [Int.ofNat_eq_natCast] at hn'
  by_cases c : n ≤ 12
  ·simp only [dF (show ¬ (n : Int) > 12 by omega), cond_false] at hn'
   by_cases c0 : n = 0
   ·have hv := h2 fun h => by omega
    unfold erS at hv
    rw [if_pos c] at hv
    simp only [show ((n : Int) == ((0 : Nat) : Int)) = true by rw [c0]; rfl, cond_true] at hn'
    exact (hn' _ _ _ _).trans (qq_ok ⟨by rw [hv]; rfl, rfl, rfl⟩)
   ·simp only [show ((n : Int) == ((0 : Nat) : Int)) = false by simpa using c0, cond_false] at hn'
    exact (hn' _ _ _ _).trans (qq_ok ⟨⟨by omega, c⟩, rfl, rfl, rfl⟩)
  ·have hv := h2 fun h => c h.2.1
   unfold erS at hv
   rw [if_neg c] at hv
   simp only [dT (show (n : Int) > 12 by omega), cond_true] at hn'
   exact (hn' _ _ _ _).trans (qq_ok ⟨by rw [hv]; rfl, rfl, rfl⟩)
theorem ys_ok {b2 o2 c2 : Nat} {T : List (List Bool)} (hn : n ≤ 1000) (hTl : T.length = n) (hrl : ∀ i, i < n → (T.getD i []).length = n) (h1 : TabM r b off T) (h2 : TabM r b2 o2 T) : GrT Tryd.prog r 11 [RS b off n cap, RS b2 o2 n c2] (.bool true) := by
 refine GrT.ofS (C := SC r) rfl rfl rfl (callO (SC_ok r) (by kernel_rfl) ((bodySC r _).trans Ys_eq) (nt := 53) (by kernel_rfl) (rs := [.tmp 4]) (by kernel_rfl) 115 rfl ⟨[4], [], fun vs ms os => vs = [some (.bool true)] ∧ ms = [] ∧ os = []⟩ ?_ fun γ W F kk hwr hF hro h0' => ?_)
 ·rintro vs ms os ⟨rfl, rfl, rfl⟩
  exact ⟨_, mkA [], by kernel_rfl, rfl⟩
 have h0' : ∀ i, 0 ≤ i → γ i = none := h0'
 have e0 : ∀ o k : Nat, Nat.add o (Nat.mul k 1) = o + k := fun o k => by simp
 have row : ∀ {b off : Nat}, TabM r b off T → ∀ i, i < n → ∃ bi oi ci, r b (off + i) = some (RS bi oi n ci) ∧ ∀ k, k < n → r bi (oi + k) = some (.bool (gT T i k)) := fun hM i hi => by
  have h := tab_RS hM (i := i) (by omega) (by rw [hrl i hi]; omega)
  rw [hrl i hi] at h
  exact h
 refine Go.Ev.Reach.after3R (SC_ok r) TOk.nil (tm := .nil) (L := 1) (L' := 1) (d := 1) hF hro h0' (.step (.step .base))
  (o1 := ⟨lvYt, [], fun vs ms os => vs = vYt b off n cap b2 o2 c2 0 ∧ ms = [] ∧ os = []⟩)
  (o2 := ⟨[], [], fun vs ms os => vs = [] ∧ ms = [] ∧ os = []⟩) [] (fun p hp => nomatch hp) ?_ ?_ ?_
 ·rintro vs ms os ⟨rfl, rfl, rfl⟩
  refine Go.Ev.Reach.blockC (Go.Ev.Reach.loopC (j := n) (lv := lvYt) (fl := []) (I := fun j vs ms os => ∃ i : Nat, i ≤ n ∧ j = n - i ∧ vs = vYt b off n cap b2 o2 c2 i ∧ ms = [] ∧ os = []) (fun j vs ms os hI => ?_) ⟨0, by omega, rfl, rfl, rfl, rfl⟩)
  obtain ⟨i, hi, rfl, rfl, rfl, rfl⟩ := hI
  refine Go.Ev.Reach.seqC (o1 := ⟨lvYt, [], fun vs ms os => i < n ∧ vs = vYt b off n cap b2 o2 c2 i ∧ ms = [] ∧ os = []⟩) (Go.Ev.Reach.segR (SC_ok r) TOk.nil (tm := .nil) (L := 1) (L' := 1) (d := 1) hF hro h0' [(0, ⟨[], [], fun vs ms os => vs = [] ∧ ms = [] ∧ os = []⟩)] (fun p hp => by simp only [List.mem_cons, List.not_mem_nil, or_false] at hp; subst hp; rfl) ?_) fun vs ms os hq => ?_
  ·have hn' := ysB r b off n cap b2 o2 c2 i
   simp only [Int.ofNat_eq_natCast] at hn'
   by_cases c : i < n
   ·simp only [dT (show (i : Int) < (n : Int) by omega), cond_true] at hn'
    exact (hn' _ _ _ _).trans (qq_ok ⟨c, rfl, rfl, rfl⟩)
   ·obtain rfl : i = n := by omega
    simp only [dF (show ¬ (i : Int) < (i : Int) by omega), cond_false] at hn'
    exact (hn' _ _ _ _).trans (qq_ok ⟨rfl, rfl, rfl⟩)
  obtain ⟨c, rfl, rfl, rfl⟩ := hq
  have b1 : Nat.blt i n = true := Nat.ble_eq_true_of_le (by omega)
  obtain ⟨bi, oi, ci, u1, u2⟩ := row h1 i c
  obtain ⟨bj, oj, cj, v1, v2⟩ := row h2 i c
  refine Go.Ev.Reach.seqC (o1 := ⟨lvYt, [], fun vs ms os => vs = vYt b off n cap b2 o2 c2 i ∧ ms = [] ∧ os = []⟩) (Go.Ev.Reach.blockC ?_) fun vs ms os hq => ?_
  ·have hC := ysC r b off n cap b2 o2 c2 i
   simp only [Int.ofNat_eq_natCast, Int.toNat_natCast, b1, e0, u1, v1, ro_RS, ln_RS, cond_true] at hC
   simp only [show ((n : Int) != (n : Int)) = false from neF rfl, cond_false] at hC
   refine reach_hs (sh := 2) (Go.Ev.Reach.afterR (SS_ok r 2) (TOk.sh 2 TOk.nil) (tm := .nil) (L := 1) (L' := 1) (d := 1) hF hro h0' (.step .base) (o1 := ⟨lvYu, [], fun vs ms os => vs = vYu b off n cap b2 o2 c2 i 0 ∧ ms = [] ∧ os = []⟩) [] (fun p hp => nomatch hp) (fun vs ms os hq => ?_) ((hC _ _ _ _).trans (qq_ok ⟨rfl, rfl, rfl⟩)))
   obtain ⟨rfl, rfl, rfl⟩ := hq
   refine Go.Ev.Reach.blockC (Go.Ev.Reach.loopC (j := n) (lv := lvYu) (fl := []) (I := fun j vs ms os => ∃ k : Nat, k ≤ n ∧ j = n - k ∧ vs = vYu b off n cap b2 o2 c2 i k ∧ ms = [] ∧ os = []) (fun j vs ms os hI => ?_) ⟨0, by omega, rfl, rfl, rfl, rfl⟩)
   obtain ⟨k, hk, rfl, rfl, rfl, rfl⟩ := hI
   refine Go.Ev.Reach.segR (SS_ok r 2) (TOk.sh 2 TOk.nil) (tm := .nil) (L := 1) (L' := 1) (d := 1) hF hro h0' [(2, ⟨lvYt, [], fun vs ms os => vs = vYt b off n cap b2 o2 c2 i ∧ ms = [] ∧ os = []⟩)] (fun p hp => by simp only [List.mem_cons, List.not_mem_nil, or_false] at hp; subst hp; rfl) ?_
   have hn' := ysD r b off n cap b2 o2 c2 i k
   simp only [Int.ofNat_eq_natCast, Int.toNat_natCast, b1, e0, u1, ro_RS, cond_true] at hn'
   by_cases ck : k < n
   ·have b3 : Nat.blt k n = true := Nat.ble_eq_true_of_le (by omega)
    simp only [ln_RS, b3, bk_RS, of_RS, u2 k ck, v1, ro_RS, ln_RS, v2 k ck, b_bl, o_bl, cond_true] at hn'
    rw [w1k k (by omega)] at hn'
    cases hg : gT T i k with
    | true =>
     simp only [hg, cond_true] at hn'
     exact (hn' _ _ _ _).trans (cT (by omega) (qq_ok ⟨n - (k + 1), by omega, k + 1, ck, rfl, rfl, rfl, rfl⟩))
    | false =>
     simp only [hg, cond_false] at hn'
     exact (hn' _ _ _ _).trans (cT (by omega) (qq_ok ⟨n - (k + 1), by omega, k + 1, ck, rfl, rfl, rfl, rfl⟩))
   ·obtain rfl : k = n := by omega
    simp only [ln_RS] at hn'
    exact (hn' _ _ _ _).trans (cF (by omega) (qq_ok ⟨rfl, rfl, rfl⟩))
  ·obtain ⟨rfl, rfl, rfl⟩ := hq
   refine Go.Ev.Reach.segR (SC_ok r) TOk.nil (tm := .nil) (L := 1) (L' := 1) (d := 1) hF hro h0' [] (fun p hp => nomatch hp) ?_
   have hn' := ysE r b off n cap b2 o2 c2 i
   simp only [Int.ofNat_eq_natCast] at hn'
   rw [w1k i (by omega)] at hn'
   exact (hn' _ _ _ _).trans (qq_ok ⟨n - (i + 1), by omega, i + 1, c, rfl, rfl, rfl, rfl⟩)
 ·rintro vs ms os ⟨rfl, rfl, rfl⟩
  exact Go.Ev.Reach.segR (SC_ok r) TOk.nil (tm := .nil) (L := 1) (L' := 1) (d := 1) hF hro h0' [] (fun p hp => nomatch hp) ((ysF r _ _ _ _).trans (qq_ok ⟨rfl, rfl, rfl⟩))
 ·have hn' := ysA r b off n cap b2 o2 c2
  simp only [show (Int.ofNat n != Int.ofNat n) = false from neF rfl, cond_false] at hn'
  exact (hn' _ _ _ _).trans (qq_ok ⟨rfl, rfl, rfl⟩)
end
end Go.Proofs
namespace Go.Proofs
open Go Go.Ev Go.Num
end Go.Proofs
namespace Go.Proofs
open Go Go.Ev Go.Num
section
variable {r : Mem} {b off n cap : Nat} {z : Nat → Int}
end
end Go.Proofs
namespace Go.Proofs
open Go Go.Ev Go.Num
def rgX : Code → Code
 | .rangeFunc _ _ a _ => a
 | c => c
def rgY : Code → Code
 | .rangeFunc _ _ _ b => b
 | c => c
noncomputable def cYb : Code := bodyOf S0 21
noncomputable def Yb_0 : Code := (lc cYb)
noncomputable def Yb_1 : Code := (lc (rc cYb))
noncomputable def Yb_2 : Code := (lc (lc (rc (rc cYb))))
noncomputable def Yb_3 : Code := (lc (ic (ic (rc (lc (rc (rc cYb)))))))
noncomputable def Yb_4 : Code := (lc (rc (ic (ic (rc (lc (rc (rc cYb))))))))
noncomputable def Yb_5 : Code := (lc (ic (lc (rc (rc (ic (ic (rc (lc (rc (rc cYb)))))))))))
noncomputable def Yb_6 : Code := (lc (rc (ic (lc (rc (rc (ic (ic (rc (lc (rc (rc cYb))))))))))))
noncomputable def Yb_7 : Code := (lc (rc (rc (ic (lc (rc (rc (ic (ic (rc (lc (rc (rc cYb)))))))))))))
noncomputable def Yb_8 : Code := (ic (rc (rc (rc (ic (lc (rc (rc (ic (ic (rc (lc (rc (rc cYb))))))))))))))
noncomputable def Yb_9 : Code := (rc (rc (rc (ic (ic (rc (lc (rc (rc cYb)))))))))
noncomputable def Yb_10 : Code := (rc (rc (rc cYb)))
noncomputable def k_b1 : Code := rgX Yb_8
noncomputable def k_b2 : Code := rgY Yb_8
noncomputable def Yb_b : Code := ic k_b2
theorem Yb_eq : cYb = (.seq Yb_0 (.seq Yb_1 (.seq (.seq Yb_2 (.block 0 (.loop (.seq Yb_3 (.seq Yb_4 (.seq (.block 1 (.seq Yb_5 (.seq Yb_6 (.seq Yb_7 (.block 2 (.rangeFunc (.tmp 24) #[25] k_b1 k_b2)))))) Yb_9)))))) Yb_10))) := by kernel_rfl
theorem Ybb_eq : k_b2 = .block 3 Yb_b := by kernel_rfl
abbrev fE3 (p : Nat) : Value := .func (.func 55) ⟨[]⟩ ⟨[.pointer (some ⟨p, 0, none⟩)]⟩
def oPb (v : Value) (i : Nat) : Option AObj := some (.cells [v] 24 i 0)
def oSu (w : Nat) (i : Nat) : Option AObj := some (.cells [V ((w : Nat) : Int)] 53 i 0)
def oNu (k : Nat) (i : Nat) : Option AObj := some (.cells [I ((k : Nat) : Int)] 3 i 0)
def shB (j : Nat) : Nat := 64 * 4 + j + 4
def lvYb : List Nat := [1, 3, 10, 11]
def vYb (n x : Nat) : OV := [some (pq 0), some (pq 1), some (I (n : Nat)), some (I (x : Nat))]
def oYb (oc c : List Value) (n : Nat) : OO := [oOr oc 0, oPb (ow 2 n) 1, oTb c 2]
def lvYbq : List Nat := [1, 3, 4, 10, 11, 24]
def vYbq (n x : Nat) : OV := [some (pq 0), some (pq 1), some (pq 2), some (I (n : Nat)), some (I (x : Nat)), some (fE3 3)]
noncomputable def lpYb (n x : Nat) (st : LoopState) (pd : Option Code) : AObj := .loop st pd 50334783 ⟨[], bT lvYbq (vYbq n x) .nil⟩ 34 #[25] k_b1 k_b2 6
def oYc (oc c : List Value) (n x s : Nat) (d : List Value) : OO := [oOr oc 0, oPb (ow 4 n) 1, oNu x 2, oSu s 3, oTb (c.set x (ow 5 n)) 4, oBo d 5]
noncomputable def oYd (oc c : List Value) (n x s : Nat) (d : List Value) (st : LoopState) (pd : Option Code) : OO := oYc oc c n x s d ++ [some .defd, some (lpYb n x st pd)]
def flYc : List Fl := [.g, .t, .t, .t, .q [4], .g]
def flYd : List Fl := [.g, .t, .t, .t, .q [5], .g, .t, .l lvYbq]
theorem ybA (r : Mem) (n : Nat) (w a : Nat → Nat) (fs : FnsC) (K : KO) (kx : Nat → KS) (kr : KS) : run (SC r) 50334783 34 1 (.seq Yb_0 (.seq Yb_1 Yb_2)) fs none (rbK 0 lvYb [.g, .t, .g] K) kx kr (sc0 50334783 [.agg ⟨orC n w a⟩]) (tr0 50334783 [.agg ⟨orC n w a⟩]) [] emptyA =
    bif Nat.ble (Int.toNat (Int.ofNat n)) (Int.toNat (Int.ofNat n)) then bif Nat.ble (Int.toNat (Int.ofNat n)) 1000000 then bif m_nns (orC n w a) && (true && (m_nns (zerosL (Nat.mul (Int.toNat (Int.ofNat n)) 1) [.slice none 0 0]) && true)) then K [some (.pointer (some ⟨0, 0, none⟩)), some (.pointer (some ⟨1, 0, none⟩)), some (I (Int.ofNat n)), some (I (Int.ofNat 0))] [] [some (.cells (orC n w a) 56 0 0), some (.cells [.slice (some ⟨2, 0, none⟩) (Int.toNat (Int.ofNat n)) (Int.toNat (Int.ofNat n))] 24 1 0), some (.cells (zerosL (Nat.mul (Int.toNat (Int.ofNat n)) 1) [.slice none 0 0]) 64 2 1)] else F4 else F4 else F4 := by kernel_rfl
theorem ybB (r : Mem) (n x : Nat) (oc c : List Value) (fs : FnsC) (K : KO) (KX : Nat → KO) (kr : KS) : run (SC r) 50334783 34 1 (.seq Yb_3 Yb_4) fs none (rbK 0 lvYb [.g, .t, .g] K) (fun j => rbK 0 [3] [.t, .g] (KX j)) kr [] (bT lvYb (vYb n x) .nil) [] (mkA (oYb oc c n)) =
    bif decide (Int.ofNat x < Int.ofNat n) then bif m_nns oc && (true && (m_nns c && true)) then K [some (.pointer (some ⟨0, 0, none⟩)), some (.pointer (some ⟨1, 0, none⟩)), some (I (Int.ofNat n)), some (I (Int.ofNat x))] [] [some (.cells oc 56 0 0), some (.cells [.slice (some ⟨2, 0, none⟩) n n] 24 1 0), some (.cells c 64 2 1)] else F4 else bif true && (m_nns c && true) then KX 0 [some (.pointer (some ⟨0, 0, none⟩))] [] [some (.cells [.slice (some ⟨1, 0, none⟩) n n] 24 0 0), some (.cells c 64 1 1)] else F4 := by kernel_rfl
theorem ybC (r : Mem) (n x : Nat) (oc c : List Value) (K : KO) (kx : Nat → KS) (kr : KS) : run (SC r) 50334783 34 1 (.seq Yb_5 (.seq Yb_6 Yb_7)) (lvlT (SC r) (fun _ => none) .nil 1 3) none (rbK 0 lvYbq flYc K) kx kr [] (bT lvYb (vYb n x) .nil) [] (mkA (oYb oc c n)) =
    Option.casesOn oc[0]? (.fail 423) fun val => bif isI IntKind.i64 val then bif decide (0 ≤ ofI val) then bif decide (0 ≤ ofI val) then bif Nat.ble (Int.toNat (ofI val)) (Int.toNat (ofI val)) then bif Nat.ble (Int.toNat (ofI val)) 1000000 then bif Nat.blt (Int.toNat (Int.ofNat x)) n then bif Nat.blt (Nat.add 0 (Nat.mul (Int.toNat (Int.ofNat x)) 1)) (List.length c) then Option.casesOn oc[0]? (.fail 423) fun val_1 => bif isI IntKind.i64 val_1 then bif m_eqv (I (ofI val_1)) (I (ofI val)) then bif m_eqv (I (Int.ofNat x)) (I (Int.ofNat x)) then bif m_eqv (I (Int.ofNat x)) (I (Int.ofNat x)) then bif m_eqv (.slice (some ⟨2, 0, none⟩) n n) (.slice (some ⟨2, 0, none⟩) n n) then bif m_eqv (.slice (some ⟨2, 0, none⟩) n n) (.slice (some ⟨2, 0, none⟩) n n) then bif Nat.blt (Int.toNat (Int.ofNat x)) 12 then Option.casesOn oc[Nat.add 13 (Nat.mul (Int.toNat (Int.ofNat x)) 1)]? (.fail 423) fun val_2 => bif isI IntKind.u16 val_2 then bif m_nns oc && (true && (true && (true && (m_nopo (m_mvq [0, 1, 3, 5, 2, 4] (List.set c (Nat.add 0 (Nat.mul (Int.toNat (Int.ofNat x)) 1)) (.slice (some ⟨4, 0, none⟩) (Int.toNat (ofI val)) (Int.toNat (ofI val))))) && (m_nns (zerosL (Nat.mul (Int.toNat (ofI val)) 1) [.bool false]) && true))))) then K [some (.pointer (some ⟨0, 0, none⟩)), some (.pointer (some ⟨1, 0, none⟩)), some (.pointer (some ⟨2, 0, none⟩)), some (I (Int.ofNat n)), some (I (Int.ofNat x)), some (.func (Fn.func 55) ⟨[]⟩ ⟨[.pointer (some ⟨3, 0, none⟩)]⟩)] [] [some (.cells oc 56 0 0), some (.cells [.slice (some ⟨4, 0, none⟩) n n] 24 1 0), some (.cells [I (Int.ofNat x)] 3 2 0), some (.cells [.int .u16 (ofI val_2)] 53 3 0), some (.cells (m_mvq [0, 1, 3, 5, 2, 4] (List.set c (Nat.add 0 (Nat.mul (Int.toNat (Int.ofNat x)) 1)) (.slice (some ⟨4, 0, none⟩) (Int.toNat (ofI val)) (Int.toNat (ofI val))))) 64 4 1), some (.cells (zerosL (Nat.mul (Int.toNat (ofI val)) 1) [.bool false]) 4 5 1)] else F4 else F4 else F4 else F4 else F4 else F4 else F4 else F4 else F4 else F4 else F4 else F4 else F4 else F4 else F4 else F4 := by kernel_rfl
theorem ybD (r : Mem) (n x s : Nat) (oc c d : List Value) (v : Nat) (fs : FnsC) (K : KO) (kx : Nat → KS) (kr : KS) : run (SC r) 50334783 34 1 k_b1 fs (some 7) (begK 7 (rbK 8 [3, 4, 5] flYd K)) kx kr [] (bT (lvYbq ++ [25]) (vYbq n x ++ [some (I (v : Nat))]) .nil) [] (mkA (oYd oc c n x s d .ready none)) =
    bif m_nns oc && (true && (true && (true && (m_nopo (m_mvq [0, 1, 2, 3, 4, 5, 6, 7] (List.set c x (.slice (some ⟨5, 0, none⟩) n n))) && (m_nns d && (true && (true && true))))))) then K [some (.pointer (some ⟨1, 0, none⟩)), some (.pointer (some ⟨2, 0, none⟩)), some (I (Int.ofNat v))] [] [some (.cells oc 56 0 0), some (.cells [.slice (some ⟨4, 0, none⟩) n n] 24 1 0), some (.cells [I (Int.ofNat x)] 3 2 0), some (.cells [.int .u16 (Int.ofNat s)] 53 3 0), some (.cells (m_mvq [0, 1, 2, 3, 4, 5, 6, 7] (List.set c x (.slice (some ⟨5, 0, none⟩) n n))) 64 4 1), some (.cells d 4 5 1), some .defd, some ((lpYb n x LoopState.busy none))] else F4 := by kernel_rfl
theorem ybE (r : Mem) (n x s : Nat) (oc c d : List Value) (v : Nat) (fs : FnsC) (K : KO) (kx : Nat → KS) (kr : KS) : run (SS r (shB 5)) 50334783 34 1 Yb_b fs (some 7) (rbK 8 [] flYd K) kx kr [] (bT [3, 4, 5] [some (pq 1), some (pq 2), some (I (v : Nat))] .nil) [] (mkA (oYd oc c n x s d .busy none)) =
    bif Nat.blt (Int.toNat (Int.ofNat x)) n then Option.casesOn (List.set c x (.slice (some ⟨5, 0, none⟩) n n))[Nat.add 0 (Nat.mul (Int.toNat (Int.ofNat x)) 1)]? (.fail 423) fun val => bif isOwnJ 5 val then bif Nat.blt (Int.toNat (Int.ofNat v)) (lnOf val) then bif Nat.blt (Nat.add 0 (Nat.mul (Int.toNat (Int.ofNat v)) 1)) (List.length d) then bif m_nns oc && (true && (true && (true && (m_nopo (m_mvq [0, 1, 2, 3, 4, 5, 6, 7] (List.set c x (.slice (some ⟨5, 0, none⟩) n n))) && (m_nns (List.set d (Nat.add 0 (Nat.mul (Int.toNat (Int.ofNat v)) 1)) (.bool true)) && (true && (true && true))))))) then K [] [] [some (.cells oc 56 0 0), some (.cells [.slice (some ⟨4, 0, none⟩) n n] 24 1 0), some (.cells [I (Int.ofNat x)] 3 2 0), some (.cells [.int .u16 (Int.ofNat s)] 53 3 0), some (.cells (m_mvq [0, 1, 2, 3, 4, 5, 6, 7] (List.set c x (.slice (some ⟨5, 0, none⟩) n n))) 64 4 1), some (.cells (List.set d (Nat.add 0 (Nat.mul (Int.toNat (Int.ofNat v)) 1)) (.bool true)) 4 5 1), some .defd, some ((lpYb n x LoopState.busy none))] else F4 else F4 else F4 else F4 else F4 := by kernel_rfl
theorem ybT (r : Mem) (n x s : Nat) (oc c d : List Value) (K : KO) (kx : Nat → KS) (kr : KS) : tailRK 7 ⟨[], bT lvYbq (vYbq n x) .nil⟩ [6] (rbK 0 lvYb [.g, .t, .q [5], .g] K) kx kr (mkA (oYd oc c n x s d .ready none)) =
    bif m_nns oc && (true && (m_nopo (m_mvq [0, 1, 4, 5] (List.set c x (.slice (some ⟨5, 0, none⟩) n n))) && (m_nns d && true))) then K [some (.pointer (some ⟨0, 0, none⟩)), some (.pointer (some ⟨1, 0, none⟩)), some (I (Int.ofNat n)), some (I (Int.ofNat x))] [] [some (.cells oc 56 0 0), some (.cells [.slice (some ⟨2, 0, none⟩) n n] 24 1 0), some (.cells (m_mvq [0, 1, 4, 5] (List.set c x (.slice (some ⟨5, 0, none⟩) n n))) 64 2 1), some (.cells d 4 3 1)] else F4 := by kernel_rfl
theorem ybG (r : Mem) (n x : Nat) (oc c : List Value) (d : List Value) (fs : FnsC) (K : KO) (kx : Nat → KS) (kr : KS) : run (SC r) 50334783 34 1 Yb_9 fs none (rbK 0 lvYb [.g, .t, .q [3], .g] K) kx kr [] (bT lvYb (vYb n x) .nil) [] (mkA (oYb oc (c.set x (ow 3 n)) n ++ [oBo d 3])) =
    bif m_nns oc && (true && (m_nopo (m_mvq [0, 1, 2, 3] (List.set c x (.slice (some ⟨3, 0, none⟩) n n))) && (m_nns d && true))) then K [some (.pointer (some ⟨0, 0, none⟩)), some (.pointer (some ⟨1, 0, none⟩)), some (I (Int.ofNat n)), some (I (IntKind.wrap .i64 (Int.ofNat x + Int.ofNat 1)))] [] [some (.cells oc 56 0 0), some (.cells [.slice (some ⟨2, 0, none⟩) n n] 24 1 0), some (.cells (m_mvq [0, 1, 2, 3] (List.set c x (.slice (some ⟨3, 0, none⟩) n n))) 64 2 1), some (.cells d 4 3 1)] else F4 := by kernel_rfl
theorem ybH (r : Mem) (n : Nat) (c : List Value) (fs : FnsC) (K : KO) (KR : KO) (kx : Nat → KS) : run (SC r) 50334783 34 1 Yb_10 fs none (rbK 0 [2] [.g] K) kx (rbK 0 [2] [.g] KR) [] (bT [3] [some (pq 0)] .nil) [] (mkA [oPb (ow 1 n) 0, oTb c 1]) =
    bif m_nns c && true then KR [some (.slice (some ⟨0, 0, none⟩) n n)] [] [some (.cells c 64 0 1)] else F4 := by kernel_rfl
end Go.Proofs
namespace Go.Proofs
open Go Go.Ev Go.Num
theorem mvq_set {ns : List Nat} {c : List Value} (hc : m_nns c = true) (x : Nat) (v : Value) : m_mvq ns (c.set x v) = c.set x (mvq1 ns v) := by
 have h := mvq_nn (ns := ns) hc
 unfold m_mvq at h ⊢
 rw [List.map_set, h]
theorem nopo_set {c : List Value} (hc : m_nns c = true) (x : Nat) {v : Value} (hv : nopo v = true) : m_nopo (c.set x v) = true := by
 have h := nopo_nn hc
 unfold m_nopo at h ⊢
 rw [List.all_eq_true] at h ⊢
 intro u hu
 rcases List.mem_or_eq_of_mem_set hu with h1 | rfl
 ·exact h u h1
 ·exact hv
theorem nns_set : ∀ {c : List Value} (x : Nat) {v : Value}, m_nns c = true → nn v = true → m_nns (c.set x v) = true
 | [], x, v, _, _ => rfl
 | u :: c, 0, v, h, hv => by
  have h' : (nn u && nns c) = true := h
  simp only [Bool.and_eq_true] at h'
  show (nn v && nns c) = true
  rw [hv, h'.2]; rfl
 | u :: c, x + 1, v, h, hv => by
  have h' : (nn u && nns c) = true := h
  simp only [Bool.and_eq_true] at h'
  have ih := nns_set x h'.2 hv
  show (nn u && nns (c.set x v)) = true
  unfold m_nns at ih
  rw [h'.1, ih]; rfl
theorem frzVs_set {j b o : Nat} {v u : Value} (hv : frzV j b o v = some u) : ∀ {c : List Value} (x : Nat), m_nns c = true → frzVs j b o (c.set x v) = some (c.set x u)
 | [], x, _ => rfl
 | w :: c, 0, h => by
  have h' : (nn w && nns c) = true := h
  simp only [Bool.and_eq_true] at h'
  simp only [List.set_cons_zero, frzVs, hv, frzVs_nn j b o c h'.2]
 | w :: c, x + 1, h => by
  have h' : (nn w && nns c) = true := h
  simp only [Bool.and_eq_true] at h'
  simp only [List.set_cons_succ, frzVs, frzV_nn j b o w h'.1, frzVs_set hv x h'.2]
theorem zer_b (n : Nat) : zerosL (Nat.mul n 1) [.bool false] = List.replicate n (Value.bool false) := by
 show List.replicate (Nat.mul n 1) (Value.bool false) = _
 rw [Nat.mul_eq, Nat.mul_one]
theorem zer_n (n : Nat) : zerosL (Nat.mul n 1) [.slice none 0 0] = List.replicate n nilT := by
 show List.replicate (Nat.mul n 1) nilT = _
 rw [Nat.mul_eq, Nat.mul_one]
theorem nns_rep (v : Value) (hv : nn v = true) : ∀ n, m_nns (List.replicate n v) = true
 | 0 => rfl
 | n + 1 => by
  have ih := nns_rep v hv n
  show (nn v && nns (List.replicate n v)) = true
  unfold m_nns at ih
  rw [hv, ih]; rfl
def bR (s v n : Nat) : List Bool := (List.range n).map fun y => decide (y < v) && s.testBit y
theorem bR_len (s v n : Nat) : (bR s v n).length = n := by simp [bR]
theorem bR_get {s v n y : Nat} (h : y < n) : (bR s v n)[y]? = some (decide (y < v) && s.testBit y) := by
 unfold bR
 rw [List.getElem?_map, List.getElem?_range h]
 rfl
theorem bR_zero (s n : Nat) : List.replicate n (Value.bool false) = boL (bR s 0 n) := by
 apply List.ext_getElem?
 intro y
 unfold boL
 by_cases c : y < n
 ·rw [List.getElem?_replicate, if_pos c, List.getElem?_map, bR_get c]
  rfl
 ·rw [List.getElem?_eq_none (by rw [List.length_replicate]; omega), List.getElem?_eq_none (by rw [List.length_map, bR_len]; omega)]
theorem bR_set {s v n : Nat} (hv : v < n) (hb : s.testBit v = true) : (boL (bR s v n)).set v (.bool true) = boL (bR s (v + 1) n) := by
 unfold boL
 apply List.ext_getElem?
 intro y
 rw [List.getElem?_set]
 by_cases c : y < n
 ·rw [List.getElem?_map, List.getElem?_map, bR_get c, bR_get c]
  by_cases e : v = y
  ·subst e
   rw [if_pos rfl, if_pos (by rw [List.length_map, bR_len]; exact c)]
   simp [hb]
  ·rw [if_neg e]
   by_cases d : y < v
   ·simp [d, show y < v + 1 by omega]
   ·simp [d, show ¬ y < v + 1 by omega]
 ·rw [List.getElem?_eq_none (by rw [List.length_map, bR_len]; omega), List.getElem?_eq_none (by rw [List.length_map, bR_len]; omega)]
  by_cases e : v = y
  ·omega
  ·rw [if_neg e]
theorem bR_skip {s v n : Nat} (hb : s.testBit v = false) : bR s v n = bR s (v + 1) n := by
 unfold bR
 refine List.map_congr_left fun y _ => ?_
 by_cases e : y = v
 ·subst e; simp [hb]
 ·by_cases d : y < v
  ·simp [d, show y < v + 1 by omega]
  ·simp [d, show ¬ y < v + 1 by omega]
theorem bR_row {T : List (List Bool)} {n x s : Nat} (hn : n ≤ 16) (hrl : (T.getD x []).length = n) (hT : ∀ y, y < n → gT T x y = s.testBit y) : T.getD x [] = bR s 16 n := by
 apply List.ext_getElem?
 intro y
 by_cases c : y < n
 ·have h := hT y c
  unfold gT at h
  rw [List.getD_eq_getElem?_getD] at h
  rw [bR_get c, decide_eq_true (show y < 16 by omega), Bool.true_and, ← h, List.getElem?_eq_getElem (by omega)]
  rfl
 ·rw [List.getElem?_eq_none (by omega), List.getElem?_eq_none (by rw [bR_len]; omega)]
def TabU (r : Mem) (c : List Value) (T : List (List Bool)) (n x : Nat) : Prop := c.length = n ∧ m_nns c = true ∧ ∀ i v l, i < x → c[i]? = some v → T[i]? = some l → RowV r v l
theorem TabU.set {r r1 : Mem} {c : List Value} {T : List (List Bool)} {n x : Nat} (h : TabU r c T n x) (hle : Mem.le r r1) {v : Value} (hv : nn v = true) (hr : ∀ l, T[x]? = some l → RowV r1 v l) : TabU r1 (c.set x v) T n (x + 1) := by
 refine ⟨by rw [List.length_set]; exact h.1, nns_set x h.2.1 hv, fun i u l hi h1 h2 => ?_⟩
 rw [List.getElem?_set] at h1
 by_cases e : x = i
 ·subst e
  rw [if_pos rfl] at h1
  split at h1
  ·cases h1; exact hr l h2
  ·cases h1
 ·rw [if_neg e] at h1
  exact (h.2.2 i u l (by omega) h1 h2).mono hle
section
variable {r : Mem} {n x s : Nat} {oc c : List Value}
theorem ybQ (hc : m_nns c = true) (n x : Nat) : m_mvq [0, 1, 2, 3, 4, 5, 6, 7] (c.set x (.slice (some ⟨5, 0, none⟩) n n)) = c.set x (.slice (some ⟨5, 0, none⟩) n n) := by
 rw [mvq_set hc]; rfl
theorem ybN (hc : m_nns c = true) (j n x : Nat) : m_nopo (c.set x (.slice (some ⟨j, 0, none⟩) n n)) = true := nopo_set hc x rfl
theorem gdYb (hoc : m_nns oc = true) (hc : m_nns c = true) (n x s : Nat) {d : List Value} (hd : m_nns d = true) : gdAs flYd (oYd oc c n x s d .ready none) = true := by
 have h : gdAs flYd (oYd oc c n x s d .ready none) = (m_nns oc && (true && (true && (true && (m_nopo (c.set x (.slice (some ⟨5, 0, none⟩) n n)) && (m_nns d && (true && (true && true)))))))) := by kernel_rfl
 simp only [h, hoc, ybN hc, hd, Bool.and_self]
theorem cnYb (hoc : m_nns oc = true) (hc : m_nns c = true) (n x s : Nat) {d : List Value} (hd : m_nns d = true) : Cn 8 flYd (mkA (oYd oc c n x s d .ready none)) (oYd oc c n x s d .ready none) := by
 refine ⟨?_, gdYb hoc hc n x s hd⟩
 have h : rb 8 [] flYd .nil [] (mkA (oYd oc c n x s d .ready none)) = some ([], [], [oOr oc 0, oPb (ow 4 n) 1, oNu x 2, oSu s 3, oTb (m_mvq [0, 1, 2, 3, 4, 5, 6, 7] (c.set x (.slice (some ⟨5, 0, none⟩) n n))) 4, oBo d 5, some .defd, some (lpYb n x .ready none)]) := by kernel_rfl
 rw [h, ybQ hc]
 rfl
theorem endYb (oc c : List Value) (n x s : Nat) (d : List Value) : endR 7 none (St.of [] [] [] (oYd oc c n x s d .busy none)) = .ret (.bool true) (mkA (oYd oc c n x s d .ready none)) := by kernel_rfl
theorem yYb (hoc : m_nns oc = true) (hc : m_nns c = true) (hcl : c.length = n) (hx : x < n) {v : Nat} (hv : v < n) (hb : s.testBit v = true) {P E : OO → Prop} (hP : P (oYd oc c n x s (boL (bR s (v + 1) n)) .ready none)) :
  YOk (SC r) 7 [I (v : Nat)] (mkA (oYd oc c n x s (boL (bR s v n)) .ready none)) fun u A' => ∃ os', Cn 8 flYd A' os' ∧ ((u = .bool true ∧ P os') ∨ (u = .bool false ∧ E os')) := by
 have hnx : (mkA (oYd oc c n x s (boL (bR s v n)) .ready none)).next = 8 := by kernel_rfl
 refine YOk.of (SC_ok r) (i := 7) (st := .ready) (pend := none) (m := 50334783) (n := 34) (en := ⟨[], bT lvYbq (vYbq n x) .nil⟩) (params := #[25]) (assign := k_b1) (body := k_b2) (d := 6) (by kernel_rfl) (s0 := []) (b0 := bT (lvYbq ++ [25]) (vYbq n x ++ [some (I (v : Nat))]) .nil) (by kernel_rfl) TOk.nil (tm := .nil) (L := 1) (L' := 1) (d' := 1)
  ⟨[3, 4, 5], flYd, fun vs ms os => vs = [some (pq 1), some (pq 2), some (I (v : Nat))] ∧ ms = [] ∧ os = oYd oc c n x s (boL (bR s v n)) .busy none⟩
  ⟨[], flYd, fun vs ms os => vs = [] ∧ ms = [] ∧ os = oYd oc c n x s (boL (bR s (v + 1) n)) .busy none⟩
  (fun _ => Outs.no) Outs.no ?_ ?_ ?_ ?_ ?_
 ·rw [hnx]
  have hn' := ybD r n x s oc c (boL (bR s v n)) v
  simp only [ybQ hc, ybN hc, hoc, boL_nn, Bool.and_self, cond_true] at hn'
  exact (hn' _ _ _ _).trans (qq_ok ⟨rfl, rfl, rfl⟩)
 ·rintro F k γ W hF hro h0 vs ms os ⟨rfl, rfl, rfl⟩
  rw [hnx] at h0
  rw [Ybb_eq]
  refine Go.Ev.Reach.blockC (segSh (shB 5) TOk.nil (tm := .nil) (L := 1) (L' := 1) (d := 1) hF hro h0 [] (fun p hp => nomatch hp) ?_)
  have hn' := ybE r n x s oc c (boL (bR s v n)) v
  have b1 : Nat.blt x n = true := Nat.ble_eq_true_of_le (by omega)
  have b2 : Nat.blt v n = true := Nat.ble_eq_true_of_le (by omega)
  have b3 : Nat.blt v (boL (bR s v n)).length = true := by rw [boL_len, bR_len]; exact b2
  have e0 : ∀ k : Nat, Nat.add 0 (Nat.mul k 1) = k := fun k => by simp
  have g1 : (c.set x (.slice (some ⟨5, 0, none⟩) n n))[x]? = some (.slice (some ⟨5, 0, none⟩) n n) := by rw [List.getElem?_set, if_pos rfl, if_pos (by omega)]
  simp only [tnO, b1, e0, g1, show isOwnJ 5 (.slice (some ⟨5, 0, none⟩) n n) = true from rfl, show lnOf (.slice (some ⟨5, 0, none⟩) n n) = n from rfl, b2, b3, bR_set hv hb, ybQ hc, ybN hc, hoc, boL_nn, Bool.and_self, cond_true] at hn'
  exact (hn' _ _ _ _).trans (qq_ok ⟨rfl, rfl, rfl⟩)
 ·rintro vs ms os ⟨rfl, rfl, rfl⟩
  exact ⟨_, _, endYb _ _ _ _ _ _, _, cnYb hoc hc n x s (boL_nn _), .inl ⟨rfl, hP⟩⟩
 ·rintro id vs ms os hf
  exact hf.elim
 ·rintro vs ms os hf
  exact hf.elim
end
end Go.Proofs
namespace Go.Proofs
open Go Go.Ev Go.Num
def oYr (oc c : List Value) (n x : Nat) (d : List Value) : OO := oYb oc (c.set x (ow 3 n)) n ++ [oBo d 3]
section
variable {r : Mem} {n : Nat} {w a : Nat → Nat}
theorem yb_rnd (hm : ∀ b j u, tabM b j = some u → r b j = some u) (hn : n ≤ 12) (ha : ∀ x, x < n → a x < 2 ^ n) {c : List Value} (hc : m_nns c = true) (hcl : c.length = n) {x : Nat} (hx : x < n) {F : Fence} {kk : Nat} {γ : Gam} {W : World} (hF : Wide F) (hro : RoRel γ none F.round) (h0' : ∀ i, 0 ≤ i → γ i = none) {ox : Nat → Outs} {orr : Outs} :
  Go.Ev.Reach (SC r) 50334783 34 F kk γ W (.seq (.block 1 (.seq Yb_5 (.seq Yb_6 (.seq Yb_7 (.block 2 (.rangeFunc (.tmp 24) #[25] k_b1 k_b2)))))) Yb_9) (St.of lvYb (vYb n x) [] (oYb (orC n w a) c n)) (CanQ (SC r) 50334783 34 γ W ⟨lvYb, [.g, .t, .q [3], .g], fun vs ms os => vs = vYb n (x + 1) ∧ ms = [] ∧ os = oYr (orC n w a) c n x (boL (bR (a x) 16 n))⟩ ox orr) := by
 have nn := orC_nn n w a
 have hax := ha x hx
 have ha4 := lt12 hn hax
 have b1 : Nat.blt x n = true := Nat.ble_eq_true_of_le (by omega)
 have b2 : Nat.blt x 12 = true := Nat.ble_eq_true_of_le (by omega)
 refine Go.Ev.Reach.seqC (o1 := ⟨lvYb, [.g, .t, .q [5], .g], fun vs ms os => vs = vYb n x ∧ ms = [] ∧ os = oYr (orC n w a) c n x (boL (bR (a x) 16 n))⟩) (Go.Ev.Reach.blockC ?_) fun vs ms os hq => ?_
 ·refine Go.Ev.Reach.afterR (SC_ok r) TOk.nil (tm := .nil) (L := 1) (L' := 1) (d := 3) hF hro h0' (.step (.step .base)) (o1 := ⟨lvYbq, flYc, fun vs ms os => vs = vYbq n x ∧ ms = [] ∧ os = oYc (orC n w a) c n x (a x) (boL (bR (a x) 0 n))⟩) [] (fun p hp => nomatch hp) ?_ ?_
  ·rintro vs ms os ⟨rfl, rfl, rfl⟩
   have hl : ((mkA (oYc (orC n w a) c n x (a x) (boL (bR (a x) 0 n)))).new .defd).next = 7 := by kernel_rfl
   refine Go.Ev.Reach.blockC (Go.Ev.Reach.rangeC (SC_ok r) hF hro h0' (d := 6) (marks := [6]) (A1 := (mkA (oYc (orC n w a) c n x (a x) (boL (bR (a x) 0 n)))).new .defd) (g := 55) (first := []) (captured := [pq 3]) (S := fun v A' => ∃ os, A' = mkA os ∧ os = oYd (orC n w a) c n x (a x) (boL (bR (a x) 16 n)) .ready none) [] (fun p hp => nomatch hp) (by kernel_rfl) (by kernel_rfl) (by kernel_rfl) ?_ ?_)
   ·have hE : ((mkA (oYc (orC n w a) c n x (a x) (boL (bR (a x) 0 n)))).new .defd).new (.loop .ready none 50334783 ⟨[], bT lvYbq (vYbq n x) .nil⟩ 34 #[25] k_b1 k_b2 6) = mkA (oYd (orC n w a) c n x (a x) (boL (bR (a x) 0 n)) .ready none) := by kernel_rfl
    show SOk _ _ _ (((mkA (oYc (orC n w a) c n x (a x) (boL (bR (a x) 0 n)))).new .defd).new (.loop .ready none 50334783 ⟨[], bT lvYbq (vYbq n x) .nil⟩ 34 #[25] k_b1 k_b2 6)) _
    rw [hE, hl]
    have hnx : (mkA (oYd (orC n w a) c n x (a x) (boL (bR (a x) 0 n)) .ready none)).next = 8 := by kernel_rfl
    refine each_iter r hm (l := 7) (p := 3) (fl := flYd) (s := a x) (by omega) (J := fun v os => os = oYd (orC n w a) c n x (a x) (boL (bR (a x) v n)) .ready none) (E := fun os => os = oYd (orC n w a) c n x (a x) (boL (bR (a x) 16 n)) .ready none) (os0 := oYd (orC n w a) c n x (a x) (boL (bR (a x) 0 n)) .ready none)
     ⟨53, 3, 0, by kernel_rfl⟩ ?_ ?_ (fun os h => h) rfl (by kernel_rfl)
    ·rintro v os hv hbv rfl
     rw [bR_skip hbv]
    ·rintro v os hv hbv rfl
     rw [hnx]
     have hvn : v < n := by
      rcases Nat.lt_or_ge v n with q | q
      ·exact q
      ·rw [high hax q] at hbv; cases hbv
     exact yYb nn hc hcl hx hvn hbv rfl
   ·rintro u A' ⟨os, rfl, rfl⟩
    rw [hl]
    have hn' := ybT r n x (a x) (orC n w a) c (boL (bR (a x) 16 n))
    have q1 : m_mvq [0, 1, 4, 5] (c.set x (.slice (some ⟨5, 0, none⟩) n n)) = c.set x (ow 3 n) := by rw [mvq_set hc]; rfl
    have q2 : m_nopo (c.set x (ow 3 n)) = true := ybN hc 3 n x
    simp only [q1, q2, nn, boL_nn, Bool.and_self, cond_true] at hn'
    exact (hn' _ _ _).trans (qq_ok ⟨rfl, rfl, rfl⟩)
  ·have hn' := ybC r n x (orC n w a) c
   have e00 : (orC n w a)[0]? = some (I (n : Nat)) := rfl
   have e0 : ∀ o k : Nat, Nat.add o (Nat.mul k 1) = o + k := fun o k => by simp
   have gx : (orC n w a)[13 + x]? = some (V ((a x : Nat) : Int)) := orC_a (by omega)
   have b3 : Nat.blt (0 + x) c.length = true := by rw [hcl]; exact Nat.ble_eq_true_of_le (by omega)
   have b4 : Nat.ble n n = true := Nat.ble_eq_true_of_le (Nat.le_refl _)
   have b5 : Nat.ble n 1000000 = true := Nat.ble_eq_true_of_le (by omega)
   have p0 : decide (0 ≤ ((n : Nat) : Int)) = true := decide_eq_true (by omega)
   have eqs : ∀ v : Value, m_eqv (.slice (some ⟨2, 0, none⟩) n n) (.slice (some ⟨2, 0, none⟩) n n) = true := fun _ => by simp [m_eqv, veq]
   simp only [e00, isI_I, cond_true] at hn'
   dsimp +instances only [ofI_I] at hn'
   have q1 : m_mvq [0, 1, 3, 5, 2, 4] (c.set (0 + x) (.slice (some ⟨4, 0, none⟩) n n)) = c.set x (ow 5 n) := by rw [Nat.zero_add, mvq_set hc]; rfl
   have q2 : m_nopo (c.set x (ow 5 n)) = true := ybN hc 5 n x
   have i1 : m_eqv (I (x : Nat)) (I (x : Nat)) = true := by simp [m_eqv, veq]
   have i2 : m_eqv (I (n : Nat)) (I (n : Nat)) = true := by simp [m_eqv, veq]
   simp only [Int.ofNat_eq_natCast, Int.toNat_natCast, p0, b1, b2, b3, b4, b5, e0, gx, isV_V, i1, i2, eqs nilT, cond_true] at hn'
   dsimp +instances only [ofI_V] at hn'
   have zb : zerosL (n * 1) [.bool false] = boL (bR (a x) 0 n) := (zer_b n).trans (bR_zero _ n)
   have zb' : zerosL (Nat.mul n 1) [.bool false] = boL (bR (a x) 0 n) := zb
   simp only [q1, q2, nn, zb, zb', boL_nn, Bool.and_self, cond_true] at hn'
   exact (hn' _ _ _).trans (qq_ok ⟨rfl, rfl, rfl⟩)
 ·obtain ⟨rfl, rfl, rfl⟩ := hq
  refine Go.Ev.Reach.segR (SC_ok r) TOk.nil (tm := .nil) (L := 1) (L' := 1) (d := 1) hF hro h0' [] (fun p hp => nomatch hp) ?_
  have hn' := ybG r n x (orC n w a) c (boL (bR (a x) 16 n))
  have q1 : m_mvq [0, 1, 2, 3] (c.set x (.slice (some ⟨3, 0, none⟩) n n)) = c.set x (ow 3 n) := by rw [mvq_set hc]; rfl
  have q2 : m_nopo (c.set x (ow 3 n)) = true := ybN hc 3 n x
  simp only [q1, q2, nn, boL_nn, Bool.and_self, cond_true, Int.ofNat_eq_natCast] at hn'
  rw [w1k x (by omega)] at hn'
  exact (hn' _ _ _ _).trans (qq_ok ⟨rfl, rfl, rfl⟩)
theorem yb_ok (hm : ∀ b j u, tabM b j = some u → r b j = some u) (h1 : 1 ≤ n) (hn : n ≤ 12) (ha : ∀ x, x < n → a x < 2 ^ n) {T : List (List Bool)} (hTl : T.length = n) (hrl : ∀ i, i < n → (T.getD i []).length = n) (hT : ∀ x y, x < n → y < n → gT T x y = (a x).testBit y) :
  SOkG Tryd.prog r 21 [.agg ⟨orC n w a⟩] emptyA fun v A r1 => Mem.le r r1 ∧ ∃ c, v = ow 0 n ∧ A = mkA [oTb c 0] ∧ TabC r1 c T ∧ m_nns c = true := by
 have nn := orC_nn n w a
 refine callOG SC_ok (by kernel_rfl) ((bodySC r _).trans Yb_eq) (nt := 34) (by kernel_rfl) (rs := [.tmp 2]) (by kernel_rfl) 50334783 rfl ⟨[2], fun r1 vs ms os => ms = [] ∧ Mem.le r r1 ∧ ∃ c, vs = [some (ow 0 n)] ∧ os = [oTb c 0] ∧ TabC r1 c T ∧ m_nns c = true⟩ ?_ fun γ W F kk hwr hF hro h0' => ?_
 ·rintro r1 vs ms os ⟨rfl, hle, c, rfl, rfl, hc, hcn⟩
  exact ⟨_, mkA [oTb c 0], by kernel_rfl, hle, c, rfl, rfl, hc, hcn⟩
 have h0' : ∀ i, 0 ≤ i → γ i = none := h0'
 refine ReachG.after3 (SC_ok r) TOk.nil (tm := .nil) (L := 1) (L' := 1) (d := 1) hF hro h0' (.step (.step .base)) (orr := Outs.no)
  (o1 := ⟨lvYb, [.g, .t, .g], fun vs ms os => vs = vYb n 0 ∧ ms = [] ∧ os = oYb (orC n w a) (List.replicate n nilT) n⟩)
  (g2 := ⟨[3], fun r1 vs ms os => ms = [] ∧ Mem.le r r1 ∧ ∃ c, vs = [some (pq 0)] ∧ os = [oPb (ow 1 n) 0, oTb c 1] ∧ TabU r1 c T n n⟩) (fun _ _ _ h => h.elim) ?_ ?_ ?_
 ·rintro vs ms os ⟨rfl, rfl, rfl⟩
  refine ReachG.blockC (ReachG.loopC (j := n) (lv := lvYb) (I := fun j r1 vs ms os => ∃ x : Nat, x ≤ n ∧ j = n - x ∧ ms = [] ∧ Mem.le r r1 ∧ ∃ c, vs = vYb n x ∧ os = oYb (orC n w a) c n ∧ TabU r1 c T n x) (fun j r1 vs ms os hI => ?_) ⟨0, by omega, rfl, rfl, Mem.le_refl r, _, rfl, rfl, by simp, nns_rep _ rfl n, fun i v l h => absurd h (by omega)⟩)
  obtain ⟨x, hx, rfl, rfl, hle, c, rfl, rfl, hU⟩ := hI
  have hcl := hU.1
  have hc := hU.2.1
  have hm1 : ∀ b j u, tabM b j = some u → r1 b j = some u := fun b j u h => hle _ _ _ (hm _ _ _ h)
  have hB := ybB r1 n x (orC n w a) c
  simp only [Int.ofNat_eq_natCast, nn, hc, Bool.and_self, Bool.and_true, cond_true] at hB
  by_cases cx : x < n
  ·simp only [dT (show (x : Int) < (n : Int) by omega), cond_true] at hB
   refine ReachG.lift (on := ⟨lvYb, [.g, .t, .q [3], .g], fun vs ms os => vs = vYb n (x + 1) ∧ ms = [] ∧ os = oYr (orC n w a) c n x (boL (bR (a x) 16 n))⟩) (ox := fun j => if j = 0 then ⟨[3], [.t, .g], fun _ _ _ => False⟩ else Outs.no) (orr := Outs.no)
    (Go.Ev.Reach.afterR (SC_ok r1) TOk.nil (tm := .nil) (L := 1) (L' := 1) (d := 1) hF hro h0' (.step .base) (o1 := ⟨lvYb, [.g, .t, .g], fun vs ms os => vs = vYb n x ∧ ms = [] ∧ os = oYb (orC n w a) c n⟩) [(0, ⟨[3], [.t, .g], fun _ _ _ => False⟩)] (fun p hp => by simp only [List.mem_cons, List.not_mem_nil, or_false] at hp; subst hp; rfl) (fun vs ms os hq => ?_) ((hB _ _ _ _).trans (qq_ok ⟨rfl, rfl, rfl⟩))) ?_ ?_ (fun _ _ _ h => h.elim)
   ·obtain ⟨rfl, rfl, rfl⟩ := hq
    exact yb_rnd hm1 hn ha hc hcl cx hF hro h0'
   ·rintro vs ms os ⟨rfl, rfl, rfl⟩
    refine IsG.freeze (os0 := oYb (orC n w a) (c.set x (ow 3 n)) n) (j := 3) h0' rfl (Nat.zero_le _) rfl (boL_nn _) fun b' o' r2 hle2 hrow => ?_
    have f1 : frzV 3 b' o' (ow 3 n) = some (RS b' o' n n) := by
     show (match (Nat.beq n 0 && Nat.beq n unkE) with | true => _ | false => _) = _
     rw [show Nat.beq n unkE = false from natFx (by unfold unkE; omega), Bool.and_false]
     show some (Value.slice (some ⟨b', o' + 0, some 0⟩) n (frzC n)) = _
     have : frzC n = n := by
      unfold frzC
      rw [show Nat.blt n unk = true from Nat.ble_eq_true_of_le (by unfold unk; omega)]
     rw [this]; rfl
    refine ⟨vYb n (x + 1), oYb (orC n w a) (c.set x (RS b' o' n n)) n, rfl, ?_, n - (x + 1), by omega, x + 1, cx, rfl, rfl, Mem.le_trans hle hle2, _, rfl, rfl, hU.set hle2 rfl fun l hl => ?_⟩
    ·have e1 := frzVs_set f1 x hc
     have e2 := frzVs_nn 3 b' o' (orC n w a) nn
     show frzAs 3 b' o' [oOr (orC n w a) 0, oPb (ow 2 n) 1, oTb (c.set x (ow 3 n)) 2] = _
     have e3 : frzVs 3 b' o' [ow 2 n] = some [ow 2 n] := rfl
     unfold oOr oTb oPb
     simp only [frzAs, frzA, e1, e2, e3]
     rfl
    ·have hr := bR_row (T := T) (x := x) (s := a x) (by omega) (hrl x cx) fun y hy => hT x y cx hy
     rw [List.getD_eq_getElem?_getD, hl] at hr
     have hr : l = bR (a x) 16 n := hr
     subst hr
     refine .inr ⟨fun h => by have := bR_len (a x) 16 n; rw [h] at this; simp at this; omega, b', o', n, by rw [bR_len], fun j y hy => hrow j _ ?_⟩
     unfold boL
     rw [List.getElem?_map, hy]; rfl
   ·intro id vs ms os h
    by_cases e : id = 0
    ·subst e; exact h.elim
    ·simp only [if_neg e] at h; exact h.elim
  ·obtain rfl : x = n := by omega
   simp only [dF (show ¬ (x : Int) < (x : Int) by omega), cond_false] at hB
   refine ReachG.lift (on := ⟨lvYb, [.g, .t, .g], fun _ _ _ => False⟩) (ox := fun j => if j = 0 then ⟨[3], [.t, .g], fun vs ms os => vs = [some (pq 0)] ∧ ms = [] ∧ os = [oPb (ow 1 x) 0, oTb c 1]⟩ else Outs.no) (orr := Outs.no)
    (Go.Ev.Reach.afterR (SC_ok r1) TOk.nil (tm := .nil) (L := 1) (L' := 1) (d := 1) hF hro h0' (.step .base) (o1 := ⟨lvYb, [.g, .t, .g], fun _ _ _ => False⟩) [(0, ⟨[3], [.t, .g], fun vs ms os => vs = [some (pq 0)] ∧ ms = [] ∧ os = [oPb (ow 1 x) 0, oTb c 1]⟩)] (fun p hp => by simp only [List.mem_cons, List.not_mem_nil, or_false] at hp; subst hp; rfl) (fun vs ms os hq => hq.elim) ((hB _ _ _ _).trans (qq_ok ⟨rfl, rfl, rfl⟩))) (fun _ _ _ h => h.elim) ?_ (fun _ _ _ h => h.elim)
   intro id vs ms os h
   by_cases e : id = 0
   ·subst e
    obtain ⟨rfl, rfl, rfl⟩ := h
    exact IsG.here ⟨rfl, hle, c, rfl, rfl, hU⟩
   ·simp only [if_neg e] at h; exact h.elim
 ·rintro r1 vs ms os ⟨rfl, hle, c, rfl, rfl, hU⟩
  obtain ⟨hcl, hc, hrow⟩ := hU
  refine ReachG.segR (SC_ok r1) TOk.nil (tm := .nil) (L := 1) (L' := 1) (d := 1) (n0 := 0) hF hro h0' [] (on := ⟨[2], [.g], fun _ _ _ => False⟩) (ox := fun _ => Outs.no) (orr := ⟨[2], [.g], fun vs ms os => ms = [] ∧ vs = [some (ow 0 n)] ∧ os = [oTb c 0]⟩) (fun p hp => nomatch hp) ?_ (fun _ _ _ h => h.elim) (fun _ _ _ _ h => h.elim) ?_
  ·have hn' := ybH r1 n c
   simp only [hc, Bool.and_true, cond_true] at hn'
   exact (hn' _ _ _ _).trans (qq_ok ⟨rfl, rfl, rfl⟩)
  ·rintro vs ms os ⟨rfl, rfl, rfl⟩
   exact IsG.here ⟨rfl, hle, c, rfl, rfl, ⟨by rw [hcl, hTl], fun i v l h1 h2 => hrow i v l (by have := (List.getElem?_eq_some_iff.1 h1).1; omega) h1 h2⟩, hc⟩
 ·have hn' := ybA r n w a
  have b4 : Nat.ble n n = true := Nat.ble_eq_true_of_le (Nat.le_refl _)
  have b5 : Nat.ble n 1000000 = true := Nat.ble_eq_true_of_le (by omega)
  simp only [tnO, b4, b5, zer_n, nns_rep nilT rfl n, show m_nns (List.replicate n (Value.slice none 0 0)) = true from nns_rep nilT rfl n, nn, Bool.and_self, cond_true] at hn'
  exact (hn' _ _ _ _).trans (qq_ok ⟨rfl, rfl, rfl⟩)
end
end Go.Proofs
namespace Go.Proofs
open Go Go.Ev Go.Num
noncomputable def cYf : Code := bodyOf S0 6
noncomputable def Yf_0 : Code := (lc cYf)
noncomputable def Yf_1 : Code := (lc (rc cYf))
noncomputable def Yf_2 : Code := (lc (rc (rc cYf)))
noncomputable def Yf_3 : Code := (lc (rc (rc (rc cYf))))
noncomputable def Yf_4 : Code := (rc (rc (rc (rc cYf))))
theorem Yf_eq : cYf = (.seq Yf_0 (.seq Yf_1 (.seq Yf_2 (.seq Yf_3 Yf_4)))) := by kernel_rfl
def oSp2 (c : List Value) (i : Nat) : Option AObj := some (.cells c 75 i 2)
noncomputable def tFr (sl : Value) (n : Nat) (c : List Value) : Tbl := tcons 19 (eRi sl n c) fun _ => none
noncomputable def tFo (sl : Value) (oc : List Value) : Tbl := tcons 20 (eVal [sl] (.agg ⟨oc⟩)) fun _ => none
def enF (sl : Value) (oc : List Value) : List (Nat × Value) × Tr Value := ([(15, .agg ⟨oc⟩), (14, sl)], bT [4] [some sl] .nil)
theorem yfA (r : Mem) (b off n cap : Nat) (fs : FnsC) (K : KO) (kx : Nat → KS) (kr : KS) : run (SC r) 61 17 1 Yf_0 fs none (rbK 0 [0] [] K) kx kr (sc0 61 [RS2 b off n cap]) (tr0 61 [RS2 b off n cap]) [] emptyA =
    K [some (.slice (some ⟨b, off, some 0⟩) n cap)] [] [] := by kernel_rfl
theorem yfB (r : Mem) (b off n cap : Nat) (c : List Value) (K : KO) (kx : Nat → KS) (kr : KS) : run (SC r) 61 17 1 Yf_1 (lvlT (SC r) (tFr (RS2 b off n cap) n c) .nil 1 1) none (rbK 0 [4, 5] [] K) kx kr [] (bT [0] [some (RS2 b off n cap)] .nil) [] (mkA []) =
    bif m_sv [.slice (some ⟨b, off, some 0⟩) n cap] [.slice (some ⟨b, off, some 0⟩) n cap] then bif m_nns c && true then K [some (.slice (some ⟨0, 0, none⟩) n n), some (I (Int.ofNat 0))] [] [some (.cells c 75 0 2)] else F4 else F4 := by kernel_rfl
theorem yfC (r : Mem) (n : Nat) (c : List Value) (fs : FnsC) (K : KO) (kx : Nat → KS) (kr : KS) : run (SC r) 61 17 1 Yf_2 fs none (rbK 0 [4] [] K) kx kr [] (bT [4, 5] [some (ow 0 n), some (I 0)] .nil) [] (mkA [oSp2 c 0]) =
    bif m_nns c && true then K [some (.slice (some ⟨0, 0, none⟩) n n)] [] [some (.cells c 75 0 2)] else F4 := by kernel_rfl
theorem yfD (r : Mem) (b off n cap : Nat) (oc : List Value) (K : KS) : preK (SC r) 61 17 Yf_3 2 (lvlT (SC r) (tFo (RS2 b off n cap) oc) .nil 1 1) K [] (bT [4] [some (RS2 b off n cap)] .nil) [] (mkA []) =
    bif m_sv [.slice (some ⟨b, off, some 0⟩) n cap] [.slice (some ⟨b, off, some 0⟩) n cap] then K [(15, .agg ⟨oc⟩), (14, .slice (some ⟨b, off, some 0⟩) n cap)] (.node .nil none (.node (.node .nil (some (.slice (some ⟨b, off, some 0⟩) n cap)) .nil) none .nil)) [] (AW.mk 0 .nil .nil) else F4 := by kernel_rfl
theorem yfE (r : Mem) (b off n cap : Nat) (oc c : List Value) (fs : FnsC) (K : KO) : tailK (SC r) 61 17 Yf_3 2 fs (rbK 0 [2, 3] [] K) (ow 0 n) (enF (RS2 b off n cap) oc).1 (enF (RS2 b off n cap) oc).2 [] (mkA [oTb c 0]) =
    bif m_nns c && true then K [some (.slice (some ⟨0, 0, none⟩) n n), some (I (Int.ofNat 0))] [] [some (.cells c 64 0 1)] else F4 := by kernel_rfl
theorem yfF (r : Mem) (n : Nat) (c : List Value) (fs : FnsC) (K : KO) (KR : KO) (kx : Nat → KS) : run (SC r) 61 17 1 Yf_4 fs none (rbK 0 [2, 3] [] K) kx (rbK 0 [2, 3] [] KR) [] (bT [2, 3] [some (ow 0 n), some (I 0)] .nil) [] (mkA [oTb c 0]) =
    bif m_nns c && true then KR [some (.slice (some ⟨0, 0, none⟩) n n), some (I (Int.ofNat 0))] [] [some (.cells c 64 0 1)] else F4 := by kernel_rfl
end Go.Proofs
namespace Go.Proofs
open Go Go.Ev Go.Num
theorem rwO_bit (T : List (List Bool)) (v : Nat) : ∀ k j, (rwO T v k).testBit j = (decide (j < k) && gT T v j)
 | 0, j => by simp [rwO]
 | k + 1, j => by
  have ih := rwO_bit T v k j
  rw [rwO]
  by_cases c : gT T v k = true
  ·rw [if_pos c, Nat.testBit_or, ih, Nat.testBit_two_pow]
   by_cases e : k = j
   ·subst e; simp [c]
   ·by_cases h : j < k
    ·simp [h, e, show j < k + 1 by omega]
    ·simp [h, e, show ¬ j < k + 1 by omega]
  ·rw [if_neg c, ih]
   by_cases e : k = j
   ·subst e; simp at c; simp [c]
   ·by_cases h : j < k
    ·simp [h, show j < k + 1 by omega]
    ·simp [h, show ¬ j < k + 1 by omega]
theorem eVal_ok {r : Mem} {f : Nat} {a0 : List Value} {v : Value} (ha : roVs a0 = true) (h : GrT Tryd.prog r f a0 v) : EOk (SC r) f (eVal a0 v) := EOk.ent fun args A hg => by
 have hs := @of_decide_eq_true _ (Classical.propDecidable _) hg
 subst hs
 exact h.ro ha A
theorem frz_n (j b o n : Nat) (h : n < unk) : frzV j b o (.slice (some ⟨j, 0, none⟩) n n) = some (.slice (some ⟨b, o, some 0⟩) n n) := by
 show (match Nat.beq j j with | true => (match (Nat.beq n 0 && Nat.beq n unkE) with | true => some (Value.slice (some ⟨j, 0, none⟩) n n) | false => some (Value.slice (some ⟨b, o + 0, some 0⟩) n (frzC n))) | false => some (Value.slice (some ⟨j, 0, none⟩) n n)) = _
 rw [Nat.beq_refl, show Nat.beq n unkE = false from natFx (by unfold unkE; unfold unk at h; omega), Bool.and_false]
 have : frzC n = n := by
  unfold frzC
  rw [show Nat.blt n unk = true from Nat.ble_eq_true_of_le h]
 rw [this]; rfl
section
variable {r : Mem} {b off n cap : Nat} {z : Nat → Int}
theorem fi_ok (hm : ∀ b j u, tabM b j = some u → r b j = some u) (hz : rowAt r b off (2 * n) z) (h1 : 1 ≤ n) (hn : n ≤ 12) (hok : okS z n) : SOkG Tryd.prog r 6 [RS2 b off n cap] emptyA fun v A r1 => Mem.le r r1 ∧ ∃ c, v = .tuple ⟨[ow 0 n, I 0]⟩ ∧ A = mkA [oTb c 0] ∧ TabC r1 c (tS z n) ∧ m_nns c = true := by
 refine callOG SC_ok (by kernel_rfl) ((bodySC r _).trans Yf_eq) (nt := 17) (by kernel_rfl) (rs := [.tmp 2, .tmp 3]) (by kernel_rfl) 61 rfl ⟨[2, 3], fun r1 vs ms os => ms = [] ∧ Mem.le r r1 ∧ ∃ c, vs = [some (ow 0 n), some (I 0)] ∧ os = [oTb c 0] ∧ TabC r1 c (tS z n) ∧ m_nns c = true⟩ ?_ fun γ W F kk hwr hF hro h0' => ?_
 ·rintro r1 vs ms os ⟨rfl, hle, c, rfl, rfl, hc, hcn⟩
  exact ⟨_, mkA [oTb c 0], by kernel_rfl, hle, c, rfl, rfl, hc, hcn⟩
 have h0' : ∀ i, 0 ≤ i → γ i = none := h0'
 refine ReachG.seqC (o1 := ⟨[0], fun r1 vs ms os => r1 = r ∧ vs = [some (RS2 b off n cap)] ∧ ms = [] ∧ os = []⟩) (ReachG.segR (SC_ok r) TOk.nil (tm := .nil) (L := 1) (L' := 1) (d := 1) (n0 := 0) hF hro h0' [] (on := ⟨[0], [], fun vs ms os => vs = [some (RS2 b off n cap)] ∧ ms = [] ∧ os = []⟩) (ox := fun _ => Outs.no) (orr := Outs.no) (fun p hp => nomatch hp) ((yfA r b off n cap _ _ _ _).trans (qq_ok ⟨rfl, rfl, rfl⟩)) (fun vs ms os h => IsG.here ⟨rfl, h⟩) (fun _ _ _ _ h => h.elim) (fun _ _ _ h => h.elim)) fun r1 vs ms os hq => ?_
 obtain ⟨rfl, rfl, rfl, rfl⟩ := hq
 have hxn : m_nns (ixN z (2 * n)) = true := ix_nn _ _
 refine ReachG.seqC (o1 := ⟨[4, 5], fun r2 vs ms os => r2 = r1 ∧ vs = [some (ow 0 n), some (I 0)] ∧ ms = [] ∧ os = [oSp2 (ixN z (2 * n)) 0]⟩) (ReachG.segR (SC_ok r1) (t := tFr (RS2 b off n cap) n (ixN z (2 * n))) (TOk.nil.cons (eRi_ok hz h1 hn hok)) (tm := .nil) (L := 1) (L' := 1) (d := 1) (n0 := 0) hF hro h0' [] (on := ⟨[4, 5], [], fun vs ms os => vs = [some (ow 0 n), some (I 0)] ∧ ms = [] ∧ os = [oSp2 (ixN z (2 * n)) 0]⟩) (ox := fun _ => Outs.no) (orr := Outs.no) (fun p hp => nomatch hp) ?_ (fun vs ms os h => IsG.here ⟨rfl, h⟩) (fun _ _ _ _ h => h.elim) (fun _ _ _ h => h.elim)) fun r2 vs ms os hq => ?_
 ·have hn' := yfB r1 b off n cap (ixN z (2 * n))
  simp only [sv_rfl, hxn, Bool.and_true, cond_true] at hn'
  exact (hn' _ _ _).trans (qq_ok ⟨rfl, rfl, rfl⟩)
 obtain ⟨rfl, rfl, rfl, rfl⟩ := hq
 refine ReachG.seqC (o1 := ⟨[4], fun r3 vs ms os => ∃ b' o', Mem.le r2 r3 ∧ rowAt r3 b' o' (2 * n) z ∧ vs = [some (RS2 b' o' n n)] ∧ ms = [] ∧ os = []⟩) (ReachG.segR (SC_ok r2) TOk.nil (tm := .nil) (L := 1) (L' := 1) (d := 1) (n0 := 0) hF hro h0' [] (on := ⟨[4], [], fun vs ms os => vs = [some (ow 0 n)] ∧ ms = [] ∧ os = [oSp2 (ixN z (2 * n)) 0]⟩) (ox := fun _ => Outs.no) (orr := Outs.no) (fun p hp => nomatch hp) ?_ ?_ (fun _ _ _ _ h => h.elim) (fun _ _ _ h => h.elim)) fun r3 vs ms os hq => ?_
 ·have hn' := yfC r2 n (ixN z (2 * n))
  simp only [hxn, Bool.and_true, cond_true] at hn'
  exact (hn' _ _ _ _).trans (qq_ok ⟨rfl, rfl, rfl⟩)
 ·rintro vs ms os ⟨rfl, rfl, rfl⟩
  refine IsG.freeze (os0 := []) (j := 0) h0' rfl (Nat.zero_le _) rfl hxn fun b' o' r3 hle2 hrow => ?_
  have hf := frz_n 0 b' o' n (by unfold unk; omega)
  exact ⟨[some (RS2 b' o' n n)], [], by simp only [frzO, hf], rfl, b', o', hle2, fun j hj => hrow j _ (ix_get hj), rfl, rfl, rfl⟩
 obtain ⟨b', o', hle, hz', rfl, rfl, rfl⟩ := hq
 have hm3 : ∀ b j u, tabM b j = some u → r3 b j = some u := fun b j u h => hle _ _ _ (hm _ _ _ h)
 have hTl := tS_len z n
 have htab := yb_ok (w := wB (tS z n) n 0) (a := wA (tS z n) n 0) (T := tS z n) hm3 h1 hn (fun x hx => by
  unfold wA
  rw [if_pos hx, hTl]
  exact rwO_lt _ _ _) hTl (fun i hi => tS_rl hi) (fun x y hx hy => by
  unfold wA
  rw [if_pos hx, rwO_bit, hTl, decide_eq_true hy, Bool.true_and])
 refine ReachG.seqC (o1 := ⟨[2, 3], fun r4 vs ms os => Mem.le r3 r4 ∧ ms = [] ∧ ∃ c, vs = [some (ow 0 n), some (I 0)] ∧ os = [oTb c 0] ∧ TabC r4 c (tS z n) ∧ m_nns c = true⟩) (ReachG.callC (fl := []) SC_ok hF h0' (t := tFo (RS2 b' o' n n) (orC n (wB (tS z n) n 0) (wA (tS z n) n 0))) (TOk.nil.cons (eVal_ok rfl (yo_ok hz' hn))) (tm := .nil) (L := 1) (d := 1) 2 (s1 := (enF (RS2 b' o' n n) (orC n (wB (tS z n) n 0) (wA (tS z n) n 0))).1) (b1 := (enF (RS2 b' o' n n) (orC n (wB (tS z n) n 0) (wA (tS z n) n 0))).2) (ms1 := []) (A1 := mkA []) (A2 := emptyA) (i := 21) (args := [.agg ⟨orC n (wB (tS z n) n 0) (wA (tS z n) n 0)⟩]) ?_ (by kernel_rfl) htab ?_) fun r4 vs ms os hq => ?_
 ·have hn' := yfD r3 b' o' n n (orC n (wB (tS z n) n 0) (wA (tS z n) n 0))
  simp only [sv_rfl, cond_true] at hn'
  exact (hn' _).trans (qn_ok rfl)
 ·rintro v A' r4 ⟨hle4, c, rfl, rfl, hT, hc⟩
  refine ⟨fun _ => none, TOk.nil, .nil, 1, 1, ?_⟩
  have hn' := yfE r4 b' o' n n (orC n (wB (tS z n) n 0) (wA (tS z n) n 0)) c
  simp only [hc, Bool.and_true, cond_true] at hn'
  exact (hn' _ _).trans (qq_ok ⟨hle4, rfl, c, rfl, rfl, hT, hc⟩)
 obtain ⟨hle4, rfl, c, rfl, rfl, hT, hc⟩ := hq
 refine ReachG.segR (SC_ok r4) TOk.nil (tm := .nil) (L := 1) (L' := 1) (d := 1) (n0 := 0) hF hro h0' [] (on := ⟨[2, 3], [], fun _ _ _ => False⟩) (ox := fun _ => Outs.no) (orr := ⟨[2, 3], [], fun vs ms os => vs = [some (ow 0 n), some (I 0)] ∧ ms = [] ∧ os = [oTb c 0]⟩) (fun p hp => nomatch hp) ?_ (fun _ _ _ h => h.elim) (fun _ _ _ _ h => h.elim) ?_
 ·have hn' := yfF r4 n c
  simp only [hc, Bool.and_true, cond_true] at hn'
  exact (hn' _ _ _ _).trans (qq_ok ⟨rfl, rfl, rfl⟩)
 ·rintro vs ms os ⟨rfl, rfl, rfl⟩
  exact IsG.here ⟨rfl, Mem.le_trans hle hle4, c, rfl, rfl, hT, hc⟩
end
end Go.Proofs
namespace Go.Proofs
open Go Go.Ev Go.Num
noncomputable def cEn : Code := bodyOf S0 18
noncomputable def En_0 : Code := (lc cEn)
noncomputable def En_1 : Code := (lc (rc cEn))
noncomputable def En_2 : Code := (lc (lc (rc (rc cEn))))
noncomputable def En_3 : Code := (lc (ic (ic (rc (lc (rc (rc cEn)))))))
noncomputable def En_4 : Code := (lc (ic (lc (rc (ic (ic (rc (lc (rc (rc cEn))))))))))
noncomputable def En_5 : Code := (lc (ic (ic (rc (ic (lc (rc (ic (ic (rc (lc (rc (rc cEn)))))))))))))
noncomputable def En_6 : Code := (lc (ic (lc (rc (ic (ic (rc (ic (lc (rc (ic (ic (rc (lc (rc (rc cEn))))))))))))))))
noncomputable def En_7 : Code := (lc (lc (rc (ic (lc (rc (ic (ic (rc (ic (lc (rc (ic (ic (rc (lc (rc (rc cEn))))))))))))))))))
noncomputable def En_8 : Code := (ic (ic (rc (lc (rc (ic (lc (rc (ic (ic (rc (ic (lc (rc (ic (ic (rc (lc (rc (rc cEn))))))))))))))))))))
noncomputable def En_9 : Code := (rc (rc (ic (lc (rc (ic (ic (rc (ic (lc (rc (ic (ic (rc (lc (rc (rc cEn)))))))))))))))))
noncomputable def En_10 : Code := (rc (rc (ic (ic (rc (ic (lc (rc (ic (ic (rc (lc (rc (rc cEn))))))))))))))
noncomputable def En_11 : Code := (rc (rc (ic (ic (rc (lc (rc (rc cEn))))))))
noncomputable def En_12 : Code := (rc (rc (rc cEn)))
theorem En_eq : cEn = (.seq En_0 (.seq En_1 (.seq (.seq En_2 (.block 0 (.loop (.seq En_3 (.seq (.block 1 (.seq En_4 (.block 2 (.loop (.seq En_5 (.seq (.block 3 (.seq En_6 (.seq (.seq En_7 (.block 4 (.loop En_8))) En_9))) En_10)))))) En_11))))) En_12))) := by kernel_rfl
def lvE1 : List Nat := [0, 3, 4]
def vE1 (b off n cap : Nat) (o : Value) (i : Nat) : OV := [some (RS2 b off n cap), some o, some (I (i : Nat))]
def lvE3 : List Nat := [0, 3, 4, 5]
def vE3 (b off n cap : Nat) (o : Value) (i k : Nat) : OV := [some (RS2 b off n cap), some o, some (I (i : Nat)), some (I (k : Nat))]
def lvE4 : List Nat := [0, 3, 4, 5, 6, 7]
def vE4 (b off n cap : Nat) (o : Value) (i k : Nat) (f : Bool) (m : Nat) : OV := [some (RS2 b off n cap), some o, some (I (i : Nat)), some (I (k : Nat)), some (.bool f), some (I (m : Nat))]
def lvE5 : List Nat := [0, 3, 4, 5, 6]
def vE5 (b off n cap : Nat) (o : Value) (i k : Nat) (f : Bool) : OV := [some (RS2 b off n cap), some o, some (I (i : Nat)), some (I (k : Nat)), some (.bool f)]
def mEn : Nat := 253
noncomputable def En_b : Code := .seq En_5 (.seq (.block 3 (.seq En_6 (.seq (.seq En_7 (.block 4 (.loop En_8))) En_9))) En_10)
theorem En_eq2 : cEn = (.seq En_0 (.seq En_1 (.seq (.seq En_2 (.block 0 (.loop (.seq En_3 (.seq (.block 1 (.seq En_4 (.block 2 (.loop En_b)))) En_11))))) En_12))) := En_eq
theorem edA (r : Mem) (b off n cap : Nat) (fs : FnsC) (K : KO) (kx : Nat → KS) (kr : KS) : run (SC r) mEn 50 1 (.seq En_0 (.seq En_1 En_2)) fs none (rbK 0 lvE1 [] K) kx kr (sc0 mEn [RS2 b off n cap]) (tr0 mEn [RS2 b off n cap]) [] emptyA =
    K [some (RS2 b off n cap), some (.slice none 0 0), some (I (Int.ofNat 0))] [] [] := by kernel_rfl
theorem edBn (r : Mem) (b off n cap : Nat) (fs : FnsC) (K : KO) (KX : Nat → KO) (kr : KS) : run (SC r) mEn 50 1 En_3 fs none (rbK 0 lvE1 [] K) (fun j => rbK 0 [3] [] (KX j)) kr [] (bT lvE1 (vE1 b off n cap nilT 0) .nil) [] (mkA []) =
    bif decide (0 < Int.ofNat n) then K [some (RS2 b off n cap), some (.slice none 0 0), some (I (Int.ofNat 0))] [] [] else KX 0 [some (.slice none 0 0)] [] [] := by kernel_rfl
theorem edBr (r : Mem) (b off n cap q i : Nat) (c : List Value) (fs : FnsC) (K : KO) (KX : Nat → KO) (kr : KS) : run (SC r) mEn 50 1 En_3 fs none (rbK 0 lvE1 [] K) (fun j => rbK 0 [3] [] (KX j)) kr [] (bT lvE1 (vE1 b off n cap (gx 0 q) i) .nil) [] (mkA [oI1 c 0]) =
    bif decide (Int.ofNat i < Int.ofNat n) then bif m_nns c && true then K [some (RS2 b off n cap), some (gx 0 q), some (I (Int.ofNat i))] [] [some (.cells c 3 0 1)] else F4 else bif m_nns c && true then KX 0 [some (gx 0 q)] [] [some (.cells c 3 0 1)] else F4 := by kernel_rfl
theorem edCn (r : Mem) (b off n cap : Nat) (fs : FnsC) (K : KO) (kx : Nat → KS) (kr : KS) : run (SC r) mEn 50 1 En_4 fs none (rbK 0 lvE3 [] K) kx kr [] (bT lvE1 (vE1 b off n cap nilT 0) .nil) [] (mkA []) =
    K [some (RS2 b off n cap), some (.slice none 0 0), some (I (Int.ofNat 0)), some (I (Int.ofNat 0))] [] [] := by kernel_rfl
theorem edCr (r : Mem) (b off n cap q i : Nat) (c : List Value) (fs : FnsC) (K : KO) (kx : Nat → KS) (kr : KS) : run (SC r) mEn 50 1 En_4 fs none (rbK 0 lvE3 [] K) kx kr [] (bT lvE1 (vE1 b off n cap (gx 0 q) i) .nil) [] (mkA [oI1 c 0]) =
    bif m_nns c && true then K [some (RS2 b off n cap), some (gx 0 q), some (I (Int.ofNat i)), some (I (Int.ofNat 0))] [] [some (.cells c 3 0 1)] else F4 := by kernel_rfl
theorem edKn (r : Mem) (b off n cap : Nat) (K : KO) (kx : Nat → KS) (kr : KS) : run (SC r) mEn 50 3 En_b (lvlT (SC r) (fun _ => none) .nil 1 1) none (rbK 0 lvE3 [] K) kx kr [] (bT lvE3 (vE3 b off n cap nilT 0 0) .nil) [] (mkA []) =
    bif Nat.blt 0 n then Option.casesOn (r b (Nat.add (Nat.add off 0) 0)) (.fail 423) fun val => bif isI IntKind.i64 val then K [some (RS2 b off n cap), some (.slice (some ⟨0, 0, none⟩) 1 unk), some (I (Int.ofNat 0)), some (I (Int.ofNat 1))] [] [some (.cells [I (ofI val)] 3 0 1)] else F4 else F4 := by kernel_rfl
theorem edD (r : Mem) (b off n cap q i k : Nat) (c : List Value) (fs : FnsC) (K : KO) (KX : Nat → KO) (kr : KS) : run (SC r) mEn 50 1 En_5 fs none (rbK 0 lvE3 [] K) (fun j => rbK 0 lvE1 [] (KX j)) kr [] (bT lvE3 (vE3 b off n cap (gx 0 q) i k) .nil) [] (mkA [oI1 c 0]) =
    bif decide (Int.ofNat k < 2) then bif m_nns c && true then K [some (RS2 b off n cap), some (gx 0 q), some (I (Int.ofNat i)), some (I (Int.ofNat k))] [] [some (.cells c 3 0 1)] else F4 else bif m_nns c && true then KX 2 [some (RS2 b off n cap), some (gx 0 q), some (I (Int.ofNat i))] [] [some (.cells c 3 0 1)] else F4 := by kernel_rfl
theorem edE (r : Mem) (b off n cap q i k : Nat) (c : List Value) (fs : FnsC) (K : KO) (kx : Nat → KS) (kr : KS) : run (SC r) mEn 50 1 (.seq En_6 En_7) fs none (rbK 0 lvE4 [] K) kx kr [] (bT lvE3 (vE3 b off n cap (gx 0 q) i k) .nil) [] (mkA [oI1 c 0]) =
    bif m_nns c && true then K [some (RS2 b off n cap), some (gx 0 q), some (I (Int.ofNat i)), some (I (Int.ofNat k)), some (.bool true), some (I (Int.ofNat 0))] [] [some (.cells c 3 0 1)] else F4 := by kernel_rfl
theorem edF (r : Mem) (b off n cap q i k m : Nat) (f : Bool) (c : List Value) (fs : FnsC) (K : KO) (KX : Nat → KO) (kr : KS) : run (SC r) mEn 50 1 En_8 fs none (rbK 0 lvE4 [] K) (fun j => rbK 0 lvE5 [] (KX j)) kr [] (bT lvE4 (vE4 b off n cap (gx 0 q) i k f m) .nil) [] (mkA [oI1 c 0]) =
    bif decide (Int.ofNat m < Int.ofNat q) then bif f then bif Nat.blt (Int.toNat (Int.ofNat m)) q then Option.casesOn c[Nat.add 0 (Nat.mul (Int.toNat (Int.ofNat m)) 1)]? (.fail 423) fun val => bif isI IntKind.i64 val then bif Nat.blt (Int.toNat (Int.ofNat i)) n then bif Nat.blt (Int.toNat (Int.ofNat k)) 2 then Option.casesOn (r b (Nat.add (Nat.add off (Nat.mul (Int.toNat (Int.ofNat i)) 2)) (Nat.mul (Int.toNat (Int.ofNat k)) 1))) (.fail 423) fun val_1 => bif isI IntKind.i64 val_1 then bif ofI val != ofI val_1 then bif m_nns c && true then K [some (RS2 b off n cap), some (gx 0 q), some (I (Int.ofNat i)), some (I (Int.ofNat k)), some (.bool true), some (I (IntKind.wrap .i64 (Int.ofNat m + Int.ofNat 1)))] [] [some (.cells c 3 0 1)] else F4 else bif m_nns c && true then K [some (RS2 b off n cap), some (gx 0 q), some (I (Int.ofNat i)), some (I (Int.ofNat k)), some (.bool false), some (I (IntKind.wrap .i64 (Int.ofNat m + Int.ofNat 1)))] [] [some (.cells c 3 0 1)] else F4 else F4 else F4 else F4 else F4 else F4 else bif m_nns c && true then K [some (RS2 b off n cap), some (gx 0 q), some (I (Int.ofNat i)), some (I (Int.ofNat k)), some (.bool false), some (I (IntKind.wrap .i64 (Int.ofNat m + Int.ofNat 1)))] [] [some (.cells c 3 0 1)] else F4 else bif m_nns c && true then KX 4 [some (RS2 b off n cap), some (gx 0 q), some (I (Int.ofNat i)), some (I (Int.ofNat k)), some (.bool f)] [] [some (.cells c 3 0 1)] else F4 := by kernel_rfl
theorem edG (r : Mem) (b off n cap q i k : Nat) (f : Bool) (c : List Value) (fs : FnsC) (K : KO) (kx : Nat → KS) (kr : KS) : run (SC r) mEn 50 1 En_9 fs none (rbK 0 lvE3 [] K) kx kr [] (bT lvE5 (vE5 b off n cap (gx 0 q) i k f) .nil) [] (mkA [oI1 c 0]) =
    bif f then bif Nat.blt (Int.toNat (Int.ofNat i)) n then bif Nat.blt (Int.toNat (Int.ofNat k)) 2 then Option.casesOn (r b (Nat.add (Nat.add off (Nat.mul (Int.toNat (Int.ofNat i)) 2)) (Nat.mul (Int.toNat (Int.ofNat k)) 1))) (.fail 423) fun val => bif isI IntKind.i64 val then bif Nat.ble (Nat.add q 1) 1000000 then Option.casesOn (takeAt c 0 (Nat.mul q 1)) (.fail 439) fun val_1 => bif m_nns (val_1 ++ [I (ofI val)]) && true then K [some (RS2 b off n cap), some (.slice (some ⟨0, 0, none⟩) (Nat.add q 1) unk), some (I (Int.ofNat i)), some (I (Int.ofNat k))] [] [some (.cells (val_1 ++ [I (ofI val)]) 3 0 1)] else F4 else F4 else F4 else F4 else F4 else bif m_nns c && true then K [some (RS2 b off n cap), some (gx 0 q), some (I (Int.ofNat i)), some (I (Int.ofNat k))] [] [some (.cells c 3 0 1)] else F4 := by kernel_rfl
theorem edH (r : Mem) (b off n cap q i k : Nat) (c : List Value) (fs : FnsC) (K : KO) (kx : Nat → KS) (kr : KS) : run (SC r) mEn 50 1 En_10 fs none (rbK 0 lvE3 [] K) kx kr [] (bT lvE3 (vE3 b off n cap (gx 0 q) i k) .nil) [] (mkA [oI1 c 0]) =
    bif m_nns c && true then K [some (RS2 b off n cap), some (gx 0 q), some (I (Int.ofNat i)), some (I (IntKind.wrap .i64 (Int.ofNat k + Int.ofNat 1)))] [] [some (.cells c 3 0 1)] else F4 := by kernel_rfl
theorem edI (r : Mem) (b off n cap q i : Nat) (c : List Value) (fs : FnsC) (K : KO) (kx : Nat → KS) (kr : KS) : run (SC r) mEn 50 1 En_11 fs none (rbK 0 lvE1 [] K) kx kr [] (bT lvE1 (vE1 b off n cap (gx 0 q) i) .nil) [] (mkA [oI1 c 0]) =
    bif m_nns c && true then K [some (RS2 b off n cap), some (gx 0 q), some (I (IntKind.wrap .i64 (Int.ofNat i + Int.ofNat 1)))] [] [some (.cells c 3 0 1)] else F4 := by kernel_rfl
theorem edJ (r : Mem) (q : Nat) (c : List Value) (fs : FnsC) (K KR : KO) (kx : Nat → KS) : run (SC r) mEn 50 1 En_12 fs none (rbK 0 [2] [] K) kx (rbK 0 [2] [] KR) [] (bT [3] [some (gx 0 q)] .nil) [] (mkA [oI1 c 0]) =
    KR [some (I (Int.ofNat q))] [] [] := by kernel_rfl
end Go.Proofs
namespace Go.Proofs
open Go Go.Ev Go.Num
section
variable {r : Mem} {b off n cap : Nat} {z : Nat → Int}
theorem en_val (hz : rowAt r b off (2 * n) z) {i k : Nat} (hi : i < n) (hk : k < 2) : r b (Nat.add (Nat.add off (Nat.mul i 2)) (Nat.mul k 1)) = some (I (z (2 * i + k))) := by
 have := hz (2 * i + k) (by omega)
 rw [Nat.add_eq, Nat.add_eq, Nat.mul_eq, Nat.mul_eq, Nat.mul_one, show off + i * 2 + k = off + (2 * i + k) by omega]
 exact this
theorem en_rnd (hz : rowAt r b off (2 * n) z) (hn : n ≤ 12) {i k : Nat} (hi : i < n) (hk : k < 2) (h1 : 1 ≤ 2 * i + k) {F : Fence} {kk : Nat} {γ : Gam} {W : World} (hF : Wide F) (hro : RoRel γ none F.round) (h0' : ∀ i, 0 ≤ i → γ i = none) {ox : Nat → Outs} {orr : Outs} :
  Go.Ev.Reach (SC r) mEn 50 F kk γ W (.block 3 (.seq En_6 (.seq (.seq En_7 (.block 4 (.loop En_8))) En_9))) (St.of lvE3 (vE3 b off n cap (gx 0 (enD z (2 * i + k)).length) i k) [] [oI1 (rowI (enD z (2 * i + k))) 0]) (CanQ (SC r) mEn 50 γ W ⟨lvE3, [], fun vs ms os => vs = vE3 b off n cap (gx 0 (enD z (2 * i + k + 1)).length) i k ∧ ms = [] ∧ os = [oI1 (rowI (enD z (2 * i + k + 1))) 0]⟩ ox orr) := by
 obtain ⟨L, hL⟩ : ∃ L, L = enD z (2 * i + k) := ⟨_, rfl⟩
 have hLn : enD z (2 * i + k + 1) = bif L.contains (z (2 * i + k)) then L else L ++ [z (2 * i + k)] := by rw [hL]; rfl
 have hlen := enD_len z (2 * i + k)
 have hv := en_val hz hi hk
 rw [hLn, ← hL]
 rw [← hL] at hlen
 generalize z (2 * i + k) = v at hv
 have hnn := rowI_nn L
 have q1 : Nat.blt i n = true := Nat.ble_eq_true_of_le hi
 have q2 : Nat.blt k 2 = true := Nat.ble_eq_true_of_le hk
 refine Go.Ev.Reach.blockC (Go.Ev.Reach.after3R (SC_ok r) TOk.nil (tm := .nil) (L := 1) (L' := 1) (d := 1) hF hro h0' (.step .base) (o1 := ⟨lvE4, [], fun vs ms os => vs = vE4 b off n cap (gx 0 L.length) i k true 0 ∧ ms = [] ∧ os = [oI1 (rowI L) 0]⟩) (o2 := ⟨lvE5, [], fun vs ms os => vs = vE5 b off n cap (gx 0 L.length) i k (!L.contains v) ∧ ms = [] ∧ os = [oI1 (rowI L) 0]⟩) [] (fun p hp => nomatch hp) ?_ ?_ ?_)
 ·rintro vs ms os ⟨rfl, rfl, rfl⟩
  refine Go.Ev.Reach.blockC (Go.Ev.Reach.loopC (j := L.length) (lv := lvE4) (fl := []) (I := fun j vs ms os => ∃ m : Nat, m ≤ L.length ∧ j = L.length - m ∧ vs = vE4 b off n cap (gx 0 L.length) i k (!(L.take m).contains v) m ∧ ms = [] ∧ os = [oI1 (rowI L) 0]) (fun j vs ms os hI => ?_) ⟨0, by omega, rfl, rfl, rfl, rfl⟩)
  obtain ⟨m, hm, rfl, rfl, rfl, rfl⟩ := hI
  refine Go.Ev.Reach.segR (SC_ok r) TOk.nil (tm := .nil) (L := 1) (L' := 1) (d := 1) hF hro h0' [(4, ⟨lvE5, [], fun vs ms os => vs = vE5 b off n cap (gx 0 L.length) i k (!L.contains v) ∧ ms = [] ∧ os = [oI1 (rowI L) 0]⟩)] (fun p hp => by simp only [List.mem_cons, List.not_mem_nil, or_false] at hp; subst hp; rfl) ?_
  generalize hf : (!(L.take m).contains v) = f
  have hn' := edF r b off n cap L.length i k m f (rowI L)
  simp only [tnO, hnn, Bool.and_true, cond_true] at hn'
  by_cases c : m < L.length
  ·have q3 : Nat.blt m L.length = true := Nat.ble_eq_true_of_le c
   have g1 : (rowI L)[Nat.add 0 (Nat.mul m 1)]? = some (I (L.getD m 0)) := by rw [show Nat.add 0 (Nat.mul m 1) = m by simp]; exact rowI_get c
   have htk : L.take (m + 1) = L.take m ++ [L.getD m 0] := by
    rw [List.take_add_one, List.getElem?_eq_getElem c, List.getD_eq_getElem?_getD, List.getElem?_eq_getElem c]
    rfl
   have hnx : (!(L.take (m + 1)).contains v) = (f && (L.getD m 0 != v)) := by
    rw [htk, ← hf]
    by_cases e : L.getD m 0 = v
    ·rw [e]; simp
    ·have e2 : ¬ v = L.getD m 0 := fun h => e h.symm
     have e3 : (L.getD m 0 != v) = true := neT e
     rw [e3, Bool.and_true]
     congr 1
     rw [Bool.eq_iff_iff]
     simp only [List.contains_iff_mem, List.mem_append, List.mem_singleton]
     exact ⟨fun h => h.resolve_right e2, .inl⟩
   simp only [dT (show Int.ofNat m < Int.ofNat L.length by simp; omega), q1, q2, q3, g1, hv, isI_I, cond_true] at hn'
   dsimp +instances only [ofI_I] at hn'
   rw [show IntKind.wrap .i64 (Int.ofNat m + Int.ofNat 1) = ((m + 1 : Nat) : Int) from inc1 (by omega)] at hn'
   cases f with
   | true =>
    rw [Bool.true_and] at hnx
    cases e : (L.getD m 0 != v) with
    | true =>
     simp only [e, cond_true] at hn'
     exact (hn' _ _ _ _).trans (qq_ok ⟨L.length - (m + 1), by omega, m + 1, c, rfl, by rw [hnx, e]; rfl, rfl, rfl⟩)
    | false =>
     simp only [e, cond_true, cond_false] at hn'
     exact (hn' _ _ _ _).trans (qq_ok ⟨L.length - (m + 1), by omega, m + 1, c, rfl, by rw [hnx, e]; rfl, rfl, rfl⟩)
   | false =>
    simp only [cond_false] at hn'
    exact (hn' _ _ _ _).trans (qq_ok ⟨L.length - (m + 1), by omega, m + 1, c, rfl, by rw [hnx, Bool.false_and]; rfl, rfl, rfl⟩)
  ·obtain rfl : m = L.length := by omega
   simp only [dF (show ¬ Int.ofNat L.length < Int.ofNat L.length by simp), cond_false] at hn'
   exact (hn' _ _ _ _).trans (qq_ok ⟨by rw [← hf, List.take_length]; rfl, rfl, rfl⟩)
 ·rintro vs ms os ⟨rfl, rfl, rfl⟩
  refine Go.Ev.Reach.segR (SC_ok r) TOk.nil (tm := .nil) (L := 1) (L' := 1) (d := 1) hF hro h0' [] (fun p hp => nomatch hp) ?_
  generalize hf : (!L.contains v) = f
  have hn' := edG r b off n cap L.length i k f (rowI L)
  have ht : takeAt (rowI L) 0 (Nat.mul L.length 1) = some (rowI L) := takeL_row _ _ (by rw [rowI_len, Nat.mul_eq, Nat.mul_one])
  simp only [tnO, hnn, q1, q2, hv, isI_I, ht, Nat.ble_eq_true_of_le (show Nat.add L.length 1 ≤ 1000000 by rw [Nat.add_eq]; omega), Bool.and_true, cond_true] at hn'
  dsimp +instances only [ofI_I] at hn'
  simp only [rowI_app, rowI_nn, Bool.and_true, cond_true] at hn'
  cases hc : L.contains v with
  | true =>
   rw [hc] at hf
   subst hf
   simp only [Bool.not_true, cond_false] at hn'
   exact (hn' _ _ _ _).trans (qq_ok ⟨rfl, rfl, rfl⟩)
  | false =>
   rw [hc] at hf
   subst hf
   simp only [Bool.not_false, cond_true] at hn'
   exact (hn' _ _ _ _).trans (qq_ok ⟨by rw [cond_false, List.length_append]; rfl, rfl, rfl⟩)
 ·have hn' := edE r b off n cap L.length i k (rowI L)
  simp only [hnn, Bool.and_true, cond_true] at hn'
  exact (hn' _ _ _ _).trans (qq_ok ⟨rfl, rfl, rfl⟩)
theorem en_ok (hz : rowAt r b off (2 * n) z) (h1 : 1 ≤ n) (hn : n ≤ 12) : GrT Tryd.prog r 18 [RS2 b off n cap] (I ((enD z (2 * n)).length : Nat)) := by
 refine GrT.ofS (C := SC r) rfl rfl rfl (callO (SC_ok r) (by kernel_rfl) ((bodySC r _).trans En_eq2) (nt := 50) (by kernel_rfl) (rs := [.tmp 2]) (by kernel_rfl) mEn rfl ⟨[2], [], fun vs ms os => vs = [some (I ((enD z (2 * n)).length : Nat))] ∧ ms = [] ∧ os = []⟩ ?_ fun γ W F kk hwr hF hro h0' => ?_)
 ·rintro vs ms os ⟨rfl, rfl, rfl⟩
  exact ⟨_, mkA [], by kernel_rfl, rfl⟩
 have h0' : ∀ i, 0 ≤ i → γ i = none := h0'
 have hc0 : enD z 0 = [] := rfl
 refine Go.Ev.Reach.after3R (SC_ok r) TOk.nil (tm := .nil) (L := 1) (L' := 1) (d := 1) hF hro h0' (.step (.step .base)) (o1 := ⟨lvE1, [], fun vs ms os => vs = vE1 b off n cap nilT 0 ∧ ms = [] ∧ os = []⟩) (o2 := ⟨[3], [], fun vs ms os => vs = [some (gx 0 (enD z (2 * n)).length)] ∧ ms = [] ∧ os = [oI1 (rowI (enD z (2 * n))) 0]⟩) [] (fun p hp => nomatch hp) ?_ ?_ ((edA r b off n cap _ _ _ _).trans (qq_ok ⟨rfl, rfl, rfl⟩))
 ·rintro vs ms os ⟨rfl, rfl, rfl⟩
  refine Go.Ev.Reach.blockC (Go.Ev.Reach.loopC (j := n) (lv := lvE1) (fl := []) (I := fun j vs ms os => ∃ i : Nat, i ≤ n ∧ j = n - i ∧ ms = [] ∧ ((i = 0 ∧ vs = vE1 b off n cap nilT 0 ∧ os = []) ∨ (1 ≤ i ∧ vs = vE1 b off n cap (gx 0 (enD z (2 * i)).length) i ∧ os = [oI1 (rowI (enD z (2 * i))) 0]))) (fun j vs ms os hI => ?_) ⟨0, by omega, rfl, rfl, .inl ⟨rfl, rfl, rfl⟩⟩)
  obtain ⟨i, hi, rfl, rfl, hcase⟩ := hI
  have two : ∀ (hi : i < n), Go.Ev.Reach (SC r) mEn 50 F kk γ W (.block 2 (.loop En_b)) (St.of lvE3 (bif Nat.beq i 0 then vE3 b off n cap nilT i 0 else vE3 b off n cap (gx 0 (enD z (2 * i)).length) i 0) [] (bif Nat.beq i 0 then [] else [oI1 (rowI (enD z (2 * i))) 0])) (CanQ (SC r) mEn 50 γ W ⟨lvE1, [], fun vs ms os => vs = vE1 b off n cap (gx 0 (enD z (2 * (i + 1))).length) i ∧ ms = [] ∧ os = [oI1 (rowI (enD z (2 * (i + 1)))) 0]⟩ (fun j => if j = 1 then ⟨lvE1, [], fun vs ms os => vs = vE1 b off n cap (gx 0 (enD z (2 * (i + 1))).length) i ∧ ms = [] ∧ os = [oI1 (rowI (enD z (2 * (i + 1)))) 0]⟩ else if j = 0 then ⟨[3], [], fun vs ms os => vs = [some (gx 0 (enD z (2 * n)).length)] ∧ ms = [] ∧ os = [oI1 (rowI (enD z (2 * n))) 0]⟩ else (fun _ => Outs.no) j) ⟨[2], [], fun vs ms os => vs = [some (I ((enD z (2 * n)).length : Nat))] ∧ ms = [] ∧ os = []⟩) := fun hi => by
   refine Go.Ev.Reach.blockC (Go.Ev.Reach.loopC (j := 2) (lv := lvE3) (fl := []) (I := fun j vs ms os => ∃ k : Nat, k ≤ 2 ∧ j = 2 - k ∧ ms = [] ∧ ((k = 0 ∧ i = 0 ∧ vs = vE3 b off n cap nilT 0 0 ∧ os = []) ∨ (1 ≤ 2 * i + k ∧ vs = vE3 b off n cap (gx 0 (enD z (2 * i + k)).length) i k ∧ os = [oI1 (rowI (enD z (2 * i + k))) 0]))) (fun j vs ms os hI => ?_) ⟨0, by omega, rfl, rfl, ?_⟩)
   ·obtain ⟨k, hk, rfl, rfl, ⟨rfl, rfl, rfl, rfl⟩ | ⟨h2, rfl, rfl⟩⟩ := hI
    ·refine Go.Ev.Reach.segR (SC_ok r) TOk.nil (tm := .nil) (L := 3) (L' := 1) (d := 1) hF hro h0' [] (fun p hp => nomatch hp) ?_
     have hn' := edKn r b off n cap
     have q1 : Nat.blt 0 n = true := Nat.ble_eq_true_of_le hi
     have hv : r b (Nat.add (Nat.add off 0) 0) = some (I (z 0)) := hz 0 (by omega)
     simp only [q1, hv, isI_I, cond_true] at hn'
     dsimp +instances only [ofI_I] at hn'
     exact (hn' _ _ _).trans (qq_ok ⟨1, by omega, 1, by omega, rfl, rfl, .inr ⟨by omega, rfl, rfl⟩⟩)
    ·unfold En_b
     refine Go.Ev.Reach.seqC (o1 := ⟨lvE3, [], fun vs ms os => k < 2 ∧ vs = vE3 b off n cap (gx 0 (enD z (2 * i + k)).length) i k ∧ ms = [] ∧ os = [oI1 (rowI (enD z (2 * i + k))) 0]⟩) (Go.Ev.Reach.segR (SC_ok r) TOk.nil (tm := .nil) (L := 1) (L' := 1) (d := 1) hF hro h0' [(2, ⟨lvE1, [], fun vs ms os => vs = vE1 b off n cap (gx 0 (enD z (2 * (i + 1))).length) i ∧ ms = [] ∧ os = [oI1 (rowI (enD z (2 * (i + 1)))) 0]⟩)] (fun p hp => by simp only [List.mem_cons, List.not_mem_nil, or_false] at hp; subst hp; rfl) ?_) ?_
     ·have hn' := edD r b off n cap (enD z (2 * i + k)).length i k (rowI (enD z (2 * i + k)))
      simp only [rowI_nn, Bool.and_true, cond_true] at hn'
      by_cases c : k < 2
      ·simp only [dT (show Int.ofNat k < 2 by simp; omega), cond_true] at hn'
       exact (hn' _ _ _ _).trans (qq_ok ⟨c, rfl, rfl, rfl⟩)
      ·obtain rfl : k = 2 := by omega
       simp only [dF (show ¬ Int.ofNat 2 < 2 by simp), cond_false] at hn'
       exact (hn' _ _ _ _).trans (qq_ok ⟨rfl, rfl, rfl⟩)
     rintro vs ms os ⟨c, rfl, rfl, rfl⟩
     refine Go.Ev.Reach.seqC (en_rnd hz hn hi c h2 hF hro h0') ?_
     rintro vs ms os ⟨rfl, rfl, rfl⟩
     refine Go.Ev.Reach.segR (SC_ok r) TOk.nil (tm := .nil) (L := 1) (L' := 1) (d := 1) hF hro h0' [] (fun p hp => nomatch hp) ?_
     have hn' := edH r b off n cap (enD z (2 * i + k + 1)).length i k (rowI (enD z (2 * i + k + 1)))
     simp only [rowI_nn, Bool.and_true, cond_true] at hn'
     rw [show IntKind.wrap .i64 (Int.ofNat k + Int.ofNat 1) = ((k + 1 : Nat) : Int) from inc1 (by omega)] at hn'
     exact (hn' _ _ _ _).trans (qq_ok ⟨2 - (k + 1), by omega, k + 1, by omega, rfl, rfl, .inr ⟨by omega, rfl, rfl⟩⟩)
   ·by_cases i0 : i = 0
    ·subst i0
     exact .inl ⟨rfl, rfl, rfl, rfl⟩
    ·rw [natFx i0]
     exact .inr ⟨by omega, rfl, rfl⟩
  have fin : ∀ vs ms os, (vs = vE1 b off n cap (gx 0 (enD z (2 * (i + 1))).length) i ∧ ms = [] ∧ os = [oI1 (rowI (enD z (2 * (i + 1)))) 0]) → i < n → Go.Ev.Reach (SC r) mEn 50 F kk γ W En_11 (St.of lvE1 vs ms os) (CanQ (SC r) mEn 50 γ W ⟨lvE1, [], fun vs ms os => ∃ j', j' < n - i ∧ ∃ i : Nat, i ≤ n ∧ j' = n - i ∧ ms = [] ∧ ((i = 0 ∧ vs = vE1 b off n cap nilT 0 ∧ os = []) ∨ (1 ≤ i ∧ vs = vE1 b off n cap (gx 0 (enD z (2 * i)).length) i ∧ os = [oI1 (rowI (enD z (2 * i))) 0]))⟩ (fun j => if j = 0 then ⟨[3], [], fun vs ms os => vs = [some (gx 0 (enD z (2 * n)).length)] ∧ ms = [] ∧ os = [oI1 (rowI (enD z (2 * n))) 0]⟩ else (fun _ => Outs.no) j) ⟨[2], [], fun vs ms os => vs = [some (I ((enD z (2 * n)).length : Nat))] ∧ ms = [] ∧ os = []⟩) := fun vs ms os ⟨e1, e2, e3⟩ hi => by
   subst e1 e2 e3
   refine Go.Ev.Reach.segR (SC_ok r) TOk.nil (tm := .nil) (L := 1) (L' := 1) (d := 1) hF hro h0' [] (fun p hp => nomatch hp) ?_
   have hn' := edI r b off n cap (enD z (2 * (i + 1))).length i (rowI (enD z (2 * (i + 1))))
   simp only [rowI_nn, Bool.and_true, cond_true] at hn'
   rw [show IntKind.wrap .i64 (Int.ofNat i + Int.ofNat 1) = ((i + 1 : Nat) : Int) from inc1 (by omega)] at hn'
   exact (hn' _ _ _ _).trans (qq_ok ⟨n - (i + 1), by omega, i + 1, by omega, rfl, rfl, .inr ⟨by omega, rfl, rfl⟩⟩)
  rcases hcase with ⟨rfl, rfl, rfl⟩ | ⟨hi1, rfl, rfl⟩
  ·refine Go.Ev.Reach.seqC (o1 := ⟨lvE1, [], fun vs ms os => vs = vE1 b off n cap nilT 0 ∧ ms = [] ∧ os = []⟩) (Go.Ev.Reach.segR (SC_ok r) TOk.nil (tm := .nil) (L := 1) (L' := 1) (d := 1) hF hro h0' [(0, ⟨[3], [], fun vs ms os => vs = [some (gx 0 (enD z (2 * n)).length)] ∧ ms = [] ∧ os = [oI1 (rowI (enD z (2 * n))) 0]⟩)] (fun p hp => by simp only [List.mem_cons, List.not_mem_nil, or_false] at hp; subst hp; rfl) ?_) ?_
   ·have hn' := edBn r b off n cap
    simp only [dT (show (0 : Int) < Int.ofNat n by simp; omega), cond_true] at hn'
    exact (hn' _ _ _ _).trans (qq_ok ⟨rfl, rfl, rfl⟩)
   rintro vs ms os ⟨rfl, rfl, rfl⟩
   refine Go.Ev.Reach.seqC (o1 := ⟨lvE1, [], fun vs ms os => vs = vE1 b off n cap (gx 0 (enD z (2 * (0 + 1))).length) 0 ∧ ms = [] ∧ os = [oI1 (rowI (enD z (2 * (0 + 1)))) 0]⟩) (Go.Ev.Reach.blockC (Go.Ev.Reach.seqC (o1 := ⟨lvE3, [], fun vs ms os => vs = vE3 b off n cap nilT 0 0 ∧ ms = [] ∧ os = []⟩) (Go.Ev.Reach.segR (SC_ok r) TOk.nil (tm := .nil) (L := 1) (L' := 1) (d := 1) hF hro h0' [] (fun p hp => nomatch hp) ((edCn r b off n cap _ _ _ _).trans (qq_ok ⟨rfl, rfl, rfl⟩))) ?_)) fun vs ms os h => fin vs ms os h (by omega)
   rintro vs ms os ⟨rfl, rfl, rfl⟩
   exact two (by omega)
  ·have hb : Nat.beq i 0 = false := natFx (by omega)
   rw [hb] at two
   refine Go.Ev.Reach.seqC (o1 := ⟨lvE1, [], fun vs ms os => i < n ∧ vs = vE1 b off n cap (gx 0 (enD z (2 * i)).length) i ∧ ms = [] ∧ os = [oI1 (rowI (enD z (2 * i))) 0]⟩) (Go.Ev.Reach.segR (SC_ok r) TOk.nil (tm := .nil) (L := 1) (L' := 1) (d := 1) hF hro h0' [(0, ⟨[3], [], fun vs ms os => vs = [some (gx 0 (enD z (2 * n)).length)] ∧ ms = [] ∧ os = [oI1 (rowI (enD z (2 * n))) 0]⟩)] (fun p hp => by simp only [List.mem_cons, List.not_mem_nil, or_false] at hp; subst hp; rfl) ?_) ?_
   ·have hn' := edBr r b off n cap (enD z (2 * i)).length i (rowI (enD z (2 * i)))
    simp only [rowI_nn, Bool.and_true, cond_true] at hn'
    by_cases c : i < n
    ·simp only [dT (show Int.ofNat i < Int.ofNat n by simp; omega), cond_true] at hn'
     exact (hn' _ _ _ _).trans (qq_ok ⟨c, rfl, rfl, rfl⟩)
    ·obtain rfl : i = n := by omega
     simp only [dF (show ¬ Int.ofNat i < Int.ofNat i by simp), cond_false] at hn'
     exact (hn' _ _ _ _).trans (qq_ok ⟨rfl, rfl, rfl⟩)
   rintro vs ms os ⟨c, rfl, rfl, rfl⟩
   refine Go.Ev.Reach.seqC (o1 := ⟨lvE1, [], fun vs ms os => vs = vE1 b off n cap (gx 0 (enD z (2 * (i + 1))).length) i ∧ ms = [] ∧ os = [oI1 (rowI (enD z (2 * (i + 1)))) 0]⟩) (Go.Ev.Reach.blockC (Go.Ev.Reach.seqC (o1 := ⟨lvE3, [], fun vs ms os => vs = vE3 b off n cap (gx 0 (enD z (2 * i)).length) i 0 ∧ ms = [] ∧ os = [oI1 (rowI (enD z (2 * i))) 0]⟩) (Go.Ev.Reach.segR (SC_ok r) TOk.nil (tm := .nil) (L := 1) (L' := 1) (d := 1) hF hro h0' [] (fun p hp => nomatch hp) ?_) ?_)) fun vs ms os h => fin vs ms os h c
   ·have hn' := edCr r b off n cap (enD z (2 * i)).length i (rowI (enD z (2 * i)))
    simp only [rowI_nn, Bool.and_true, cond_true] at hn'
    exact (hn' _ _ _ _).trans (qq_ok ⟨rfl, rfl, rfl⟩)
   rintro vs ms os ⟨rfl, rfl, rfl⟩
   exact two c
 ·rintro vs ms os ⟨rfl, rfl, rfl⟩
  exact Go.Ev.Reach.segR (SC_ok r) TOk.nil (tm := .nil) (L := 1) (L' := 1) (d := 1) hF hro h0' [] (fun p hp => nomatch hp) ((edJ r _ _ _ _ _ _).trans (qq_ok ⟨rfl, rfl, rfl⟩))
end
end Go.Proofs
namespace Go.Ev
open Go
theorem ReachG.afterG {P : Program} {m n : Nat} {F : Fence} {k : Nat} {γ0 : Gam} {W0 : World} {r : Mem} (hC : (Cfg.sym P r).Ok) {t : Tbl} (ht : TOk (Cfg.sym P r) t) {tm : Tr Nat} {L L' d : Nat} (hF : Wide F) (hro : RoRel γ0 none F.round) (h0 : ∀ i, 0 ≤ i → γ0 i = none) {p q x : Code} (hA : After p q x) {o1 : Outs} {gn : OutsG} {gx : Nat → OutsG} {gr : OutsG}
  (hq : ∀ vs ms os, o1.Q vs ms os → ReachG P m n F k γ0 W0 q r (St.of o1.lv vs ms os) (CanG P m n γ0 W0 gn gx gr)) : ∀ {s : List (Nat × Value)} {b : Tr Value} {ms : List Nat} {A : AW},
  run (Cfg.sym P r) m n L p (lvlT (Cfg.sym P r) t tm L' d) none (o1.ask 0) (Outs.ats 0 []) (Outs.no.ask 0) s b ms A = okR → ReachG P m n F k γ0 W0 x r ⟨⟨s, b⟩, ms, A⟩ (CanG P m n γ0 W0 gn gx gr) := by
 induction hA with
 | base =>
  intro s b ms A h
  exact ReachG.seqC (o1 := ⟨o1.lv, fun r1 vs ms os => r1 = r ∧ o1.Q vs ms os⟩) (ReachG.segR hC ht hF hro h0 [] (ox := fun _ => Outs.no) (orr := Outs.no) (fun p hp => nomatch hp) h (fun vs ms os h => IsG.here ⟨rfl, h⟩) (fun _ _ _ _ h => h.elim) (fun _ _ _ h => h.elim)) fun r1 vs ms os hx => by
   obtain ⟨e, h2⟩ := hx
   subst e
   exact hq vs ms os h2
 | step hA ih =>
  intro s b ms A h
  refine ReachG.seq (ReachG.mono (ReachG.of (Reach.segKr hC ht hF hro h)) fun ex r' st ⟨e, hx⟩ => ?_)
  subst e
  cases ex with
  | normal => exact ih hq hx
  | exit id =>
   obtain ⟨o, h1, h2⟩ := Outs.ats_use (C := Cfg.sym P r') (m := m) (n := n) (W0 := W0) h0 hx
   cases h1
  | ret =>
   have := Outs.ask_use (C := Cfg.sym P r') (m := m) (n := n) (W0 := W0) h0 hx
   obtain ⟨_, _, _, _, hf⟩ := this
   exact hf.elim
  | _ => exact hx.elim
end Go.Ev
namespace Go.Proofs
open Go Go.Ev Go.Num
noncomputable def cFl : Code := bodyOf S0 4
noncomputable def Fl_0 : Code := lc cFl
noncomputable def Fl_1 : Code := lc (rc cFl)
noncomputable def cF2 : Code := rc (rc cFl)
noncomputable def Fl_2 : Code := lc cF2
noncomputable def Fl_3 : Code := lc (rc cF2)
noncomputable def Fl_4 : Code := lc (rc (rc cF2))
noncomputable def Fl_5 : Code := lc (rc (rc (rc cF2)))
noncomputable def cF3 : Code := rc (rc (rc (rc cF2)))
noncomputable def Fl_7 : Code := lc (lc cF3)
noncomputable def cF4 : Code := lc (rc (lc cF3))
noncomputable def Fl_8 : Code := lc cF4
noncomputable def Fl_9 : Code := rc cF4
noncomputable def cF5 : Code := rc cF3
noncomputable def Fl_11 : Code := lc cF5
noncomputable def Fl_12 : Code := lc (rc cF5)
noncomputable def Fl_14 : Code := lc (rc (rc cF5))
noncomputable def Fl_15 : Code := rc (rc (rc cF5))
theorem Fl_eq : cFl = .seq Fl_0 (.seq Fl_1 (.seq Fl_2 (.seq Fl_3 (.seq Fl_4 (.seq Fl_5 (.seq (.seq Fl_7 (.cond (.tmp 59) (.seq Fl_8 Fl_9) .skip)) (.seq Fl_11 (.seq Fl_12 (.seq Fl_14 Fl_15))))))))) := by kernel_rfl
def mFl : Nat := 1048307 + 2 ^ 59
noncomputable def tAwF : Tbl := tcons 9 (e0 (.bool true)) fun _ => none
noncomputable def tF0 (P : Value) (k : Int) (n : Nat) (c : List Value) : Tbl := tcons 15 (eI2n [P] n c) (tcons 16 (eVv [P] (.tuple ⟨[z4i, .bool false, I 0]⟩)) (tcons 17 (eVv [P] (.tuple ⟨[I k, I 0]⟩)) fun _ => none))
noncomputable def tF2 (P : Value) (k : Int) (x : Nat → Int) : Tbl := tcons 15 (eVv [P] (.tuple ⟨[nilT, I 4]⟩)) (tcons 16 (eVv [P] (.tuple ⟨[x4 x, .bool true, I 0]⟩)) (tcons 17 (eVv [P] (.tuple ⟨[I k, I 0]⟩)) fun _ => none))
noncomputable def tF9 (P Q X : Value) (k : Int) : Tbl := tcons 11 (eVv [P, Q] (.bool true)) (tcons 18 (eVv [X] (I k)) fun _ => none)
noncomputable def eSpF (sl : Value) (m : Nat) (c : List Value) : Ent := ⟨fun args _ => m_sv args [sl], fun _ _ => true, fun _ A => .slice (some ⟨A.next, 0, none⟩) m unk, fun _ A => A.new (.cells c 61 A.next 2), fun _ _ => undef, fun _ A => A⟩
noncomputable def tFs (sl : Value) (m : Nat) (c : List Value) : Tbl := tcons 5 (eSpF sl m c) fun _ => none
noncomputable def tFz (sl : Value) : Tbl := tcons 5 (eVv [sl] nilT) tAwF
noncomputable def tFi (X : Value) (v : Int) : Tbl := tcons 8 (eVv [X] (I v)) tAwF
noncomputable def m_eg (n : Nat) (c : List Value) (o l z : Nat) (ci : List Value) : Bool := @decide (o = 0 ∧ l = n ∧ z ≠ unkE ∧ ci = c) (Classical.propDecidable _)
noncomputable def eEn (n : Nat) (c : List Value) (k : Int) (X : Value) (e : Int) : Ent := ent (fun args A => match args with
 | [.slice (some ⟨i, o, none⟩) l z] => match A.heap.get i with
  | some (.cells ci _ _ _) => m_eg n c o l z ci
  | _ => false
 | args => m_svv args [X]) fun args _ => match args with
 | [.slice (some ⟨_, _, none⟩) _ _] => I k
 | _ => I e
noncomputable def tFn (Q X : Value) (n : Nat) (c : List Value) (k e : Int) : Tbl := tcons 17 (eVv [Q] (.tuple ⟨[I k, I 0]⟩)) (tcons 15 (eI2n [Q] n c) (tcons 18 (eEn n c k X e) tAwF))
theorem flAnn (r : Mem) (fs : FnsC) (K : KO) (kx : Nat → KS) (kr : KS) : run (SC r) mFl 132 1 Fl_0 fs none (rbK 0 [0, 1] [] K) kx kr (sc0 mFl [nilT, nilT]) (tr0 mFl [nilT, nilT]) [] emptyA =
    K [some (.slice none 0 0), some (.slice none 0 0)] [] [] := by kernel_rfl
theorem flBnn (r : Mem) (fs : FnsC) (K : KS) : preK (SC r) mFl 132 Fl_1 1 fs K [] (bT [0, 1] [some nilT, some nilT] .nil) [] (mkA []) =
    K [(20, .slice none 0 0)] (.node (.node .nil (some (.slice none 0 0)) .nil) (some (.slice none 0 0)) .nil) [] (AW.mk 0 .nil .nil) := by kernel_rfl
theorem flCnn (r : Mem) (bp op m : Nat) (fs : FnsC) (K : KO) : tailK (SC r) mFl 132 Fl_1 1 fs (rbK 0 [1, 5] [] K) (RS bp op m 0) [(20, nilT)] (bT [0, 1] [some nilT, some nilT] .nil) [] (mkA []) =
    K [some (.slice none 0 0), some (RS bp op m 0)] [] [] := by kernel_rfl
theorem flAnr (r : Mem) (b2 o2 n2 c2 : Nat) (fs : FnsC) (K : KO) (kx : Nat → KS) (kr : KS) : run (SC r) mFl 132 1 Fl_0 fs none (rbK 0 [0, 1] [] K) kx kr (sc0 mFl [nilT, (RS2 b2 o2 n2 c2)]) (tr0 mFl [nilT, (RS2 b2 o2 n2 c2)]) [] emptyA =
    K [some (.slice none 0 0), some (RS2 b2 o2 n2 c2)] [] [] := by kernel_rfl
theorem flBnr (r : Mem) (b2 o2 n2 c2 : Nat) (fs : FnsC) (K : KS) : preK (SC r) mFl 132 Fl_1 1 fs K [] (bT [0, 1] [some nilT, some (RS2 b2 o2 n2 c2)] .nil) [] (mkA []) =
    K [(20, .slice none 0 0)] (.node (.node .nil (some (RS2 b2 o2 n2 c2)) .nil) (some (.slice none 0 0)) .nil) [] (AW.mk 0 .nil .nil) := by kernel_rfl
theorem flCnr (r : Mem) (b2 o2 n2 c2 : Nat) (bp op m : Nat) (fs : FnsC) (K : KO) : tailK (SC r) mFl 132 Fl_1 1 fs (rbK 0 [1, 5] [] K) (RS bp op m 0) [(20, nilT)] (bT [0, 1] [some nilT, some (RS2 b2 o2 n2 c2)] .nil) [] (mkA []) =
    K [some (RS2 b2 o2 n2 c2), some (RS bp op m 0)] [] [] := by kernel_rfl
theorem flArn (r : Mem) (b off n cap : Nat) (fs : FnsC) (K : KO) (kx : Nat → KS) (kr : KS) : run (SC r) mFl 132 1 Fl_0 fs none (rbK 0 [0, 1] [] K) kx kr (sc0 mFl [(RS b off n cap), nilT]) (tr0 mFl [(RS b off n cap), nilT]) [] emptyA =
    K [some (RS b off n cap), some (.slice none 0 0)] [] [] := by kernel_rfl
theorem flBrn (r : Mem) (b off n cap : Nat) (fs : FnsC) (K : KS) : preK (SC r) mFl 132 Fl_1 1 fs K [] (bT [0, 1] [some (RS b off n cap), some nilT] .nil) [] (mkA []) =
    K [(20, RS b off n cap)] (.node (.node .nil (some (.slice none 0 0)) .nil) (some (RS b off n cap)) .nil) [] (AW.mk 0 .nil .nil) := by kernel_rfl
theorem flCrn (r : Mem) (b off n cap : Nat) (bp op m : Nat) (fs : FnsC) (K : KO) : tailK (SC r) mFl 132 Fl_1 1 fs (rbK 0 [1, 5] [] K) (RS bp op m 0) [(20, (RS b off n cap))] (bT [0, 1] [some (RS b off n cap), some nilT] .nil) [] (mkA []) =
    K [some (.slice none 0 0), some (RS bp op m 0)] [] [] := by kernel_rfl
theorem flArr (r : Mem) (b off n cap : Nat) (b2 o2 n2 c2 : Nat) (fs : FnsC) (K : KO) (kx : Nat → KS) (kr : KS) : run (SC r) mFl 132 1 Fl_0 fs none (rbK 0 [0, 1] [] K) kx kr (sc0 mFl [(RS b off n cap), (RS2 b2 o2 n2 c2)]) (tr0 mFl [(RS b off n cap), (RS2 b2 o2 n2 c2)]) [] emptyA =
    K [some (RS b off n cap), some (RS2 b2 o2 n2 c2)] [] [] := by kernel_rfl
theorem flBrr (r : Mem) (b off n cap : Nat) (b2 o2 n2 c2 : Nat) (fs : FnsC) (K : KS) : preK (SC r) mFl 132 Fl_1 1 fs K [] (bT [0, 1] [some (RS b off n cap), some (RS2 b2 o2 n2 c2)] .nil) [] (mkA []) =
    K [(20, RS b off n cap)] (.node (.node .nil (some (RS2 b2 o2 n2 c2)) .nil) (some (RS b off n cap)) .nil) [] (AW.mk 0 .nil .nil) := by kernel_rfl
theorem flCrr (r : Mem) (b off n cap : Nat) (b2 o2 n2 c2 : Nat) (bp op m : Nat) (fs : FnsC) (K : KO) : tailK (SC r) mFl 132 Fl_1 1 fs (rbK 0 [1, 5] [] K) (RS bp op m 0) [(20, (RS b off n cap))] (bT [0, 1] [some (RS b off n cap), some (RS2 b2 o2 n2 c2)] .nil) [] (mkA []) =
    K [some (RS2 b2 o2 n2 c2), some (RS bp op m 0)] [] [] := by kernel_rfl
theorem flDn (r : Mem) (bp op m : Nat) (k : Int) (c : List Value) (K : KO) (kx : Nat → KS) (kr : KS) : run (SC r) mFl 132 1 (.seq Fl_2 (.seq Fl_3 (.seq Fl_4 Fl_5))) (lvlT (SC r) (tF0 (RS bp op m 0) k m c) .nil 1 1) none (rbK 0 [1, 5, 6, 9, 11] [] K) kx kr [] (bT [1, 5] [some nilT, some (RS bp op m 0)] .nil) [] (mkA []) =
    bif m_svv [RS bp op m 0] [RS bp op m 0] then bif m_svv [RS bp op m 0] [RS bp op m 0] then bif m_svv [RS bp op m 0] [RS bp op m 0] then bif m_nns c && true then K [some (.slice none 0 0), some (RS bp op m 0), some (.slice (some ⟨0, 0, none⟩) m m), some (.bool false), some (I k)] [] [some (.cells c 61 0 2)] else F4 else F4 else F4 else F4 := by kernel_rfl
theorem flEn (r : Mem) (bp op m : Nat) (k : Int) (c : List Value) (fs : FnsC) (K : KO) (kx : Nat → KS) (kr : KS) : run (SC r) mFl 132 1 Fl_7 fs none (rbK 0 [1, 5, 6, 11, 59] [] K) kx kr [] (bT [1, 5, 6, 9, 11] [some nilT, some (RS bp op m 0), some (gy 0 m), some (.bool false), some (I k)] .nil) [] (mkA [oP2 c 0]) =
    bif m_nns c && true then K [some (.slice none 0 0), some (RS bp op m 0), some (.slice (some ⟨0, 0, none⟩) m m), some (I k), some (.bool true)] [] [some (.cells c 61 0 2)] else F4 := by kernel_rfl
theorem flFn (r : Mem) (bp op bi oi m : Nat) (k : Int) (fs : FnsC) (K : KS) : preK (SC r) mFl 132 Fl_8 1 fs K [] (bT [1, 5, 6, 11, 59] [some nilT, some (RS bp op m 0), some (RS bi oi m m), some (I k), some (.bool true)] .nil) [] (mkA []) =
    K [(61, RS bi oi m m)] (.node (.node (.node .nil none (.node .nil (some (I k)) (.node .nil none (.node .nil (some (.bool true)) .nil)))) (some (.slice none 0 0)) (.node .nil (some (RS bp op m 0)) .nil)) none (.node .nil none (.node .nil (some (RS bi oi m m)) .nil))) [] (AW.mk 0 .nil .nil) := by kernel_rfl
theorem flGn (r : Mem) (bp op bi oi m : Nat) (k : Int) (c : List Value) (fs : FnsC) (K : KO) : tailK (SC r) mFl 132 Fl_8 1 fs (rbK 0 [1, 5, 6, 11, 13, 14] [] K) (.tuple ⟨[gy 0 m, I 0]⟩) [(61, RS bi oi m m)] (bT [1, 5, 6, 11, 59] [some nilT, some (RS bp op m 0), some (RS bi oi m m), some (I k), some (.bool true)] .nil) [] (mkA [oTb c 0]) =
    bif m_nns c && true then K [some (.slice none 0 0), some (RS bp op m 0), some (RS bi oi m m), some (I k), some (.slice (some ⟨0, 0, none⟩) m m), some (I (Int.ofNat 0))] [] [some (.cells c 64 0 1)] else F4 := by kernel_rfl
theorem flHn (r : Mem) (bp op bi oi bq oq m : Nat) (k : Int) (K : KO) (kx : Nat → KS) (kr : KS) : run (SC r) mFl 132 1 Fl_9 (lvlT (SC r) (tF9 (RS bp op m 0) (RS bq oq m m) (RS bi oi m m) k) .nil 1 1) none (rbK 0 [1] [] K) kx kr [] (bT [1, 5, 6, 11, 13, 14] [some nilT, some (RS bp op m 0), some (RS bi oi m m), some (I k), some (RS bq oq m m), some (I 0)] .nil) [] (mkA []) =
    bif m_svv [RS bp op m 0, RS bq oq m m] [RS bp op m 0, RS bq oq m m] then bif m_svv [RS bi oi m m] [RS bi oi m m] then bif k != k then kr [] (.node (.node (.node .nil none (.node .nil (some (I k)) .nil)) (some (.slice none 0 0)) (.node .nil (some (RS bp op m 0)) (.node .nil (some (RS bq oq m m)) .nil))) none (.node (.node .nil (some (.bool false)) .nil) none (.node .nil (some (RS bi oi m m)) (.node .nil (some (I (Int.ofNat 0))) .nil)))) [] (AW.mk 0 .nil .nil) else K [some (.slice none 0 0)] [] [] else F4 else F4 := by kernel_rfl
theorem flXn (r : Mem) (bp op m : Nat) (k : Int) (x : Nat → Int) (K : KO) (kx : Nat → KS) (kr : KS) : run (SC r) mFl 132 1 (.seq Fl_2 (.seq Fl_3 (.seq Fl_4 (.seq Fl_5 (.seq Fl_7 (.cond (.tmp 59) (.seq Fl_8 Fl_9) .skip)))))) (lvlT (SC r) (tF2 (RS bp op m 0) k x) .nil 1 1) none (rbK 0 [1] [] K) kx kr [] (bT [1, 5] [some nilT, some (RS bp op m 0)] .nil) [] (mkA []) =
    bif m_svv [RS bp op m 0] [RS bp op m 0] then bif m_svv [RS bp op m 0] [RS bp op m 0] then bif m_svv [RS bp op m 0] [RS bp op m 0] then K [some (.slice none 0 0)] [] [] else F4 else F4 else F4 := by kernel_rfl
theorem flDr (r : Mem) (b2 o2 n2 c2 : Nat) (bp op m : Nat) (k : Int) (c : List Value) (K : KO) (kx : Nat → KS) (kr : KS) : run (SC r) mFl 132 1 (.seq Fl_2 (.seq Fl_3 (.seq Fl_4 Fl_5))) (lvlT (SC r) (tF0 (RS bp op m 0) k m c) .nil 1 1) none (rbK 0 [1, 5, 6, 9, 11] [] K) kx kr [] (bT [1, 5] [some (RS2 b2 o2 n2 c2), some (RS bp op m 0)] .nil) [] (mkA []) =
    bif m_svv [RS bp op m 0] [RS bp op m 0] then bif m_svv [RS bp op m 0] [RS bp op m 0] then bif m_svv [RS bp op m 0] [RS bp op m 0] then bif m_nns c && true then K [some (RS2 b2 o2 n2 c2), some (RS bp op m 0), some (.slice (some ⟨0, 0, none⟩) m m), some (.bool false), some (I k)] [] [some (.cells c 61 0 2)] else F4 else F4 else F4 else F4 := by kernel_rfl
theorem flEr (r : Mem) (b2 o2 n2 c2 : Nat) (bp op m : Nat) (k : Int) (c : List Value) (fs : FnsC) (K : KO) (kx : Nat → KS) (kr : KS) : run (SC r) mFl 132 1 Fl_7 fs none (rbK 0 [1, 5, 6, 11, 59] [] K) kx kr [] (bT [1, 5, 6, 9, 11] [some (RS2 b2 o2 n2 c2), some (RS bp op m 0), some (gy 0 m), some (.bool false), some (I k)] .nil) [] (mkA [oP2 c 0]) =
    bif m_nns c && true then K [some (RS2 b2 o2 n2 c2), some (RS bp op m 0), some (.slice (some ⟨0, 0, none⟩) m m), some (I k), some (.bool true)] [] [some (.cells c 61 0 2)] else F4 := by kernel_rfl
theorem flFr (r : Mem) (b2 o2 n2 c2 : Nat) (bp op bi oi m : Nat) (k : Int) (fs : FnsC) (K : KS) : preK (SC r) mFl 132 Fl_8 1 fs K [] (bT [1, 5, 6, 11, 59] [some (RS2 b2 o2 n2 c2), some (RS bp op m 0), some (RS bi oi m m), some (I k), some (.bool true)] .nil) [] (mkA []) =
    K [(61, RS bi oi m m)] (.node (.node (.node .nil none (.node .nil (some (I k)) (.node .nil none (.node .nil (some (.bool true)) .nil)))) (some (RS2 b2 o2 n2 c2)) (.node .nil (some (RS bp op m 0)) .nil)) none (.node .nil none (.node .nil (some (RS bi oi m m)) .nil))) [] (AW.mk 0 .nil .nil) := by kernel_rfl
theorem flGr (r : Mem) (b2 o2 n2 c2 : Nat) (bp op bi oi m : Nat) (k : Int) (c : List Value) (fs : FnsC) (K : KO) : tailK (SC r) mFl 132 Fl_8 1 fs (rbK 0 [1, 5, 6, 11, 13, 14] [] K) (.tuple ⟨[gy 0 m, I 0]⟩) [(61, RS bi oi m m)] (bT [1, 5, 6, 11, 59] [some (RS2 b2 o2 n2 c2), some (RS bp op m 0), some (RS bi oi m m), some (I k), some (.bool true)] .nil) [] (mkA [oTb c 0]) =
    bif m_nns c && true then K [some (RS2 b2 o2 n2 c2), some (RS bp op m 0), some (RS bi oi m m), some (I k), some (.slice (some ⟨0, 0, none⟩) m m), some (I (Int.ofNat 0))] [] [some (.cells c 64 0 1)] else F4 := by kernel_rfl
theorem flHr (r : Mem) (b2 o2 n2 c2 : Nat) (bp op bi oi bq oq m : Nat) (k : Int) (K : KO) (kx : Nat → KS) (kr : KS) : run (SC r) mFl 132 1 Fl_9 (lvlT (SC r) (tF9 (RS bp op m 0) (RS bq oq m m) (RS bi oi m m) k) .nil 1 1) none (rbK 0 [1] [] K) kx kr [] (bT [1, 5, 6, 11, 13, 14] [some (RS2 b2 o2 n2 c2), some (RS bp op m 0), some (RS bi oi m m), some (I k), some (RS bq oq m m), some (I 0)] .nil) [] (mkA []) =
    bif m_svv [RS bp op m 0, RS bq oq m m] [RS bp op m 0, RS bq oq m m] then bif m_svv [RS bi oi m m] [RS bi oi m m] then bif k != k then kr [] (.node (.node (.node .nil none (.node .nil (some (I k)) .nil)) (some (RS2 b2 o2 n2 c2)) (.node .nil (some (RS bp op m 0)) (.node .nil (some (RS bq oq m m)) .nil))) none (.node (.node .nil (some (.bool false)) .nil) none (.node .nil (some (RS bi oi m m)) (.node .nil (some (I (Int.ofNat 0))) .nil)))) [] (AW.mk 0 .nil .nil) else K [some (RS2 b2 o2 n2 c2)] [] [] else F4 else F4 := by kernel_rfl
theorem flXr (r : Mem) (b2 o2 n2 c2 : Nat) (bp op m : Nat) (k : Int) (x : Nat → Int) (K : KO) (kx : Nat → KS) (kr : KS) : run (SC r) mFl 132 1 (.seq Fl_2 (.seq Fl_3 (.seq Fl_4 (.seq Fl_5 (.seq Fl_7 (.cond (.tmp 59) (.seq Fl_8 Fl_9) .skip)))))) (lvlT (SC r) (tF2 (RS bp op m 0) k x) .nil 1 1) none (rbK 0 [1] [] K) kx kr [] (bT [1, 5] [some (RS2 b2 o2 n2 c2), some (RS bp op m 0)] .nil) [] (mkA []) =
    bif m_svv [RS bp op m 0] [RS bp op m 0] then bif m_svv [RS bp op m 0] [RS bp op m 0] then bif m_svv [RS bp op m 0] [RS bp op m 0] then K [some (RS2 b2 o2 n2 c2)] [] [] else F4 else F4 else F4 := by kernel_rfl
theorem flIn (r : Mem) (kn : KS) (kx : Nat → KS) (KR : KO) : run (SC r) mFl 132 1 (.seq Fl_11 (.seq Fl_12 (.seq Fl_14 Fl_15))) (lvlT (SC r) tAwF .nil 1 3) none kn kx (rbK 0 [4] [] KR) [] (bT [1] [some nilT] .nil) [] (mkA []) =
    KR [some (.bool true)] [] [] := by kernel_rfl
theorem flI0 (r : Mem) (b2 o2 c2 : Nat) (kn : KS) (kx : Nat → KS) (KR : KO) : run (SC r) mFl 132 1 (.seq Fl_11 (.seq Fl_12 (.seq Fl_14 Fl_15))) (lvlT (SC r) (tFz (RS2 b2 o2 0 c2)) .nil 1 3) none kn kx (rbK 0 [4] [] KR) [] (bT [1] [some (RS2 b2 o2 0 c2)] .nil) [] (mkA []) =
    bif m_svv [.slice (some ⟨b2, o2, some 0⟩) 0 c2] [.slice (some ⟨b2, o2, some 0⟩) 0 c2] then KR [some (.bool true)] [] [] else F4 := by kernel_rfl
theorem flJ (r : Mem) (b2 o2 n2 c2 m : Nat) (c : List Value) (K : KO) (kx : Nat → KS) (kr : KS) : run (SC r) mFl 132 1 Fl_11 (lvlT (SC r) (tFs (RS2 b2 o2 n2 c2) m c) .nil 1 1) none (rbK 0 [15] [] K) kx kr [] (bT [1] [some (RS2 b2 o2 n2 c2)] .nil) [] (mkA []) =
    bif m_sv [RS2 b2 o2 n2 c2] [RS2 b2 o2 n2 c2] then bif m_nns c && true then K [some (.slice (some ⟨0, 0, none⟩) m unk)] [] [some (.cells c 61 0 2)] else F4 else F4 := by kernel_rfl
theorem flK1 (r : Mem) (bx ox n : Nat) (kn : KS) (kx : Nat → KS) (KR : KO) : run (SC r) mFl 132 1 (.seq Fl_12 (.seq Fl_14 Fl_15)) (lvlT (SC r) (tFi (RS2 bx ox n 0) 1) .nil 1 1) none kn kx (rbK 0 [4] [] KR) [] (bT [15] [some (RS2 bx ox n 0)] .nil) [] (mkA []) =
    bif m_svv [RS bx ox n 0] [RS bx ox n 0] then KR [some (.bool true)] [] [] else F4 := by kernel_rfl
theorem flK2 (r : Mem) (bx ox n : Nat) (kn : KS) (kx : Nat → KS) (KR : KO) : run (SC r) mFl 132 1 (.seq Fl_12 (.seq Fl_14 Fl_15)) (lvlT (SC r) (tFi (RS2 bx ox n 0) 2) .nil 1 1) none kn kx (rbK 0 [4] [] KR) [] (bT [15] [some (RS2 bx ox n 0)] .nil) [] (mkA []) =
    bif m_svv [RS bx ox n 0] [RS bx ox n 0] then KR [some (.bool true)] [] [] else F4 := by kernel_rfl
theorem flK0 (r : Mem) (bx ox n : Nat) (K : KO) (kx : Nat → KS) (kr : KS) : run (SC r) mFl 132 1 Fl_12 (lvlT (SC r) (tFi (RS2 bx ox n 0) 0) .nil 1 1) none (rbK 0 [15] [] K) kx kr [] (bT [15] [some (RS2 bx ox n 0)] .nil) [] (mkA []) =
    bif m_svv [RS bx ox n 0] [RS bx ox n 0] then K [some (RS bx ox n 0)] [] [] else F4 := by kernel_rfl
theorem flL (r : Mem) (bx ox n : Nat) (fs : FnsC) (K : KS) : preK (SC r) mFl 132 Fl_14 1 fs K [] (bT [15] [some (RS2 bx ox n 0)] .nil) [] (mkA []) =
    K [(86, RS bx ox n 0)] (.node (.node (.node (.node (.node .nil (some (RS bx ox n 0)) .nil) none .nil) none .nil) none .nil) none .nil) [] (AW.mk 0 .nil .nil) := by kernel_rfl
theorem flM (r : Mem) (bx ox n : Nat) (c : List Value) (fs : FnsC) (K : KO) : tailK (SC r) mFl 132 Fl_14 1 fs (rbK 0 [7, 15, 16] [] K) (.tuple ⟨[gy 0 n, I 0]⟩) [(86, RS2 bx ox n 0)] (bT [15] [some (RS2 bx ox n 0)] .nil) [] (mkA [oTb c 0]) =
    bif m_nns c && true then K [some (I (Int.ofNat 0)), some (RS bx ox n 0), some (.slice (some ⟨0, 0, none⟩) n n)] [] [some (.cells c 64 0 1)] else F4 := by kernel_rfl
theorem flN (r : Mem) (bx ox n bq oq : Nat) (c : List Value) (k e : Int) (kn : KS) (kx : Nat → KS) (KR : KO) : run (SC r) mFl 132 1 Fl_15 (lvlT (SC r) (tFn (RS bq oq n n) (RS2 bx ox n 0) n c k e) .nil 1 1) none kn kx (rbK 0 [4] [] KR) [] (bT [7, 15, 16] [some (I 0), some (RS2 bx ox n 0), some (RS bq oq n n)] .nil) [] (mkA []) =
    bif m_svv [RS bq oq n n] [RS bq oq n n] then bif m_svv [RS bq oq n n] [RS bq oq n n] then bif Int.ofNat n == Int.ofNat n then bif m_eg n c 0 n n c then bif k == k then bif m_svv [RS bx ox n 0] [RS bx ox n 0] then bif decide (e ≥ k) then KR [some (.bool true)] [] [] else KR [some (.bool false)] [] [] else F4 else KR [some (.bool false)] [] [] else F4 else KR [some (.bool false)] [] [] else F4 else F4 := by kernel_rfl
end Go.Proofs
namespace Go.Proofs
open Go Go.Ev Go.Num
theorem tAwF_ok {r : Mem} (hm : ∀ b j u, tabM b j = some u → r b j = some u) : TOk (SC r) tAwF := TOk.nil.cons (e0_ok (awake10.more hm))
theorem reachG_then {P : Program} {m n : Nat} {F : Fence} {k : Nat} {γ0 : Gam} {W0 : World} {c : Code} {r : Mem} {st : St} {o1 o2 : OutsG} {ox : Nat → OutsG} {orr : OutsG} (h : ReachG P m n F k γ0 W0 c r st (CanG P m n γ0 W0 o1 (fun _ => OutsG.no) OutsG.no)) (hq : ∀ r vs ms os, o1.Q r vs ms os → IsG P m n γ0 W0 o2 r (St.of o1.lv vs ms os)) : ReachG P m n F k γ0 W0 c r st (CanG P m n γ0 W0 o2 ox orr) :=
 ReachG.mono h fun ex r1 st h => by
  cases ex with
  | normal =>
   intro γ' a W' hs hb
   obtain ⟨r2, γ1, vs, ms, os, q, s1, b1⟩ := h γ' a W' hs hb
   exact hq r2 vs ms os q γ1 a W' s1 b1
  | exit id =>
   intro γ' a W' hs hb
   obtain ⟨_, _, _, _, _, hf, _⟩ := h γ' a W' hs hb
   exact hf.elim
  | ret =>
   intro γ' a W' hs hb
   obtain ⟨_, _, _, _, _, hf, _⟩ := h γ' a W' hs hb
   exact hf.elim
  | _ => exact h
theorem TabC.tabM {r r1 : Mem} (hle : Mem.le r r1) {c : List Value} {T : List (List Bool)} (hT : TabC r c T) {b o : Nat} (hrow : ∀ k u, c[k]? = some u → r1 b (o + k) = some u) : TabM r1 b o T := fun i l hl => by
 have hi : i < T.length := (List.getElem?_eq_some_iff.1 hl).1
 obtain ⟨v, hv⟩ : ∃ v, c[i]? = some v := ⟨_, List.getElem?_eq_getElem (by rw [hT.1]; exact hi)⟩
 exact ⟨v, hrow _ _ hv, (hT.2 i v l hv hl).mono hle⟩
theorem TabM.mono {r r1 : Mem} (hle : Mem.le r r1) {b o : Nat} {T : List (List Bool)} (h : TabM r b o T) : TabM r1 b o T := fun i l hl => by
 obtain ⟨v, h1, h2⟩ := h i l hl
 exact ⟨v, hle _ _ _ h1, h2.mono hle⟩
section
variable {r : Mem} {b off n cap m : Nat} {z : Nat → Int}
theorem eSpF_ok (hl : n ≤ cap) (hc : cap ≤ maxLen) (hm : m = min n 13) (h1 : 1 ≤ m) (hz : rowAt r b off (2 * m) z) : EOk (SC r) 5 (eSpF (RS2 b off n cap) m (ixN z (2 * m))) := fun args A hgd F hF k γ W args' hw hR ha => by
 refine ⟨fun hcc => ?_, fun h => nomatch h⟩
 have hs := @of_decide_eq_true _ (Classical.propDecidable _) hgd
 subst hs
 have hof : ofV 0 (gw 0 m) = true := by simp [ofV, of1]
 exact (sp_row hl hc hm h1 hz).ends (γ := γ) (A := A) hof (ix_gnd _ _) hF hw (hR.noG noG fun _ => rfl) (ha.of_ros rfl) ha
theorem eEn_ok {zx : Nat → Int} {k e : Int} (hx : rowAt r b off (2 * n) zx) (h1 : 1 ≤ n) (hn : n ≤ 12) (hk : k = ((enD z (2 * n)).length : Nat)) (he : e = ((enD zx (2 * n)).length : Nat)) : EOk (SC r) 18 (eEn n (ixN z (2 * n)) k (RS2 b off n cap) e) := EOk.ent fun args A hgd => by
 subst hk he
 split at hgd
 ·rename_i i o l z1
  split at hgd
  ·rename_i ci e f sz hgi
   obtain ⟨rfl, rfl, hz1, rfl⟩ := @of_decide_eq_true _ (Classical.propDecidable _) hgd
   refine POk.of rfl fun γ W args' hw hR ha => ?_
   obtain ⟨la⟩ := args'
   cases ha with
   | cons h2 h3 =>
   cases h3
   obtain ⟨b, k', p1, p2⟩ := own_row hw hR (natFx hz1) hgi h2
   exact ⟨memW W, [RS2 b k' l 0], memW_ro W, .cons p1 .nil, en_ok (fun j hj => p2 j _ (ix_get hj) rfl) h1 hn⟩
  ·cases hgd
 ·have hs := @of_decide_eq_true _ (Classical.propDecidable _) hgd
  subst hs
  exact (en_ok hx h1 hn).ro rfl A
end
section
variable {r : Mem} {bp op : Nat} {T : List (List Bool)} {U : Value} {X : Code}
theorem fl_first (hmt : ∀ b j u, tabM b j = some u → r b j = some u) (hM : TabM r bp op T) (hc : ckO T = true) (hU : ∀ b o, frzV 0 b o U = some U)
  (hsD : ∀ (r : Mem) (bp op m : Nat) (k : Int) (c : List Value), m_nns c = true → ∀ (K : KO) (kx : Nat → KS) (kr : KS), run (SC r) mFl 132 1 (.seq Fl_2 (.seq Fl_3 (.seq Fl_4 Fl_5))) (lvlT (SC r) (tF0 (RS bp op m 0) k m c) .nil 1 1) none (rbK 0 [1, 5, 6, 9, 11] [] K) kx kr [] (bT [1, 5] [some U, some (RS bp op m 0)] .nil) [] (mkA []) = K [some U, some (RS bp op m 0), some (gy 0 m), some (.bool false), some (I k)] [] [oP2 c 0])
  (hsE : ∀ (r : Mem) (bp op m : Nat) (k : Int) (c : List Value), m_nns c = true → ∀ (fs : FnsC) (K : KO) (kx : Nat → KS) (kr : KS), run (SC r) mFl 132 1 Fl_7 fs none (rbK 0 [1, 5, 6, 11, 59] [] K) kx kr [] (bT [1, 5, 6, 9, 11] [some U, some (RS bp op m 0), some (gy 0 m), some (.bool false), some (I k)] .nil) [] (mkA [oP2 c 0]) = K [some U, some (RS bp op m 0), some (gy 0 m), some (I k), some (.bool true)] [] [oP2 c 0])
  (hsF : ∀ (r : Mem) (bp op bi oi m : Nat) (k : Int) (fs : FnsC) (K : KS), preK (SC r) mFl 132 Fl_8 1 fs K [] (bT [1, 5, 6, 11, 59] [some U, some (RS bp op m 0), some (RS bi oi m m), some (I k), some (.bool true)] .nil) [] (mkA []) = K [(61, RS bi oi m m)] (bT [1, 5, 6, 11, 59] [some U, some (RS bp op m 0), some (RS bi oi m m), some (I k), some (.bool true)] .nil) [] (mkA []))
  (hsY : ∀ (r : Mem) (bp op bi oi m : Nat) (k : Int), callAtG (SC r) mFl Fl_8 1 ⟨[(61, RS bi oi m m)], bT [1, 5, 6, 11, 59] [some U, some (RS bp op m 0), some (RS bi oi m m), some (I k), some (.bool true)] .nil⟩ (mkA []) = some (6, [RS bi oi m m], emptyA))
  (hsG : ∀ (r : Mem) (bp op bi oi m : Nat) (k : Int) (c : List Value), m_nns c = true → ∀ (fs : FnsC) (K : KO), tailK (SC r) mFl 132 Fl_8 1 fs (rbK 0 [1, 5, 6, 11, 13, 14] [] K) (.tuple ⟨[gy 0 m, I 0]⟩) [(61, RS bi oi m m)] (bT [1, 5, 6, 11, 59] [some U, some (RS bp op m 0), some (RS bi oi m m), some (I k), some (.bool true)] .nil) [] (mkA [oTb c 0]) = K [some U, some (RS bp op m 0), some (RS bi oi m m), some (I k), some (gy 0 m), some (I 0)] [] [oTb c 0])
  (hsH : ∀ (r : Mem) (bp op bi oi bq oq m : Nat) (k : Int) (K : KO) (kx : Nat → KS) (kr : KS), run (SC r) mFl 132 1 Fl_9 (lvlT (SC r) (tF9 (RS bp op m 0) (RS bq oq m m) (RS bi oi m m) k) .nil 1 1) none (rbK 0 [1] [] K) kx kr [] (bT [1, 5, 6, 11, 13, 14] [some U, some (RS bp op m 0), some (RS bi oi m m), some (I k), some (RS bq oq m m), some (I 0)] .nil) [] (mkA []) = K [some U] [] [])
  (hsX : ∀ (r : Mem) (bp op m : Nat) (k : Int) (x : Nat → Int) (K : KO) (kx : Nat → KS) (kr : KS), run (SC r) mFl 132 1 (.seq Fl_2 (.seq Fl_3 (.seq Fl_4 (.seq Fl_5 (.seq Fl_7 (.cond (.tmp 59) (.seq Fl_8 Fl_9) .skip)))))) (lvlT (SC r) (tF2 (RS bp op m 0) k x) .nil 1 1) none (rbK 0 [1] [] K) kx kr [] (bT [1, 5] [some U, some (RS bp op m 0)] .nil) [] (mkA []) = K [some U] [] [])
  {γ : Gam} {W : World} {F : Fence} {kk : Nat} (hF : Wide F) (hro : RoRel γ none F.round) (h0' : ∀ i, 0 ≤ i → γ i = none) {on orr : OutsG} {ox : Nat → OutsG}
  (hX : ∀ r2, Mem.le r r2 → ReachG Tryd.prog mFl 132 F kk γ W X r2 (St.of [1] [some U] [] []) (CanG Tryd.prog mFl 132 γ W on ox orr)) :
  ReachG Tryd.prog mFl 132 F kk γ W (.seq Fl_2 (.seq Fl_3 (.seq Fl_4 (.seq Fl_5 (.seq (.seq Fl_7 (.cond (.tmp 59) (.seq Fl_8 Fl_9) .skip)) X))))) r (St.of [1, 5] [some U, some (RS bp op T.length 0)] [] []) (CanG Tryd.prog mFl 132 γ W on ox orr) := by
 have hl := ck_len hc
 obtain ⟨k, hk⟩ : ∃ k : Int, k = ((rsN (clW T) T.length).length : Nat) := ⟨_, rfl⟩
 have hmg := mg_ok (cap := 0) hmt hM rfl hc
 rw [← hk] at hmg
 have ht := tt_ok (cap := 0) hmt hM rfl hc
 cases hO : twO (clW T) T.length with
 | some p =>
  have hI := in_no (cap := 0) hmt hM rfl hc (by rw [hO]; rfl)
  rw [hO] at ht
  refine ReachG.afterG (SC_ok r) (t := tF2 (RS bp op T.length 0) k (twV (clW T) T.length)) (((TOk.nil.cons (eVv_ok rfl hmg)).cons (eVv_ok rfl ht)).cons (eVv_ok rfl hI)) (tm := .nil) (L := 1) (L' := 1) (d := 1) hF hro h0' (.step (.step (.step (.step .base)))) (o1 := ⟨[1], [], fun vs ms os => vs = [some U] ∧ ms = [] ∧ os = []⟩) ?_ ((hsX r bp op T.length k (twV (clW T) T.length) _ _ _).trans (qq_ok ⟨rfl, rfl, rfl⟩))
  rintro vs ms os ⟨rfl, rfl, rfl⟩
  exact hX r (Mem.le_refl r)
 | none =>
  have hI := in_yes (cap := 0) hmt hM rfl hc (by rw [hO]; rfl)
  rw [hO] at ht
  have hv : x4 (twV (clW T) T.length) = z4i := by unfold x4 twV; rw [hO]; rfl
  rw [hv] at ht
  have hnn := ix_nn (ciZ (clW T) T.length) (2 * T.length)
  have hunk : T.length < unk := by unfold unk; omega
  refine ReachG.afterG (SC_ok r) (t := tF0 (RS bp op T.length 0) k T.length (ixN (ciZ (clW T) T.length) (2 * T.length))) (((TOk.nil.cons (eVv_ok rfl hmg)).cons (eVv_ok rfl ht)).cons (eI2n_ok (by omega) rfl (ix_gnd _ _) hI)) (tm := .nil) (L := 1) (L' := 1) (d := 1) hF hro h0' (.step (.step (.step .base))) (o1 := ⟨[1, 5, 6, 9, 11], [], fun vs ms os => vs = [some U, some (RS bp op T.length 0), some (gy 0 T.length), some (.bool false), some (I k)] ∧ ms = [] ∧ os = [oP2 (ixN (ciZ (clW T) T.length) (2 * T.length)) 0]⟩) ?_ ((hsD r bp op T.length k _ hnn _ _ _).trans (qq_ok ⟨rfl, rfl, rfl⟩))
  rintro vs ms os ⟨rfl, rfl, rfl⟩
  refine ReachG.seqC (o1 := ⟨[1], fun r2 vs ms os => Mem.le r r2 ∧ vs = [some U] ∧ ms = [] ∧ os = []⟩) ?_ fun r2 vs ms os hq => ?_
  rotate_left
  ·obtain ⟨hle, rfl, rfl, rfl⟩ := hq
   exact hX r2 hle
  refine ReachG.seqC (o1 := ⟨[1, 5, 6, 11, 59], fun r2 vs ms os => Mem.le r r2 ∧ ∃ bi oi, rowAt r2 bi oi (2 * T.length) (ciZ (clW T) T.length) ∧ vs = [some U, some (RS bp op T.length 0), some (RS bi oi T.length T.length), some (I k), some (.bool true)] ∧ ms = [] ∧ os = []⟩) (ReachG.segR (SC_ok r) TOk.nil (tm := .nil) (L := 1) (L' := 1) (d := 1) (n0 := 0) hF hro h0' [] (on := ⟨[1, 5, 6, 11, 59], [], fun vs ms os => vs = [some U, some (RS bp op T.length 0), some (gy 0 T.length), some (I k), some (.bool true)] ∧ ms = [] ∧ os = [oP2 (ixN (ciZ (clW T) T.length) (2 * T.length)) 0]⟩) (ox := fun _ => Outs.no) (orr := Outs.no) (fun p hp => nomatch hp) ((hsE r bp op T.length k _ hnn _ _ _ _).trans (qq_ok ⟨rfl, rfl, rfl⟩)) ?_ (fun _ _ _ _ h => h.elim) (fun _ _ _ h => h.elim)) fun r2 vs ms os hq => ?_
  ·rintro vs ms os ⟨rfl, rfl, rfl⟩
   refine IsG.freeze (os0 := []) (j := 0) h0' rfl (Nat.zero_le _) rfl hnn fun b' o' r2 hle2 hrow => ?_
   have hf := frzZ 0 b' o' T.length hunk
   have hf1 := hU b' o'
   have hf2 : frzV 0 b' o' (RS bp op T.length 0) = some (RS bp op T.length 0) := rfl
   have hf3 : frzV 0 b' o' (I k) = some (I k) := rfl
   have hf4 : frzV 0 b' o' (.bool true) = some (.bool true) := rfl
   exact ⟨[some U, some (RS bp op T.length 0), some (RS b' o' T.length T.length), some (I k), some (.bool true)], [], by simp only [frzO, hf, hf1, hf2, hf3, hf4], rfl, hle2, b', o', fun j hj => hrow j _ (ix_get hj), rfl, rfl, rfl⟩
  obtain ⟨hle2, bi, oi, hzi, rfl, rfl, rfl⟩ := hq
  have hm2 : ∀ b j u, tabM b j = some u → r2 b j = some u := fun b j u h => hle2 _ _ _ (hmt _ _ _ h)
  refine ReachG.cond rfl (fun _ => ?_) (fun h => nomatch h)
  refine ReachG.seqC (o1 := ⟨[1, 5, 6, 11, 13, 14], fun r3 vs ms os => Mem.le r2 r3 ∧ ∃ bq oq, TabM r3 bq oq T ∧ vs = [some U, some (RS bp op T.length 0), some (RS bi oi T.length T.length), some (I k), some (RS bq oq T.length T.length), some (I 0)] ∧ ms = [] ∧ os = []⟩) ?_ fun r3 vs ms os hq => ?_
  ·refine reachG_then (o1 := ⟨[1, 5, 6, 11, 13, 14], fun r1 vs ms os => Mem.le r2 r1 ∧ ∃ c, vs = [some U, some (RS bp op T.length 0), some (RS bi oi T.length T.length), some (I k), some (gy 0 T.length), some (I 0)] ∧ ms = [] ∧ os = [oTb c 0] ∧ TabC r1 c T ∧ m_nns c = true⟩) (ReachG.callC (fl := []) SC_ok hF h0' TOk.nil (tm := .nil) (L := 1) (d := 1) 1 (s1 := [(61, RS bi oi T.length T.length)]) (b1 := bT [1, 5, 6, 11, 59] [some U, some (RS bp op T.length 0), some (RS bi oi T.length T.length), some (I k), some (.bool true)] .nil) (ms1 := []) (A1 := mkA []) (A2 := emptyA) (i := 6) (args := [RS bi oi T.length T.length]) ((hsF r2 bp op bi oi T.length k _ _).trans (qn_ok rfl)) (hsY r2 bp op bi oi T.length k) (fi_ok hm2 hzi hl.1 hl.2 (ci_ok hc)) ?_) fun r1 vs ms os h => ?_
   ·rintro v A' r1 ⟨hle, c, rfl, rfl, hT, hcn⟩
    rw [ci_tS hc hO] at hT
    exact ⟨fun _ => none, TOk.nil, .nil, 1, 1, (hsG r1 bp op bi oi T.length k c hcn _ _).trans (qq_ok ⟨hle, c, rfl, rfl, rfl, hT, hcn⟩)⟩
   ·obtain ⟨hle, c, rfl, rfl, rfl, hT, hcn⟩ := h
    refine IsG.freeze (os0 := []) (j := 0) h0' rfl (Nat.zero_le _) rfl hcn fun b' o' r3 hle3 hrow => ?_
    have hf := frzZ 0 b' o' T.length hunk
    have hf1 := hU b' o'
    have hf2 : frzV 0 b' o' (RS bp op T.length 0) = some (RS bp op T.length 0) := rfl
    have hf5 : frzV 0 b' o' (RS bi oi T.length T.length) = some (RS bi oi T.length T.length) := rfl
    have hf3 : ∀ x, frzV 0 b' o' (I x) = some (I x) := fun _ => rfl
    exact ⟨[some U, some (RS bp op T.length 0), some (RS bi oi T.length T.length), some (I k), some (RS b' o' T.length T.length), some (I 0)], [], by simp only [frzO, hf, hf1, hf2, hf3, hf5], rfl, Mem.le_trans hle hle3, b', o', hT.tabM hle3 hrow, rfl, rfl, rfl⟩
  obtain ⟨hle3, bq, oq, hMq, rfl, rfl, rfl⟩ := hq
  have hz3 : rowAt r3 bi oi (2 * T.length) (ciZ (clW T) T.length) := fun j hj => hle3 _ _ _ (hzi j hj)
  have hen := en_ok (cap := T.length) hz3 hl.1 hl.2
  rw [ci_ends hc, ← hk] at hen
  have hys := ys_ok (cap := 0) (c2 := T.length) (n := T.length) (by omega) rfl (fun i hi => (ck_row hc hi).1) ((hM.mono hle2).mono hle3) hMq
  exact ReachG.segR (SC_ok r3) (t := tF9 (RS bp op T.length 0) (RS bq oq T.length T.length) (RS bi oi T.length T.length) k) ((TOk.nil.cons (eVv_ok rfl hen)).cons (eVv_ok rfl hys)) (tm := .nil) (L := 1) (L' := 1) (d := 1) (n0 := 0) hF hro h0' [] (on := ⟨[1], [], fun vs ms os => vs = [some U] ∧ ms = [] ∧ os = []⟩) (ox := fun _ => Outs.no) (orr := Outs.no) (fun p hp => nomatch hp) ((hsH r3 bp op bi oi bq oq T.length k _ _ _).trans (qq_ok ⟨rfl, rfl, rfl⟩)) (fun vs ms os h => IsG.here ⟨Mem.le_trans hle2 hle3, h⟩) (fun _ _ _ _ h => h.elim) (fun _ _ _ h => h.elim)
end
end Go.Proofs
