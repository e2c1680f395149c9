/- What the claim is proved with, part 4: the evaluator and the contracts of the calls. -/
import Derived.Test.YtdalaifnhppidaaDoorPack3
import Derived.Test.YtdalaifnhppidaaDoorPack1
import Derived.Test.YtdalaifnhppidaaDoorPack2
set_option linter.unusedVariables false
set_option linter.unusedSimpArgs false
set_option maxRecDepth 100000
namespace Go.Proofs
open Go Go.Ev Go.Num
def oFl : OutsG := ⟨[4], fun _ vs ms os => vs = [some (.bool true)] ∧ ms = [] ∧ os = []⟩
noncomputable def Fl_x : Code := .seq Fl_11 (.seq Fl_12 (.seq Fl_14 Fl_15))
section
variable {r : Mem} {γ : Gam} {W : World} {F : Fence} {kk : Nat} (hm : ∀ b j u, tabM b j = some u → r b j = some u) (hF : Wide F) (hro : RoRel γ none F.round) (h0' : ∀ i, 0 ≤ i → γ i = none)
include hm hF hro h0'
theorem fl_nil : ReachG Tryd.prog mFl 132 F kk γ W Fl_x r (St.of [1] [some nilT] [] []) (CanG Tryd.prog mFl 132 γ W oFl (fun _ => OutsG.no) oFl) :=
 ReachG.segR (SC_ok r) (tAwF_ok hm) (tm := .nil) (L := 1) (L' := 1) (d := 3) (n0 := 0) hF hro h0' [] (on := Outs.no) (ox := fun _ => Outs.no) (orr := ⟨[4], [], fun vs ms os => vs = [some (.bool true)] ∧ ms = [] ∧ os = []⟩) (fun p hp => nomatch hp) ((flIn r _ _ _).trans (qq_ok ⟨rfl, rfl, rfl⟩)) (fun _ _ _ h => h.elim) (fun _ _ _ _ h => h.elim) (fun vs ms os h => IsG.here h)
theorem fl_0 {b2 o2 c2 : Nat} (hc : c2 ≤ maxLen) : ReachG Tryd.prog mFl 132 F kk γ W Fl_x r (St.of [1] [some (RS2 b2 o2 0 c2)] [] []) (CanG Tryd.prog mFl 132 γ W oFl (fun _ => OutsG.no) oFl) := by
 refine ReachG.segR (SC_ok r) (t := tFz (RS2 b2 o2 0 c2)) ((tAwF_ok hm).cons (eVv_ok rfl (sp_0 (r := r) hc))) (tm := .nil) (L := 1) (L' := 1) (d := 3) (n0 := 0) hF hro h0' [] (on := Outs.no) (ox := fun _ => Outs.no) (orr := ⟨[4], [], fun vs ms os => vs = [some (.bool true)] ∧ ms = [] ∧ os = []⟩) (fun p hp => nomatch hp) ?_ (fun _ _ _ h => h.elim) (fun _ _ _ _ h => h.elim) (fun vs ms os h => IsG.here h)
 have hn' := flI0 r b2 o2 c2
 simp only [svv_rfl, cond_true] at hn'
 exact (hn' _ _ _).trans (qq_ok ⟨rfl, rfl, rfl⟩)
theorem fl_bad {bx ox m : Nat} {z : Nat → Int} (hz : rowAt r bx ox (2 * m) z) (hn : m ≤ 1000) (hno : ¬ (1 ≤ m ∧ m ≤ 12 ∧ okS z m)) : ReachG Tryd.prog mFl 132 F kk γ W (.seq Fl_12 (.seq Fl_14 Fl_15)) r (St.of [15] [some (RS2 bx ox m 0)] [] []) (CanG Tryd.prog mFl 132 γ W oFl (fun _ => OutsG.no) oFl) := by
 have e3 := yi_ok (cap := 0) hz hn (erS m) (fun h => absurd h hno) fun _ => rfl
 have ht : TOk (SC r) (tFi (RS2 bx ox m 0) (erS m)) := (tAwF_ok hm).cons (eVv_ok rfl e3)
 have fin : ∀ {e : Int}, TOk (SC r) (tFi (RS2 bx ox m 0) e) → (∀ (kn : KS) (kx : Nat → KS) (KR : KO), run (SC r) mFl 132 1 (.seq Fl_12 (.seq Fl_14 Fl_15)) (lvlT (SC r) (tFi (RS2 bx ox m 0) e) .nil 1 1) none kn kx (rbK 0 [4] [] KR) [] (bT [15] [some (RS2 bx ox m 0)] .nil) [] (mkA []) = KR [some (.bool true)] [] []) → ReachG Tryd.prog mFl 132 F kk γ W (.seq Fl_12 (.seq Fl_14 Fl_15)) r (St.of [15] [some (RS2 bx ox m 0)] [] []) (CanG Tryd.prog mFl 132 γ W oFl (fun _ => OutsG.no) oFl) := fun {e} ht h =>
  ReachG.segR (SC_ok r) ht (tm := .nil) (L := 1) (L' := 1) (d := 1) (n0 := 0) hF hro h0' [] (on := Outs.no) (ox := fun _ => Outs.no) (orr := ⟨[4], [], fun vs ms os => vs = [some (.bool true)] ∧ ms = [] ∧ os = []⟩) (fun p hp => nomatch hp) ((h _ _ _).trans (qq_ok ⟨rfl, rfl, rfl⟩)) (fun _ _ _ h => h.elim) (fun _ _ _ _ h => h.elim) (fun vs ms os h => IsG.here h)
 unfold erS at ht
 by_cases c : m ≤ 12
 ·rw [if_pos c] at ht
  exact fin ht fun kn kx KR => by
   have hn' := flK1 r bx ox m
   simp only [svv_rfl, cond_true] at hn'
   exact hn' _ _ _
 ·rw [if_neg c] at ht
  exact fin ht fun kn kx KR => by
   have hn' := flK2 r bx ox m
   simp only [svv_rfl, cond_true] at hn'
   exact hn' _ _ _
theorem fl_go {bx ox m : Nat} {z : Nat → Int} (hz : rowAt r bx ox (2 * m) z) (h1 : 1 ≤ m) (hn : m ≤ 12) (hok : okS z m) : ReachG Tryd.prog mFl 132 F kk γ W (.seq Fl_12 (.seq Fl_14 Fl_15)) r (St.of [15] [some (RS2 bx ox m 0)] [] []) (CanG Tryd.prog mFl 132 γ W oFl (fun _ => OutsG.no) oFl) := by
 have hTl := tS_len z m
 have hck := tS_ck h1 hn hok
 have hno : twO (clW (tS z m)) m = none := tS_no
 have hunk : m < unk := by unfold unk; omega
 refine ReachG.seqC (o1 := ⟨[15], fun r1 vs ms os => r1 = r ∧ vs = [some (RS2 bx ox m 0)] ∧ ms = [] ∧ os = []⟩) (ReachG.segR (SC_ok r) (t := tFi (RS2 bx ox m 0) 0) ((tAwF_ok hm).cons (eVv_ok rfl (yi_ok (cap := 0) hz (by omega) 0 (fun _ => rfl) fun h => absurd ⟨h1, hn, hok⟩ h))) (tm := .nil) (L := 1) (L' := 1) (d := 1) (n0 := 0) hF hro h0' [] (on := ⟨[15], [], fun vs ms os => vs = [some (RS2 bx ox m 0)] ∧ ms = [] ∧ os = []⟩) (ox := fun _ => Outs.no) (orr := Outs.no) (fun p hp => nomatch hp) ?_ (fun vs ms os h => IsG.here ⟨rfl, h⟩) (fun _ _ _ _ h => h.elim) (fun _ _ _ h => h.elim)) fun r1 vs ms os hq => ?_
 ·have hn' := flK0 r bx ox m
  simp only [svv_rfl, cond_true] at hn'
  exact (hn' _ _ _).trans (qq_ok ⟨rfl, rfl, rfl⟩)
 obtain ⟨rfl, rfl, rfl, rfl⟩ := hq
 refine ReachG.seqC (o1 := ⟨[7, 15, 16], fun r2 vs ms os => Mem.le r1 r2 ∧ ∃ bq oq, TabM r2 bq oq (tS z m) ∧ vs = [some (I 0), some (RS2 bx ox m 0), some (RS bq oq m m)] ∧ ms = [] ∧ os = []⟩) ?_ fun r2 vs ms os hq => ?_
 ·refine reachG_then (o1 := ⟨[7, 15, 16], fun r2 vs ms os => Mem.le r1 r2 ∧ ∃ c, vs = [some (I 0), some (RS2 bx ox m 0), some (gy 0 m)] ∧ ms = [] ∧ os = [oTb c 0] ∧ TabC r2 c (tS z m) ∧ m_nns c = true⟩) (ReachG.callC (fl := []) SC_ok hF h0' TOk.nil (tm := .nil) (L := 1) (d := 1) 1 (s1 := [(86, RS2 bx ox m 0)]) (b1 := bT [15] [some (RS2 bx ox m 0)] .nil) (ms1 := []) (A1 := mkA []) (A2 := emptyA) (i := 6) (args := [RS2 bx ox m 0]) ((flL r1 bx ox m _ _).trans (qn_ok rfl)) (by kernel_rfl) (fi_ok hm hz h1 hn hok) ?_) fun r2 vs ms os h => ?_
  ·rintro v A' r2 ⟨hle, c, rfl, rfl, hT, hcn⟩
   refine ⟨fun _ => none, TOk.nil, .nil, 1, 1, ?_⟩
   have hn' := flM r2 bx ox m c
   simp only [hcn, Bool.and_true, cond_true] at hn'
   exact (hn' _ _).trans (qq_ok ⟨hle, c, rfl, rfl, rfl, hT, hcn⟩)
  ·obtain ⟨hle, c, rfl, rfl, rfl, hT, hcn⟩ := h
   refine IsG.freeze (os0 := []) (j := 0) h0' rfl (Nat.zero_le _) rfl hcn fun b' o' r3 hle3 hrow => ?_
   have hf := frzZ 0 b' o' m hunk
   have hf2 : frzV 0 b' o' (RS2 bx ox m 0) = some (RS2 bx ox m 0) := rfl
   have hf3 : ∀ x, frzV 0 b' o' (I x) = some (I x) := fun _ => rfl
   exact ⟨[some (I 0), some (RS2 bx ox m 0), some (RS b' o' m m)], [], by simp only [frzO, hf, hf2, hf3], rfl, Mem.le_trans hle hle3, b', o', hT.tabM hle3 hrow, rfl, rfl, rfl⟩
 obtain ⟨hle2, bq, oq, hMq, rfl, rfl, rfl⟩ := hq
 have hm2 : ∀ b j u, tabM b j = some u → r2 b j = some u := fun b j u h => hle2 _ _ _ (hm _ _ _ h)
 have hz2 : rowAt r2 bx ox (2 * m) z := fun j hj => hle2 _ _ _ (hz j hj)
 obtain ⟨k, hk⟩ : ∃ k : Int, k = ((rsN (clW (tS z m)) m).length : Nat) := ⟨_, rfl⟩
 obtain ⟨e, he⟩ : ∃ e : Int, e = ((enD z (2 * m)).length : Nat) := ⟨_, rfl⟩
 have hmg := mg_ok (cap := m) hm2 hMq hTl hck
 rw [← hk] at hmg
 have hI := in_yes (cap := m) hm2 hMq hTl hck (by rw [hno]; rfl)
 have hend := ci_ends hck
 rw [hTl] at hend
 have hge : e ≥ k := by
  have := ends_few (z := z) (n := m)
  omega
 refine ReachG.segR (SC_ok r2) (t := tFn (RS bq oq m m) (RS2 bx ox m 0) m (ixN (ciZ (clW (tS z m)) m) (2 * m)) k e) ((((tAwF_ok hm2).cons (eEn_ok hz2 h1 hn (by rw [hend, hk]) he)).cons (eI2n_ok (by omega) rfl (ix_gnd _ _) hI)).cons (eVv_ok rfl hmg)) (tm := .nil) (L := 1) (L' := 1) (d := 1) (n0 := 0) hF hro h0' [] (on := Outs.no) (ox := fun _ => Outs.no) (orr := ⟨[4], [], fun vs ms os => vs = [some (.bool true)] ∧ ms = [] ∧ os = []⟩) (fun p hp => nomatch hp) ?_ (fun _ _ _ h => h.elim) (fun _ _ _ _ h => h.elim) (fun vs ms os h => IsG.here h)
 have hn' := flN r2 bx ox m bq oq (ixN (ciZ (clW (tS z m)) m) (2 * m)) k e
 have heg : m_eg m (ixN (ciZ (clW (tS z m)) m) (2 * m)) 0 m m (ixN (ciZ (clW (tS z m)) m) (2 * m)) = true := @decide_eq_true _ (Classical.propDecidable _) ⟨rfl, rfl, by unfold unkE; omega, rfl⟩
 simp only [svv_rfl, heg, beq_self_eq_true, dT hge, cond_true] at hn'
 exact (hn' _ _ _).trans (qq_ok ⟨rfl, rfl, rfl⟩)
theorem fl_row {b off n cap m : Nat} {z : Nat → Int} (hl : n ≤ cap) (hc : cap ≤ maxLen) (hmn : m = min n 13) (h1 : 1 ≤ m) (hz : rowAt r b off (2 * m) z) : ReachG Tryd.prog mFl 132 F kk γ W Fl_x r (St.of [1] [some (RS2 b off n cap)] [] []) (CanG Tryd.prog mFl 132 γ W oFl (fun _ => OutsG.no) oFl) := by
 have hxn : m_nns (ixN z (2 * m)) = true := ix_nn _ _
 refine ReachG.seqC (o1 := ⟨[15], fun r2 vs ms os => ∃ b' o', Mem.le r r2 ∧ rowAt r2 b' o' (2 * m) z ∧ vs = [some (RS2 b' o' m 0)] ∧ ms = [] ∧ os = []⟩) (ReachG.segR (SC_ok r) (t := tFs (RS2 b off n cap) m (ixN z (2 * m))) (TOk.nil.cons (eSpF_ok hl hc hmn h1 hz)) (tm := .nil) (L := 1) (L' := 1) (d := 1) (n0 := 0) hF hro h0' [] (on := ⟨[15], [], fun vs ms os => vs = [some (gx 0 m)] ∧ ms = [] ∧ os = [oP2 (ixN z (2 * m)) 0]⟩) (ox := fun _ => Outs.no) (orr := Outs.no) (fun p hp => nomatch hp) ?_ ?_ (fun _ _ _ _ h => h.elim) (fun _ _ _ h => h.elim)) fun r2 vs ms os hq => ?_
 ·have hn' := flJ r b off n cap m (ixN z (2 * m))
  simp only [sv_rfl, hxn, Bool.and_true, cond_true] at hn'
  exact (hn' _ _ _).trans (qq_ok ⟨rfl, rfl, rfl⟩)
 ·rintro vs ms os ⟨rfl, rfl, rfl⟩
  refine IsG.freeze (os0 := []) (j := 0) h0' rfl (Nat.zero_le _) rfl hxn fun b' o' r2 hle2 hrow => ?_
  have hf := frzU 0 b' o' m
  exact ⟨[some (RS2 b' o' m 0)], [], by simp only [frzO, hf], rfl, b', o', hle2, fun j hj => hrow j _ (ix_get hj), rfl, rfl, rfl⟩
 obtain ⟨b', o', hle, hz', rfl, rfl, rfl⟩ := hq
 have hm2 : ∀ b j u, tabM b j = some u → r2 b j = some u := fun b j u h => hle _ _ _ (hm _ _ _ h)
 by_cases hok : m ≤ 12 ∧ okS z m
 ·exact fl_go hm2 hF hro h0' hz' h1 hok.1 hok.2
 ·exact fl_bad hm2 hF hro h0' hz' (by omega) fun h => hok h.2
end
section
variable {r : Mem} {L U : Value}
theorem fl_law (hU : ∀ b o, frzV 0 b o U = some U) (htm : TameK r L)
  (hA : ∀ (fs : FnsC) (K : KO) (kx : Nat → KS) (kr : KS), run (SC r) mFl 132 1 Fl_0 fs none (rbK 0 [0, 1] [] K) kx kr (sc0 mFl [L, U]) (tr0 mFl [L, U]) [] emptyA = K [some L, some U] [] [])
  (hB : ∀ (fs : FnsC) (K : KS), preK (SC r) mFl 132 Fl_1 1 fs K [] (bT [0, 1] [some L, some U] .nil) [] (mkA []) = K [(20, L)] (bT [0, 1] [some L, some U] .nil) [] (mkA []))
  (hY : callAtG (SC r) mFl Fl_1 1 ⟨[(20, L)], bT [0, 1] [some L, some U] .nil⟩ (mkA []) = some (14, [L], emptyA))
  (hC : ∀ (r : Mem) (bp op k : Nat) (fs : FnsC) (K : KO), tailK (SC r) mFl 132 Fl_1 1 fs (rbK 0 [1, 5] [] K) (RS bp op k 0) [(20, L)] (bT [0, 1] [some L, some U] .nil) [] (mkA []) = K [some U, some (RS bp op k 0)] [] [])
  (hD : ∀ (r2 : Mem) (bp op : Nat) (T : List (List Bool)) (γ : Gam) (W : World) (F : Fence) (kk : Nat), Wide F → RoRel γ none F.round → (∀ i, 0 ≤ i → γ i = none) → TabM r2 bp op T → ckO T = true → Mem.le r r2 → ReachG Tryd.prog mFl 132 F kk γ W (.seq Fl_2 (.seq Fl_3 (.seq Fl_4 (.seq Fl_5 (.seq (.seq Fl_7 (.cond (.tmp 59) (.seq Fl_8 Fl_9) .skip)) Fl_x))))) r2 (St.of [1, 5] [some U, some (RS bp op T.length 0)] [] []) (CanG Tryd.prog mFl 132 γ W oFl (fun _ => OutsG.no) oFl)) : GrT Tryd.prog r 4 [L, U] (.bool true) := by
 refine SOkG.grT rfl rfl (S := fun _ _ _ => True) (callOG SC_ok (by kernel_rfl) ((bodySC r _).trans Fl_eq) (nt := 132) (by kernel_rfl) (rs := [.tmp 4]) (by kernel_rfl) mFl rfl oFl ?_ fun γ W F kk hwr hF hro h0' => ?_)
 ·rintro r1 vs ms os ⟨rfl, rfl, rfl⟩
  exact ⟨_, mkA [], by kernel_rfl, rfl⟩
 have h0' : ∀ i, 0 ≤ i → γ i = none := h0'
 refine ReachG.seqC (o1 := ⟨[0, 1], fun r1 vs ms os => r1 = r ∧ vs = [some L, some U] ∧ ms = [] ∧ os = []⟩) (ReachG.segR (SC_ok r) TOk.nil (tm := .nil) (L := 1) (L' := 1) (d := 1) (n0 := 0) hF hro h0' [] (on := ⟨[0, 1], [], fun vs ms os => vs = [some L, some U] ∧ ms = [] ∧ os = []⟩) (ox := fun _ => Outs.no) (orr := Outs.no) (fun p hp => nomatch hp) ((hA _ _ _ _).trans (qq_ok ⟨rfl, rfl, rfl⟩)) (fun vs ms os h => IsG.here ⟨rfl, h⟩) (fun _ _ _ _ h => h.elim) (fun _ _ _ h => h.elim)) fun r1 vs ms os hq => ?_
 obtain ⟨rfl, rfl, rfl, rfl⟩ := hq
 refine ReachG.seqC (o1 := ⟨[1, 5], fun r2 vs ms os => ∃ bp op T, TabM r2 bp op T ∧ ckO T = true ∧ Mem.le r1 r2 ∧ vs = [some U, some (RS bp op T.length 0)] ∧ ms = [] ∧ os = []⟩) (ReachG.callC (fl := []) SC_ok hF h0' TOk.nil (tm := .nil) (L := 1) (d := 1) 1 (s1 := [(20, L)]) (b1 := bT [0, 1] [some L, some U] .nil) (ms1 := []) (A1 := mkA []) (A2 := emptyA) (i := 14) (args := [L]) ((hB _ _).trans (qn_ok rfl)) hY (htm r1 fun _ _ _ h => h) ?_) fun r2 vs ms os hq => ?_
 ·rintro v A' r2 ⟨hle, rfl, bp, op, T, rfl, hT1, hT14, hTM, hck⟩
  exact ⟨fun _ => none, TOk.nil, .nil, 1, 1, (hC r2 bp op T.length _ _).trans (qq_ok ⟨bp, op, T, hTM, hck, hle, rfl, rfl, rfl⟩)⟩
 obtain ⟨bp, op, T, hTM, hck, hle2, rfl, rfl, rfl⟩ := hq
 exact hD r2 bp op T γ W F kk hF hro h0' hTM hck hle2
end
section
variable {r : Mem} {L : Value} (hm : ∀ b j u, tabM b j = some u → r b j = some u)
include hm
theorem fl_n (htm : TameK r L)
  (hA : ∀ (fs : FnsC) (K : KO) (kx : Nat → KS) (kr : KS), run (SC r) mFl 132 1 Fl_0 fs none (rbK 0 [0, 1] [] K) kx kr (sc0 mFl [L, nilT]) (tr0 mFl [L, nilT]) [] emptyA = K [some L, some nilT] [] [])
  (hB : ∀ (fs : FnsC) (K : KS), preK (SC r) mFl 132 Fl_1 1 fs K [] (bT [0, 1] [some L, some nilT] .nil) [] (mkA []) = K [(20, L)] (bT [0, 1] [some L, some nilT] .nil) [] (mkA []))
  (hY : callAtG (SC r) mFl Fl_1 1 ⟨[(20, L)], bT [0, 1] [some L, some nilT] .nil⟩ (mkA []) = some (14, [L], emptyA))
  (hC : ∀ (r : Mem) (bp op k : Nat) (fs : FnsC) (K : KO), tailK (SC r) mFl 132 Fl_1 1 fs (rbK 0 [1, 5] [] K) (RS bp op k 0) [(20, L)] (bT [0, 1] [some L, some nilT] .nil) [] (mkA []) = K [some nilT, some (RS bp op k 0)] [] []) : GrT Tryd.prog r 4 [L, nilT] (.bool true) :=
 fl_law (fun _ _ => rfl) htm hA hB hY hC fun r2 bp op T γ W F kk hF hro h0' hM hc hle => fl_first (fun b j u e => hle.sub _ _ _ (hm b j u e)) hM hc (fun _ _ => rfl)
  (fun r bp op m k c hcn K kx kr => by have hn' := flDn r bp op m k c; simp only [svv_rfl, hcn, Bool.and_true, cond_true] at hn'; exact hn' _ _ _)
  (fun r bp op m k c hcn fs K kx kr => by have hn' := flEn r bp op m k c; simp only [hcn, Bool.and_true, cond_true] at hn'; exact hn' _ _ _ _)
  (fun r bp op bi oi m k fs K => flFn r bp op bi oi m k fs K) (fun r bp op bi oi m k => by kernel_rfl)
  (fun r bp op bi oi m k c hcn fs K => by have hn' := flGn r bp op bi oi m k c; simp only [hcn, Bool.and_true, cond_true] at hn'; exact hn' _ _)
  (fun r bp op bi oi bq oq m k K kx kr => by have hn' := flHn r bp op bi oi bq oq m k; simp only [svv_rfl, neF (show k = k from rfl), cond_true, cond_false] at hn'; exact hn' _ _ _)
  (fun r bp op m k x K kx kr => by have hn' := flXn r bp op m k x; simp only [svv_rfl, cond_true] at hn'; exact hn' _ _ _)
  hF hro h0' fun r3 hle3 => fl_nil (fun b j u e => hle3.sub _ _ _ (hle.sub _ _ _ (hm b j u e))) hF hro h0'
theorem fl_r {b2 o2 n2 c2 : Nat} (hl2 : n2 ≤ c2) (hc2 : c2 ≤ maxLen) (h2 : ∀ i, i < c2 * 2 → ∃ u, r b2 (o2 + i) = some u ∧ ArgInt .i64 u) (htm : TameK r L)
  (hA : ∀ (fs : FnsC) (K : KO) (kx : Nat → KS) (kr : KS), run (SC r) mFl 132 1 Fl_0 fs none (rbK 0 [0, 1] [] K) kx kr (sc0 mFl [L, RS2 b2 o2 n2 c2]) (tr0 mFl [L, RS2 b2 o2 n2 c2]) [] emptyA = K [some L, some (RS2 b2 o2 n2 c2)] [] [])
  (hB : ∀ (fs : FnsC) (K : KS), preK (SC r) mFl 132 Fl_1 1 fs K [] (bT [0, 1] [some L, some (RS2 b2 o2 n2 c2)] .nil) [] (mkA []) = K [(20, L)] (bT [0, 1] [some L, some (RS2 b2 o2 n2 c2)] .nil) [] (mkA []))
  (hY : callAtG (SC r) mFl Fl_1 1 ⟨[(20, L)], bT [0, 1] [some L, some (RS2 b2 o2 n2 c2)] .nil⟩ (mkA []) = some (14, [L], emptyA))
  (hC : ∀ (r : Mem) (bp op k : Nat) (fs : FnsC) (K : KO), tailK (SC r) mFl 132 Fl_1 1 fs (rbK 0 [1, 5] [] K) (RS bp op k 0) [(20, L)] (bT [0, 1] [some L, some (RS2 b2 o2 n2 c2)] .nil) [] (mkA []) = K [some (RS2 b2 o2 n2 c2), some (RS bp op k 0)] [] []) : GrT Tryd.prog r 4 [L, RS2 b2 o2 n2 c2] (.bool true) :=
 fl_law (fun _ _ => rfl) htm hA hB hY hC fun r2 bp op T γ W F kk hF hro h0' hM hc hle => fl_first (fun b j u e => hle.sub _ _ _ (hm b j u e)) hM hc (fun _ _ => rfl)
  (fun r bp op m k c hcn K kx kr => by have hn' := flDr r b2 o2 n2 c2 bp op m k c; simp only [svv_rfl, hcn, Bool.and_true, cond_true] at hn'; exact hn' _ _ _)
  (fun r bp op m k c hcn fs K kx kr => by have hn' := flEr r b2 o2 n2 c2 bp op m k c; simp only [hcn, Bool.and_true, cond_true] at hn'; exact hn' _ _ _ _)
  (fun r bp op bi oi m k fs K => flFr r b2 o2 n2 c2 bp op bi oi m k fs K) (fun r bp op bi oi m k => by kernel_rfl)
  (fun r bp op bi oi m k c hcn fs K => by have hn' := flGr r b2 o2 n2 c2 bp op bi oi m k c; simp only [hcn, Bool.and_true, cond_true] at hn'; exact hn' _ _)
  (fun r bp op bi oi bq oq m k K kx kr => by have hn' := flHr r b2 o2 n2 c2 bp op bi oi bq oq m k; simp only [svv_rfl, neF (show k = k from rfl), cond_true, cond_false] at hn'; exact hn' _ _ _)
  (fun r bp op m k x K kx kr => by have hn' := flXr r b2 o2 n2 c2 bp op m k x; simp only [svv_rfl, cond_true] at hn'; exact hn' _ _ _)
  hF hro h0' fun r3 hle3 => by
   have hm3 : ∀ b j u, tabM b j = some u → r3 b j = some u := fun b j u e => hle3.sub _ _ _ (hle.sub _ _ _ (hm b j u e))
   by_cases c0 : n2 = 0
   ·subst c0
    exact fl_0 hm3 hF hro h0' hc2
   ·generalize hmd : min n2 13 = m
    let z : Nat → Int := fun j => if j < 2 * m then ofI ((r b2 (o2 + j)).getD undef) else 0
    refine fl_row (z := z) hm3 hF hro h0' hl2 hc2 hmd.symm (by omega) fun j hj => hle3.sub _ _ _ (hle.sub _ _ _ ?_)
    obtain ⟨u, hu, w, rfl, _⟩ := h2 j (by omega)
    have hzj : z j = ofI ((r b2 (o2 + j)).getD undef) := if_pos hj
    rw [hzj, hu]
    rfl
end
theorem law_fishburn (r : Mem) (hm : ∀ b j u, tabM b j = some u → r b j = some u) (u0 u1 : Value) (s0 : ArgRowT r 1 (ArgRow r 1 ArgBool) u0) (s1 : ArgRowT r 2 (ArgInt .i64) u1) : GrT Tryd.prog r 4 [u0, u1] (.bool true) := by
 cases s0 with
 | nil =>
  cases s1 with
  | nil => exact fl_n hm tameK_n (flAnn r) (flBnn r) (by kernel_rfl) fun r bp op k => flCnn r bp op k
  | row b2 o2 n2 c2 hl2 hc2 h2 => exact fl_r hm hl2 hc2 h2 tameK_n (flAnr r b2 o2 n2 c2) (flBnr r b2 o2 n2 c2) (by kernel_rfl) fun r bp op k => flCnr r b2 o2 n2 c2 bp op k
 | row b off n cap hl hc h =>
  cases s1 with
  | nil => exact fl_n hm (tameK_r hl h) (flArn r b off n cap) (flBrn r b off n cap) (by kernel_rfl) fun r bp op k => flCrn r b off n cap bp op k
  | row b2 o2 n2 c2 hl2 hc2 h2 => exact fl_r hm hl2 hc2 h2 (tameK_r hl h) (flArr r b off n cap b2 o2 n2 c2) (flBrr r b off n cap b2 o2 n2 c2) (by kernel_rfl) fun r bp op k => flCrr r b off n cap b2 o2 n2 c2 bp op k
end Go.Proofs
