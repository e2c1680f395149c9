/- What the claim is proved with, part 4: the evaluator and the contracts of the calls. -/
import Derived.Test.YtalojadjanjkeaaGreatDoorPack1
import Derived.Test.YtalojadjanjkeaaGreatDoorPack3
import Derived.Test.YtalojadjanjkeaaGreatDoorPack2
/- awake of chapter 5. -/
set_option linter.unusedVariables false
set_option linter.unusedSimpArgs false
namespace Go.Proofs
open Go Go.Ev

theorem awake_ok : GrT Tryz.prog tabM 10 [] (.bool true) := GrT.closedRo evMixed evNames tabM .nil 1000 40 (by kernel_rfl)

end Go.Proofs

/- The law of checks holds, for all arguments. -/
namespace Go.Proofs
open Go Go.Ev Go.Num
set_option linter.unusedVariables false
set_option linter.unusedSimpArgs false
set_option maxRecDepth 100000

theorem tab_g {b j : Nat} {u : Value} (h : tabM b j = some u) : gnd u = true := by
 have hu : ∀ (l : List Nat) (j : Nat), memL (u8s l) j = some u → gnd u = true := fun l j h => by
  unfold memL u8s at h
  rw [List.getElem?_map] at h
  cases hl : l[j]? with
  | none => rw [hl] at h; cases h
  | some n => rw [hl] at h; cases h; rfl
 unfold tabM at h
 split at h
 ·exact hu _ _ h
 ·split at h
  ·exact hu _ _ h
  ·cases h
theorem memW_tab {r : Mem} (hm : ∀ b j u, tabM b j = some u → r b j = some u) {γ : Gam} {W : World} (hR : Ro r γ W) : ∀ b j u, tabM b j = some u → memW W b j = some u := fun b j u h => by
 obtain ⟨_, cc, e, fr, u', hb, hu, hrel⟩ := hR _ _ _ (hm _ _ _ h)
 have hg := tab_g h
 have e1 := (hrel γ).eq_of_gnd hg
 subst e1
 simp only [memW, hb, hu]
 exact mark_gnd hg
section
variable {r : Mem} {m : Nat} {c : List Value} {T : List (List Bool)}
theorem eTb_ok (hm : ∀ b j u, tabM b j = some u → r b j = some u) (hT : TabC r c T) {f : Nat} {v : Value} (hg : gnd v = true) (h : ∀ (r : Mem) (b off : Nat), (∀ b j u, tabM b j = some u → r b j = some u) → TabM r b off T → GrT Tryz.prog r f [RS b off m 0] v) : EOk (SC r) f (eTb m c [v]) := EOk.ent fun args A hgd => POk.of hg fun γ W args' hw hR ha => by
 obtain ⟨b, j, p1, p2⟩ := gTab_use hT hgd hw hR ha
 exact ⟨memW W, _, memW_ro W, p1, h _ b j (memW_tab hm hR) p2⟩
theorem eTbT_ok (hm : ∀ b j u, tabM b j = some u → r b j = some u) (hT : TabC r c T) {f n k : Nat} {s : List Value} (hs : gnds s = true) (h : ∀ (r : Mem) (b off : Nat), (∀ b j u, tabM b j = some u → r b j = some u) → TabM r b off T → GrM Tryz.prog r f [RS b off m 0] (.tuple ⟨[.slice (some ⟨0, 0, none⟩) n k, I 0]⟩) (rowA s 3 1)) : EOk (SC r) f (eTbT m c n k s) := fun args A hgd F hF k' γ W args' hw hR ha => by
 refine ⟨fun hcc => ?_, fun h => nomatch h⟩
 obtain ⟨b, j, p1, p2⟩ := gTab_use hT hgd hw hR ha
 have hof : ofV 0 (.tuple ⟨[.slice (some ⟨0, 0, none⟩) n k, I 0]⟩) = true := by simp [ofV, of1, gnd]
 exact (h _ b j (memW_tab hm hR) p2).ends (γ := γ) (A := A) hof hs hF hw (memW_ro W) p1 ha
theorem eTbS_ok (hm : ∀ b j u, tabM b j = some u → r b j = some u) (hT : TabC r c T) {f n k : Nat} {s : List Value} (hs : gnds s = true) (h : ∀ (r : Mem) (b off : Nat), (∀ b j u, tabM b j = some u → r b j = some u) → TabM r b off T → GrM Tryz.prog r f [RS b off m 0] (.slice (some ⟨0, 0, none⟩) n k) (rowA s 3 1)) : EOk (SC r) f (eTbS m c n k s) := fun args A hgd F hF k' γ W args' hw hR ha => by
 refine ⟨fun hcc => ?_, fun h => nomatch h⟩
 obtain ⟨b, j, p1, p2⟩ := gTab_use hT hgd hw hR ha
 have hof : ofV 0 (.slice (some ⟨0, 0, none⟩) n k) = true := by simp [ofV, of1]
 exact (h _ b j (memW_tab hm hR) p2).ends (γ := γ) (A := A) hof hs hF hw (memW_ro W) p1 ha
theorem eIn_ok (r : Mem) : EOk (SC r) 14 eIn := EOk.ent fun args A hg => POk.of rfl fun γ W args' hw hR ha => by
 unfold gInt at hg
 split at hg
 ·have hs := @of_decide_eq_true _ (Classical.propDecidable _) hg
  rw [hs] at ha
  exact ⟨r, [nilT, nilT], hR.noG noG fun _ => rfl, ha.of_ros rfl, ints_nil r⟩
 ·rename_i i l p j l2 p2
  split at hg
  ·rename_i ci e f zz hi
   split at hg
   ·rename_i cj e' f' zz' hj
    obtain ⟨rfl, hl, h1, h2, z, hz⟩ := @of_decide_eq_true _ (Classical.propDecidable _) hg
    obtain ⟨la⟩ := args'
    cases ha with
    | cons hv hrest =>
    cases hrest with
    | cons hv2 hrest =>
    cases hrest
    obtain ⟨b, k, p1, p2'⟩ := own_row hw hR (natFx h1) hi hv
    obtain ⟨b', k', q1, q2'⟩ := own_row hw hR (natFx h2) hj hv2
    exact ⟨memW W, _, memW_ro W, .cons p1 (.cons q1 .nil), ints_ok (z := z) (fun j hj => p2' j _ (hz j hj).1 rfl) (fun j hj => q2' j _ (hz j hj).2 rfl) hl⟩
   ·cases hg
  ·cases hg
 ·cases hg
theorem two_rfl {l p p2 : Nat} (hl : l ≤ 1000) (h1 : p ≠ unkE) (h2 : p2 ≠ unkE) {s : List Value} (z : Nat → Int) (hs : ∀ j, j < l → s[j]? = some (I (z j))) : m_two l l p p2 s s = true := @decide_eq_true _ (Classical.propDecidable _) ⟨rfl, hl, h1, h2, z, fun j hj => ⟨hs j hj, hs j hj⟩⟩
variable (hm : ∀ b j u, tabM b j = some u → r b j = some u)
include hm
theorem tAw_ok : TOk (SC r) tAw := TOk.nil.cons (e0_ok (awake_ok.less hm))
theorem tL0_ok (hT : TabC r c T) (hn : T.length = m) (hn2 : m ≤ 1000) (hc : ckT T = true) : TOk (SC r) (tL0 m c m (ixN (scZ T) m)) := by
 obtain ⟨h1, h12, hl⟩ := ck_n hc
 refine (((((tAw_ok hm).cons (eIn_ok r)).cons (eTbS_ok hm hT (ix_gnd _ _) fun r b off h hM => ?_)).cons (eTbT_ok hm hT (ix_gnd _ _) fun r b off h hM => sw_S hM hn hn2 hc)).cons (eTb_ok hm hT rfl fun r b off h hM => ?_)).cons (eTb_ok hm hT rfl fun r b off h hM => ?_)
 ·have h2 := rs_ok (n := m) (cap := 0) hM hn hl h1 (by omega)
  rw [hn] at h2
  exact h2
 ·have h2 := sw_C (cap := 0) hM hn hn2
  rw [if_pos hc] at h2
  exact h2
 ·have h2 := ck_ok (cap := 0) hM hn hn2
  rw [if_pos hc] at h2
  exact h2
theorem tLn_ok (hT : TabC r c T) (hn : T.length = m) (hn2 : m ≤ 1000) (hc : ckT T = true) (hk : kgL T T.length = []) : TOk (SC r) (tLn m c m (ixN (scZ T) m)) := by
 obtain ⟨h1, h12, hl⟩ := ck_n hc
 refine ((tL0_ok hm hT hn hn2 hc).cons (eTb_ok hm hT rfl fun r b off h hM => ?_)).cons (eTb_ok hm hT rfl fun r b off h hM => sw_Kn h hM hn hn2 hc hk)
 refine GrT.ofS (C := SC r) rfl rfl rfl (SOk.mono (kg_S hM hn hl (by omega)) fun v A h => ?_)
 obtain ⟨os, h, hA⟩ := h
 rw [hk] at h
 rcases h with ⟨_, rfl, rfl⟩ | ⟨h, _⟩
 ·rfl
 ·exact absurd rfl h
theorem tLo_ok (hT : TabC r c T) (hn : T.length = m) (hn2 : m ≤ 1000) (hc : ckT T = true) (hk : kgL T T.length ≠ []) : TOk (SC r) (tLo m c m (ixN (scZ T) m) (kgL T T.length).length (rowI (kgL T T.length))) := by
 obtain ⟨h1, h12, hl⟩ := ck_n hc
 refine ((tL0_ok hm hT hn hn2 hc).cons (eTbS_ok hm hT (rowI_g _) fun r b off h hM => ?_)).cons (eTbT_ok hm hT (rowI_g _) fun r b off h hM => sw_Ko h hM hn hn2 hc hk)
 refine GrM.ofS (C := SC r) rfl rfl (SOk.mono (kg_S hM hn hl (by omega)) fun v A h => ?_)
 obtain ⟨os, h, hA⟩ := h
 rcases h with ⟨h, _⟩ | ⟨_, rfl, rfl⟩
 ·exact absurd h hk
 ·exact ⟨rfl, hA⟩
theorem tLe_ok (hT : TabC r c T) (hn : T.length = m) (hn2 : m ≤ 1000) (hc : ckT T = false) : TOk (SC r) (tLe m c) := by
 refine ((((((((((tAw_ok hm).cons (eTb_ok hm hT rfl fun r b off h hM => sw_Ne hM hn hn2 hc)).cons (eTb_ok hm hT rfl fun r b off h hM => sw_3e hM hn hn2 hc)).cons (eTb_ok hm hT rfl fun r b off h hM => sw_Te hM hn hn2 hc)).cons (eTb_ok hm hT rfl fun r b off h hM => sw_Be hM hn hn2 hc)).cons (eTb_ok hm hT rfl fun r b off h hM => sw_Re hM hn hn2 hc)).cons (eTb_ok hm hT rfl fun r b off h hM => sw_Le hM hn hn2 hc)).cons (eTb_ok hm hT rfl fun r b off h hM => sw_Ke hM hn hn2 hc)).cons (eTb_ok hm hT rfl fun r b off h hM => sw_Se hM hn hn2 hc)).cons (eTb_ok hm hT rfl fun r b off h hM => ?_)).cons (eTb_ok hm hT rfl fun r b off h hM => ?_)
 ·have h2 := sw_C (cap := 0) hM hn hn2
  rw [if_neg (by rw [hc]; simp)] at h2
  exact h2
 ·have h2 := ck_ok (cap := 0) hM hn hn2
  rw [if_neg (by rw [hc]; simp)] at h2
  exact h2
end

end Go.Proofs

/- The law of checks holds, for all arguments, at last. -/
namespace Go.Proofs
open Go Go.Ev Go.Num
set_option linter.unusedVariables false
set_option linter.unusedSimpArgs false
set_option maxRecDepth 100000

theorem svv1 (x z : Value) (h : x = z) : m_svv [x] [z] = true := by subst h; exact svv_rfl _
theorem eSw_ok {r : Mem} {f : Nat} {x v : Value} (hx : roV x = true) (h : GrT Tryz.prog r f [x] v) : EOk (SC r) f (eSw [x] [v]) := EOk.ent fun args A hg => by
 have hs := @of_decide_eq_true _ (Classical.propDecidable _) hg
 subst hs
 exact h.ro (by simp only [roVs, hx, Bool.and_self]) A
theorem rowI_gt {l : List Int} {j : Nat} (h : j < l.length) : (rowI l)[j]? = some (I (l.getD j 0)) := by
 unfold rowI
 rw [List.getElem?_map, List.getD_eq_getElem?_getD, List.getElem?_eq_getElem h]
 rfl
section
variable {r : Mem}
variable (hm : ∀ b j u, tabM b j = some u → r b j = some u)
include hm
theorem tNl_ok {x : Value} (hx : roV x = true) (h : GrT Tryz.prog r 12 [x] nilT) : TOk (SC r) (tNl x nilT) := by
 refine (((((((((((tAw_ok hm).cons (eSw_ok rfl ?_)).cons (eSw_ok rfl ?_)).cons (eSw_ok rfl ?_)).cons (eSw_ok rfl ?_)).cons (eSw_ok rfl ?_)).cons (eSw_ok rfl ?_)).cons (eSw_ok rfl ?_)).cons (eSw_ok rfl ?_)).cons (eSw_ok rfl ?_)).cons (eSw_ok rfl ?_)).cons (eSw_ok hx h)
 ·exact GrT.of (SC_ok r) TOk.nil .nil rfl ⟨2, 8, (sn_ra r).trans rfl⟩
 ·exact GrT.of (SC_ok r) TOk.nil .nil rfl ⟨2, 8, (sn_th r).trans rfl⟩
 ·exact GrT.of (SC_ok r) TOk.nil .nil rfl ⟨2, 8, (sn_tr r).trans rfl⟩
 ·exact GrT.of (SC_ok r) TOk.nil .nil rfl ⟨2, 8, (sn_bl r).trans rfl⟩
 ·exact GrT.of (SC_ok r) TOk.nil .nil rfl ⟨2, 8, (sn_ri r).trans rfl⟩
 ·exact GrT.of (SC_ok r) TOk.nil .nil rfl ⟨2, 8, (sn_li r).trans rfl⟩
 ·exact GrT.of (SC_ok r) TOk.nil .nil rfl ⟨2, 8, (sn_kg r).trans rfl⟩
 ·exact GrT.of (SC_ok r) TOk.nil .nil rfl ⟨2, 8, (sn_sc r).trans rfl⟩
 ·exact GrT.of (SC_ok r) TOk.nil .nil rfl ⟨2, 8, (sn_ck r).trans rfl⟩
 ·exact GrT.of (SC_ok r) TOk.nil .nil rfl ⟨2, 8, (sn_rc r).trans rfl⟩
theorem chk_nil : GrT Tryz.prog r 4 [nilT] (.bool true) :=
 GrT.of (SC_ok r) (tNl_ok hm (x := nilT) rfl (GrT.of (SC_ok r) TOk.nil .nil rfl ⟨2, 8, (sn_tb r).trans rfl⟩)) .nil rfl ⟨2, 8, by
  rw [slN, svv1 _ _ rfl]
  rfl⟩
theorem chk_0 (b off cap : Nat) : GrT Tryz.prog r 4 [RS b off 0 cap] (.bool true) :=
 GrT.of (SC_ok r) (tNl_ok hm (x := RS b off 0 cap) rfl (GrT.of (SC_ok r) TOk.nil .nil rfl ⟨2, 8, (sn_t0 r b off cap).trans rfl⟩)) .nil rfl ⟨2, 8, by
  rw [sl0, svv1 _ _ rfl, svv1 _ _ rfl]
  rfl⟩
theorem chk_row {b off n cap : Nat} (h1 : 1 ≤ n) (hin : ∀ i, i < min n 14 → ∃ u, r b (off + i) = some u ∧ ArgRow r 1 ArgBool u) : GrT Tryz.prog r 4 [RS b off n cap] (.bool true) := by
 refine SOkG.grT rfl rfl (S := fun _ _ _ => True) (callOG SC_ok (by kernel_rfl) ((bodySC r _).trans LW_eq) (nt := 178) (by kernel_rfl) (rs := [.tmp 2]) (by kernel_rfl) 33554429 rfl ⟨[2], fun r1 vs ms os => vs = [some (.bool true)] ∧ ms = [] ∧ os = []⟩ ?_ fun γ W F kk hwr hF hro h0' => ?_)
 ·rintro r1 vs ms os ⟨rfl, rfl, rfl⟩
  exact ⟨_, mkA [], by kernel_rfl, rfl⟩
 have h0' : ∀ i, 0 ≤ i → γ i = none := h0'
 refine ReachG.seqC (o1 := ⟨[0], fun r1 vs ms os => r1 = r ∧ vs = [some (RS b off n cap)] ∧ ms = [] ∧ os = []⟩) (ReachG.segR (SC_ok r) TOk.nil (tm := .nil) (L := 1) (L' := 1) (d := 1) (n0 := 0) hF hro h0' [] (on := ⟨[0], [], fun vs ms os => vs = [some (RS b off n cap)] ∧ ms = [] ∧ os = []⟩) (ox := fun _ => Outs.no) (orr := Outs.no) (fun p hp => nomatch hp) ?_ (fun vs ms os h => IsG.here ⟨rfl, h⟩) (fun _ _ _ _ h => h.elim) (fun _ _ _ h => h.elim)) fun r1 vs ms os hq => ?_
 ·exact (slA r b off n cap _ _ _ _).trans (qq_ok ⟨rfl, rfl, rfl⟩)
 obtain ⟨rfl, rfl, rfl, rfl⟩ := hq
 refine ReachG.seqC (o1 := ⟨[3], fun r2 vs ms os => Mem.le r1 r2 ∧ ms = [] ∧ ∃ c, vs = [some (gwT 0 (min n 14))] ∧ os = [oTb c 0] ∧ TabC r2 c (inTab r1 b off (min n 14)) ∧ m_nns c = true⟩) (ReachG.callC (fl := []) SC_ok hF h0' TOk.nil (tm := .nil) (L := 1) (d := 1) 1 (s1 := (enL b off n cap).1) (b1 := (enL b off n cap).2) (ms1 := []) (A1 := mkA []) (A2 := emptyA) (i := 12) (args := [RS b off n cap]) ?_ (by kernel_rfl) (ta_ok h1 hin) ?_) fun r2 vs ms os hq => ?_
 ·exact (slB r1 b off n cap _ _).trans (qn_ok rfl)
 ·rintro v A' r2 ⟨hle, c, rfl, rfl, hT, hc⟩
  refine ⟨fun _ => none, TOk.nil, .nil, 1, 1, ?_⟩
  have hn' := slC r2 b off n cap (min n 14) c
  simp only [hc, Bool.and_true, cond_true] at hn'
  exact (hn' _ _).trans (qq_ok ⟨hle, rfl, c, rfl, rfl, hT, hc⟩)
 obtain ⟨hle, rfl, c, rfl, rfl, hT, hc⟩ := hq
 have hm2 : ∀ b j u, tabM b j = some u → r2 b j = some u := fun b j u h => hle _ _ _ (hm _ _ _ h)
 have hTl := inTab_len r1 b off (min n 14)
 generalize hmm : min n 14 = m at hT hTl
 generalize inTab r1 b off m = T at hT hTl
 have hm1000 : m ≤ 1000 := by omega
 have hu : m ≠ unkE := by unfold unkE; omega
 have hz : ∀ j, j < m → (ixN (scZ T) m)[j]? = some (I (scZ T j)) := fun j hj => ix_get (by omega)
 have h2m : m_two m m m unk (ixN (scZ T) m) (ixN (scZ T) m) = true := two_rfl hm1000 hu (by decide) (scZ T) hz
 let E : Outs := ⟨[2], [], fun vs ms os => vs = [some (.bool true)] ∧ ms = [] ∧ os = []⟩
 cases hck : ckT T with
 | false =>
  refine ReachG.segR (SC_ok r2) (tLe_ok hm2 hT hTl hm1000 hck) (tm := .nil) (L := 1) (L' := 1) (d := 1) (n0 := 0) hF hro h0' [] (on := Outs.no) (ox := fun _ => Outs.no) (orr := ⟨[2], [], fun vs ms os => vs = [some (.bool true)] ∧ ms = [] ∧ os = []⟩) (fun p hp => nomatch hp) ?_ (fun _ _ _ h => h.elim) (fun _ _ _ _ h => h.elim) (fun vs ms os h => IsG.here h)
  have hn' := slDe r2 m c
  simp only [svv_rfl, cond_true] at hn'
  exact (hn' _ _ _).trans (qq_ok ⟨rfl, rfl, rfl⟩)
 | true =>
  by_cases hk : kgL T T.length = []
  ·refine ReachG.segR (SC_ok r2) (tLn_ok hm2 hT hTl hm1000 hck hk) (tm := .nil) (L := 1) (L' := 1) (d := 1) (n0 := 0) hF hro h0' [] (on := Outs.no) (ox := fun _ => Outs.no) (orr := ⟨[2], [], fun vs ms os => vs = [some (.bool true)] ∧ ms = [] ∧ os = []⟩) (fun p hp => nomatch hp) ?_ (fun _ _ _ h => h.elim) (fun _ _ _ _ h => h.elim) (fun vs ms os h => IsG.here h)
   have hn' := slD0 r2 m c m (ixN (scZ T) m)
   simp only [svv_rfl, h2m, cond_true] at hn'
   exact (hn' _ _ _).trans (qq_ok ⟨rfl, rfl, rfl⟩)
  ·refine ReachG.segR (SC_ok r2) (tLo_ok hm2 hT hTl hm1000 hck hk) (tm := .nil) (L := 1) (L' := 1) (d := 1) (n0 := 0) hF hro h0' [] (on := Outs.no) (ox := fun _ => Outs.no) (orr := ⟨[2], [], fun vs ms os => vs = [some (.bool true)] ∧ ms = [] ∧ os = []⟩) (fun p hp => nomatch hp) ?_ (fun _ _ _ h => h.elim) (fun _ _ _ _ h => h.elim) (fun vs ms os h => IsG.here h)
   have hkl := kgL_len T T.length
   have h3 : m_two (kgL T T.length).length (kgL T T.length).length unk unk (rowI (kgL T T.length)) (rowI (kgL T T.length)) = true := two_rfl (by omega) (by decide) (by decide) (fun j => (kgL T T.length).getD j 0) fun j hj => rowI_gt hj
   have hn' := slD1 r2 m c m (ixN (scZ T) m) (kgL T T.length).length (rowI (kgL T T.length))
   simp only [svv_rfl, h2m, h3, cond_true] at hn'
   exact (hn' _ _ _).trans (qq_ok ⟨rfl, rfl, rfl⟩)
end
theorem law_checks (r : Mem) (hm : ∀ b j u, tabM b j = some u → r b j = some u) (u0 : Value) (s0 : ArgRowT r 1 (ArgRow r 1 ArgBool) u0) : GrT Tryz.prog r 4 [u0] (.bool true) := by
 cases s0 with
 | nil => exact chk_nil hm
 | row b off n cap hl hc h =>
  by_cases n0 : n = 0
  ·subst n0
   exact chk_0 hm b off cap
  ·exact chk_row hm (by omega) fun i hi => h i (by omega)

end Go.Proofs

