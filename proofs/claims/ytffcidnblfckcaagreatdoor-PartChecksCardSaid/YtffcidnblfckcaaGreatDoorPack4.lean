/- What the claim is proved with, part 4: the evaluator and the contracts of the calls. -/
import Derived.Test.YtffcidnblfckcaaGreatDoorPack2
import Derived.Test.YtffcidnblfckcaaGreatDoorPack3
import Derived.Test.YtffcidnblfckcaaGreatDoorPack1
/- The law of part's checks: what it answers. -/
namespace Go.Proofs
open Go Go.Ev Go.Num
set_option linter.unusedVariables false
set_option linter.unusedSimpArgs false
set_option maxRecDepth 100000

theorem _root_.Go.Ev.GrT.more {P : Program} {r r' : Mem} {f : Nat} {args : List Value} {v : Value} (h : GrT P r f args v) (hle : ∀ b j u, r b j = some u → r' b j = some u) : GrT P r' f args v :=
  ⟨h.1, fun F hF k W args' hR ha => h.2 F hF k W args' (fun b j u e => hR b j u (hle b j u e)) ha⟩

theorem memW_tab {r : Mem} (hm : ∀ b j u, tabM b j = some u → r b j = some u) {γ : Gam} {W : World} (hR : Ro r γ W) : ∀ b j u, tabM b j = some u → memW W b j = some u := fun b j u h => by
  have hg : gnd u = true := by
    unfold tabM at h
    split at h
    · unfold memL u8s at h
      rw [List.getElem?_map] at h
      cases h1 : tab64[j]? with
      | none => rw [h1] at h; cases h
      | some x => rw [h1] at h; cases h; rfl
    · split at h
      · unfold memL u8s at h
        rw [List.getElem?_map] at h
        cases h1 : tab32[j]? with
        | none => rw [h1] at h; cases h
        | some x => rw [h1] at h; cases h; rfl
      · cases h
  obtain ⟨_, cc, e, fr, v', h1, h2, h3⟩ := hR b j u (hm b j u h)
  have := (h3 γ).eq_of_gnd hg
  subst this
  unfold memW
  rw [h1]
  simp only [h2, Option.bind_some]
  exact mark_gnd hg

/-- A row of pairs of the caller's, as memory that is read; more arguments behind it. -/
theorem own_mem {r : Mem} {γ : Gam} {A : AW} {W : World} (hw : WRel γ A W) (hR : Ro r γ W) {n : Int} {i k len cap : Nat} {c l : List Value} {e f z : Nat} (hget : A.heap.get i = some (.cells c e f z)) (hok : m_okL2 c k len = true) (hcap : Nat.beq cap unkE = false) (hl : gnds l = true)
    {args' : Array Value} (ha : VsRel γ (.int .i64 n :: .slice (some ⟨i, k, none⟩) len cap :: l) args'.toList) :
    ∃ b k', VsRel noG (I n :: RS2 b k' len 0 :: l) args'.toList ∧ rowAt (memW W) b k' (2 * len) (fun j => zAt2 c (k + j)) ∧ len ≤ 1000000 := by
  obtain ⟨h1, h2⟩ := @of_decide_eq_true _ (Classical.propDecidable _) hok
  obtain ⟨la⟩ := args'
  cases ha with
  | cons hn hrest =>
  cases hn
  cases hrest with
  | cons hv hrest =>
  obtain ⟨b, k', c', rfl, hrd⟩ := rd_world hw hR hv hcap
  refine ⟨b, k', .cons (.int _ _) (.cons (.sliceRo _ _ _ _ _ _ (by decide) (Nat.zero_le _)) ?_), fun j hj => ?_, h1⟩
  · rw [hrest.eq_of_gnds hl]
    exact VsRel.of_gnds noG l hl
  · obtain ⟨z, hz⟩ := h2 j hj
    have e1 : zAt2 c (k + j) = z := by unfold zAt2; rw [hz]
    show memW W b (k' + j) = some (I (zAt2 c (k + j)))
    rw [e1]
    refine hrd j _ ?_ rfl
    simp only [AW.rd, AW.cell, hget]
    exact hz

theorem natFK2 {i j : Nat} (h : i ≠ j) : Nat.beq i j = false := by
  cases e : Nat.beq i j with
  | false => rfl
  | true => exact absurd (Nat.eq_of_beq_eq_true e) h

abbrev Tab (r : Mem) : Prop := ∀ b j u, tabM b j = some u → r b j = some u

theorem eChk_ok (r : Mem) {f : Nat} (hN : ∀ n, GrT Tryz.prog (fun _ _ => none) f [I n, .slice none 0 0] (I (m_ckN n)))
    (hL : ∀ (r' : Mem) n b off len cap z, Tab r' → rowAt r' b off (2 * len) z → len ≤ 1000000 → GrT Tryz.prog r' f [I n, RS2 b off len cap] (I (ckG n z len))) (hm : Tab r) : EOk (SC r) f eChk := EOk.ent fun args A hg => by
  split at hg
  · exact ((hN _).plain (C := SC r) rfl A)
  · rename_i n i k len cap
    split at hg
    · rename_i c e f' z hget
      simp only [Bool.and_eq_true, Bool.not_eq_true'] at hg
      refine POk.of ?_ fun γ W args' hw hR ha => ?_
      · try simp only [hget]
        rfl
      · obtain ⟨b, k', h1, h2, h3⟩ := own_mem hw hR hget hg.1 hg.2 rfl ha
        refine ⟨memW W, _, memW_ro W, h1, ?_⟩
        try simp only [hget]
        exact hL (memW W) n b k' len 0 _ (memW_tab hm hR) h2 h3
    · cases hg
  · cases hg

theorem eBad_ok (r : Mem) {f : Nat} {ex : List Value → Bool} {v : Int → Value} (hx : ∀ l, ex l = true → gnds l = true) (hv : ∀ e, gnd (v e) = true)
    (hN : ∀ n l, ex l = true → m_badN n = true → GrT Tryz.prog (fun _ _ => none) f (I n :: .slice none 0 0 :: l) (v (m_ckN n)))
    (hL : ∀ (r' : Mem) n b off len cap z l, ex l = true → Tab r' → rowAt r' b off (2 * len) z → len ≤ 1000000 → ckG n z len ≠ 0 → GrT Tryz.prog r' f (I n :: RS2 b off len cap :: l) (v (ckG n z len))) (hm : Tab r) : EOk (SC r) f (eBad ex v) := EOk.ent fun args A hg => by
  split at hg
  · rename_i n l
    simp only [Bool.and_eq_true] at hg
    exact (hN n l hg.1 hg.2).plain (C := SC r) (by simp only [gnds, gnd, hx l hg.1, Bool.and_self, I]) A
  · rename_i n i k len cap l
    split at hg
    · rename_i c e f' z hget
      simp only [Bool.and_eq_true, Bool.not_eq_true'] at hg
      obtain ⟨⟨⟨hg1, hg2⟩, hg3⟩, hg4⟩ := hg
      refine POk.of ?_ fun γ W args' hw hR ha => ?_
      · try simp only [hget]
        exact hv _
      · obtain ⟨b, k', h1, h2, h3⟩ := own_mem hw hR hget hg2 hg3 (hx l hg1) ha
        refine ⟨memW W, _, memW_ro W, h1, ?_⟩
        try simp only [hget]
        refine hL (memW W) n b k' len 0 _ l hg1 (memW_tab hm hR) h2 h3 ?_
        unfold m_bad m_ckL at hg4
        simpa using hg4
    · cases hg
  · cases hg

theorem ckN_eq (n : Int) : m_ckN n = if n < 1 ∨ n > 16 then 1 else 0 := by
  unfold m_ckN ckG
  split
  · rfl
  · rfl
theorem ck_cases (n : Int) (z : Nat → Int) (len : Nat) (h : ckG n z len ≠ 0) : ckG n z len = 1 ∨ ckG n z len = 40 := by
  unfold ckG at *
  split
  · exact .inl rfl
  · rename_i h1
    rw [if_neg h1] at h
    split
    · rename_i h2; rw [if_pos h2] at h; exact absurd rfl h
    · exact .inr rfl

theorem rcN_ok (n : Int) : GrT Tryz.prog (fun _ _ => none) 5 [I n, .slice none 0 0] (I (m_ckN n)) := by
  refine GrT.of (SC_ok fun _ _ => none) TOk.nil .nil rfl ⟨2, 2, (rcN _ n).trans ?_⟩
  rw [ckN_eq]
  by_cases c1 : n < 1
  · rw [dT c1, cond_true, if_pos (.inl c1)]; rfl
  · by_cases c2 : n > 16
    · rw [dF c1, cond_false, dT c2, cond_true, if_pos (.inr c2)]; rfl
    · rw [dF c1, cond_false, dF c2, cond_false, if_neg (by omega)]; rfl
theorem pcN_ok (n : Int) : GrT Tryz.prog (fun _ _ => none) 6 [I n, .slice none 0 0] (I (m_ckN n)) := by
  refine GrT.of (SC_ok fun _ _ => none) TOk.nil .nil rfl ⟨2, 3, (pcN _ n).trans ?_⟩
  rw [ckN_eq]
  by_cases c1 : n < 1
  · rw [dT c1, cond_true, if_pos (.inl c1)]; rfl
  · by_cases c2 : n > 16
    · rw [dF c1, cond_false, dT c2, cond_true, if_pos (.inr c2)]; rfl
    · rw [dF c1, cond_false, dF c2, cond_false, if_neg (by omega)]; rfl
theorem bad_iff {n : Int} (h : m_badN n = true) : n < 1 ∨ n > 16 := by
  unfold m_badN at h
  rw [ckN_eq] at h
  by_cases c : n < 1 ∨ n > 16
  · exact c
  · rw [if_neg c] at h; cases h
theorem rdN_ok {n : Int} (h : m_badN n = true) : GrT Tryz.prog (fun _ _ => none) 19 [I n, .slice none 0 0] (.tuple ⟨[.agg ⟨resG⟩, I 1]⟩) := by
  refine GrT.of (SC_ok fun _ _ => none) TOk.nil .nil rfl ⟨2, 2, (rdN _ n).trans ?_⟩
  have hb := bad_iff h
  by_cases c1 : n < 1
  · rw [dT c1, cond_true]; rfl
  · rw [dF c1, cond_false, dT (show n > 16 by omega), cond_true]; rfl
theorem tRdN_ok {n : Int} (h : m_badN n = true) : TOk (SC fun _ _ => none) (tPc n (.slice none 0 0) resG 1) := TOk.cons TOk.nil (entV_ok (rdN_ok h) rfl)
theorem tRd_ok {r : Mem} (hm : Tab r) {n : Int} {b off len cap : Nat} {z : Nat → Int} (hz : rowAt r b off (2 * len) z) (hl : len ≤ 1000000) (h : ckG n z len ≠ 0) : TOk (SC r) (tPc n (RS2 b off len cap) resG (ckG n z len)) := by
  have := partRead_ok r hm n b off len cap z hz hl
  unfold m_rdg at this
  rw [if_neg h] at this
  exact TOk.cons TOk.nil (entV_ok this rfl)

theorem ex0_of {l : List Value} (h : ex0 l = true) : l = [] := by
  unfold ex0 at h
  split at h
  · rfl
  · cases h
theorem ex1_of {l : List Value} (h : ex1 l = true) : ∃ s, l = [I s] := by
  unfold ex1 at h
  split at h
  · exact ⟨_, rfl⟩
  · cases h
theorem ckN_bad {n : Int} (h : m_badN n = true) : m_ckN n = 1 := by rw [ckN_eq, if_pos (bad_iff h)]
theorem ex0_gnd (l : List Value) (h : ex0 l = true) : gnds l = true := by rw [ex0_of h]; rfl
theorem ex1_gnd (l : List Value) (h : ex1 l = true) : gnds l = true := by obtain ⟨s, rfl⟩ := ex1_of h; rfl

theorem eBadComplement_ok (r : Mem) (hm : Tab r) : EOk (SC r) 8 (eBad ex0 vComplement) := eBad_ok r ex0_gnd (fun _ => rfl)
  (fun n l h hb => by
    cases ex0_of h
    rw [ckN_bad hb]
    exact GrT.of (SC_ok fun _ _ => none) (tRdN_ok hb) .nil rfl ⟨1, 3, (nComplement_1 n).trans (by rw [show m_same _ _ = true from same_rfl _]; rfl)⟩)
  (fun r' n b off len cap z l h hm hz hl hne => by
    cases ex0_of h
    have ht := tRd_ok (cap := cap) hm hz hl hne
    rcases ck_cases n z len hne with e | e <;> rw [e] at ht ⊢
    · exact GrT.of (SC_ok r') ht .nil rfl ⟨1, 3, (bComplement_1 r' n b off len cap).trans (by rw [show m_same _ _ = true from same_rfl _]; rfl)⟩
    · exact GrT.of (SC_ok r') ht .nil rfl ⟨1, 3, (bComplement_40 r' n b off len cap).trans (by rw [show m_same _ _ = true from same_rfl _]; rfl)⟩) hm
theorem eBadIsModule_ok (r : Mem) (hm : Tab r) : EOk (SC r) 9 (eBad ex1 vIsModule) := eBad_ok r ex1_gnd (fun _ => rfl)
  (fun n l h hb => by
    obtain ⟨s, rfl⟩ := ex1_of h
    rw [ckN_bad hb]
    exact GrT.of (SC_ok fun _ _ => none) (tRdN_ok hb) .nil rfl ⟨1, 3, (nIsModule_1 n s).trans (by rw [show m_same _ _ = true from same_rfl _]; rfl)⟩)
  (fun r' n b off len cap z l h hm hz hl hne => by
    obtain ⟨s, rfl⟩ := ex1_of h
    have ht := tRd_ok (cap := cap) hm hz hl hne
    rcases ck_cases n z len hne with e | e <;> rw [e] at ht ⊢
    · exact GrT.of (SC_ok r') ht .nil rfl ⟨1, 3, (bIsModule_1 r' n s b off len cap).trans (by rw [show m_same _ _ = true from same_rfl _]; rfl)⟩
    · exact GrT.of (SC_ok r') ht .nil rfl ⟨1, 3, (bIsModule_40 r' n s b off len cap).trans (by rw [show m_same _ _ = true from same_rfl _]; rfl)⟩) hm
theorem eBadModules_ok (r : Mem) (hm : Tab r) : EOk (SC r) 10 (eBad ex0 vModules) := eBad_ok r ex0_gnd (fun _ => rfl)
  (fun n l h hb => by
    cases ex0_of h
    rw [ckN_bad hb]
    exact GrT.of (SC_ok fun _ _ => none) (tRdN_ok hb) .nil rfl ⟨1, 3, (nModules_1 n).trans (by rw [show m_same _ _ = true from same_rfl _]; rfl)⟩)
  (fun r' n b off len cap z l h hm hz hl hne => by
    cases ex0_of h
    have ht := tRd_ok (cap := cap) hm hz hl hne
    rcases ck_cases n z len hne with e | e <;> rw [e] at ht ⊢
    · exact GrT.of (SC_ok r') ht .nil rfl ⟨1, 3, (bModules_1 r' n b off len cap).trans (by rw [show m_same _ _ = true from same_rfl _]; rfl)⟩
    · exact GrT.of (SC_ok r') ht .nil rfl ⟨1, 3, (bModules_40 r' n b off len cap).trans (by rw [show m_same _ _ = true from same_rfl _]; rfl)⟩) hm
theorem eBadStrong_ok (r : Mem) (hm : Tab r) : EOk (SC r) 11 (eBad ex0 vStrong) := eBad_ok r ex0_gnd (fun _ => rfl)
  (fun n l h hb => by
    cases ex0_of h
    rw [ckN_bad hb]
    exact GrT.of (SC_ok fun _ _ => none) (tRdN_ok hb) .nil rfl ⟨1, 3, (nStrong_1 n).trans (by rw [show m_same _ _ = true from same_rfl _]; rfl)⟩)
  (fun r' n b off len cap z l h hm hz hl hne => by
    cases ex0_of h
    have ht := tRd_ok (cap := cap) hm hz hl hne
    rcases ck_cases n z len hne with e | e <;> rw [e] at ht ⊢
    · exact GrT.of (SC_ok r') ht .nil rfl ⟨1, 3, (bStrong_1 r' n b off len cap).trans (by rw [show m_same _ _ = true from same_rfl _]; rfl)⟩
    · exact GrT.of (SC_ok r') ht .nil rfl ⟨1, 3, (bStrong_40 r' n b off len cap).trans (by rw [show m_same _ _ = true from same_rfl _]; rfl)⟩) hm
theorem eBadSplit_ok (r : Mem) (hm : Tab r) : EOk (SC r) 12 (eBad ex0 vSplit) := eBad_ok r ex0_gnd (fun _ => rfl)
  (fun n l h hb => by
    cases ex0_of h
    rw [ckN_bad hb]
    exact GrT.of (SC_ok fun _ _ => none) (tRdN_ok hb) .nil rfl ⟨1, 3, (nSplit_1 n).trans (by rw [show m_same _ _ = true from same_rfl _]; rfl)⟩)
  (fun r' n b off len cap z l h hm hz hl hne => by
    cases ex0_of h
    have ht := tRd_ok (cap := cap) hm hz hl hne
    rcases ck_cases n z len hne with e | e <;> rw [e] at ht ⊢
    · exact GrT.of (SC_ok r') ht .nil rfl ⟨1, 3, (bSplit_1 r' n b off len cap).trans (by rw [show m_same _ _ = true from same_rfl _]; rfl)⟩
    · exact GrT.of (SC_ok r') ht .nil rfl ⟨1, 3, (bSplit_40 r' n b off len cap).trans (by rw [show m_same _ _ = true from same_rfl _]; rfl)⟩) hm
theorem eBadQuotient_ok (r : Mem) (hm : Tab r) : EOk (SC r) 13 (eBad ex0 vQuotient) := eBad_ok r ex0_gnd (fun _ => rfl)
  (fun n l h hb => by
    cases ex0_of h
    rw [ckN_bad hb]
    exact GrT.of (SC_ok fun _ _ => none) (tRdN_ok hb) .nil rfl ⟨1, 3, (nQuotient_1 n).trans (by rw [show m_same _ _ = true from same_rfl _]; rfl)⟩)
  (fun r' n b off len cap z l h hm hz hl hne => by
    cases ex0_of h
    have ht := tRd_ok (cap := cap) hm hz hl hne
    rcases ck_cases n z len hne with e | e <;> rw [e] at ht ⊢
    · exact GrT.of (SC_ok r') ht .nil rfl ⟨1, 3, (bQuotient_1 r' n b off len cap).trans (by rw [show m_same _ _ = true from same_rfl _]; rfl)⟩
    · exact GrT.of (SC_ok r') ht .nil rfl ⟨1, 3, (bQuotient_40 r' n b off len cap).trans (by rw [show m_same _ _ = true from same_rfl _]; rfl)⟩) hm
theorem eBadTwins_ok (r : Mem) (hm : Tab r) : EOk (SC r) 14 (eBad ex0 vTwins) := eBad_ok r ex0_gnd (fun _ => rfl)
  (fun n l h hb => by
    cases ex0_of h
    rw [ckN_bad hb]
    exact GrT.of (SC_ok fun _ _ => none) (tRdN_ok hb) .nil rfl ⟨1, 3, (nTwins_1 n).trans (by rw [show m_same _ _ = true from same_rfl _]; rfl)⟩)
  (fun r' n b off len cap z l h hm hz hl hne => by
    cases ex0_of h
    have ht := tRd_ok (cap := cap) hm hz hl hne
    rcases ck_cases n z len hne with e | e <;> rw [e] at ht ⊢
    · exact GrT.of (SC_ok r') ht .nil rfl ⟨1, 3, (bTwins_1 r' n b off len cap).trans (by rw [show m_same _ _ = true from same_rfl _]; rfl)⟩
    · exact GrT.of (SC_ok r') ht .nil rfl ⟨1, 3, (bTwins_40 r' n b off len cap).trans (by rw [show m_same _ _ = true from same_rfl _]; rfl)⟩) hm
theorem eBadPath_ok (r : Mem) (hm : Tab r) : EOk (SC r) 15 (eBad ex0 vPath) := eBad_ok r ex0_gnd (fun _ => rfl)
  (fun n l h hb => by
    cases ex0_of h
    rw [ckN_bad hb]
    exact GrT.of (SC_ok fun _ _ => none) (tRdN_ok hb) .nil rfl ⟨1, 3, (nPath_1 n).trans (by rw [show m_same _ _ = true from same_rfl _]; rfl)⟩)
  (fun r' n b off len cap z l h hm hz hl hne => by
    cases ex0_of h
    have ht := tRd_ok (cap := cap) hm hz hl hne
    rcases ck_cases n z len hne with e | e <;> rw [e] at ht ⊢
    · exact GrT.of (SC_ok r') ht .nil rfl ⟨1, 3, (bPath_1 r' n b off len cap).trans (by rw [show m_same _ _ = true from same_rfl _]; rfl)⟩
    · exact GrT.of (SC_ok r') ht .nil rfl ⟨1, 3, (bPath_40 r' n b off len cap).trans (by rw [show m_same _ _ = true from same_rfl _]; rfl)⟩) hm
theorem eBadShape_ok (r : Mem) (hm : Tab r) : EOk (SC r) 16 (eBad ex0 vShape) := eBad_ok r ex0_gnd (fun _ => rfl)
  (fun n l h hb => by
    cases ex0_of h
    rw [ckN_bad hb]
    exact GrT.of (SC_ok fun _ _ => none) (tRdN_ok hb) .nil rfl ⟨1, 3, (nShape_1 n).trans (by rw [show m_same _ _ = true from same_rfl _]; rfl)⟩)
  (fun r' n b off len cap z l h hm hz hl hne => by
    cases ex0_of h
    have ht := tRd_ok (cap := cap) hm hz hl hne
    rcases ck_cases n z len hne with e | e <;> rw [e] at ht ⊢
    · exact GrT.of (SC_ok r') ht .nil rfl ⟨1, 3, (bShape_1 r' n b off len cap).trans (by rw [show m_same _ _ = true from same_rfl _]; rfl)⟩
    · exact GrT.of (SC_ok r') ht .nil rfl ⟨1, 3, (bShape_40 r' n b off len cap).trans (by rw [show m_same _ _ = true from same_rfl _]; rfl)⟩) hm
theorem eBadClique_ok (r : Mem) (hm : Tab r) : EOk (SC r) 17 (eBad ex0 vClique) := eBad_ok r ex0_gnd (fun _ => rfl)
  (fun n l h hb => by
    cases ex0_of h
    rw [ckN_bad hb]
    exact GrT.of (SC_ok fun _ _ => none) (tRdN_ok hb) .nil rfl ⟨1, 3, (nClique_1 n).trans (by rw [show m_same _ _ = true from same_rfl _]; rfl)⟩)
  (fun r' n b off len cap z l h hm hz hl hne => by
    cases ex0_of h
    have ht := tRd_ok (cap := cap) hm hz hl hne
    rcases ck_cases n z len hne with e | e <;> rw [e] at ht ⊢
    · exact GrT.of (SC_ok r') ht .nil rfl ⟨1, 3, (bClique_1 r' n b off len cap).trans (by rw [show m_same _ _ = true from same_rfl _]; rfl)⟩
    · exact GrT.of (SC_ok r') ht .nil rfl ⟨1, 3, (bClique_40 r' n b off len cap).trans (by rw [show m_same _ _ = true from same_rfl _]; rfl)⟩) hm

theorem tLaw_ok (r : Mem) (hm : Tab r) : TOk (SC r) tLaw := by
  refine TOk.cons (TOk.cons (TOk.cons ?_ (e0_ok (awake4.more hm))) (eChk_ok r pcN_ok (fun r' n b off len cap z h hz hl => partCheck_ok r' h n b off len cap z hz hl) hm)) (eChk_ok r rcN_ok (fun r' n b off len cap z h hz hl => refCheck_ok r' n b off len cap z hz hl) hm)
  exact TOk.cons (TOk.cons (TOk.cons (TOk.cons (TOk.cons (TOk.cons (TOk.cons (TOk.cons (TOk.cons (TOk.cons (TOk.nil) (eBadClique_ok r hm)) (eBadShape_ok r hm)) (eBadPath_ok r hm)) (eBadTwins_ok r hm)) (eBadQuotient_ok r hm)) (eBadSplit_ok r hm)) (eBadStrong_ok r hm)) (eBadModules_ok r hm)) (eBadIsModule_ok r hm)) (eBadComplement_ok r hm)

theorem own_nil (r : Mem) : GrT Tryz.prog r 4 [.slice none 0 0] (.slice none 0 0) := GrM.plain (GrM.of (SC_ok r) TOk.nil .nil ⟨2, 1, owN r⟩) rfl
theorem own_zero (r : Mem) (b off cap : Nat) (hc : Nat.beq cap unkE = false) : GrT Tryz.prog r 4 [RS2 b off 0 cap] (.slice none 0 0) := GrM.plain (GrM.of (SC_ok r) TOk.nil .nil ⟨2, 1, (owZ r b off cap).trans (by rw [show Nat.beq cap 9223372036854775809 = false from hc]; rfl)⟩) rfl

theorem ne_same (x : Int) : (x != x) = false := by simp
theorem eq_same (x : Int) : (x == x) = true := by simp

theorem law_nil (r : Mem) (hm : Tab r) (n set : Int) : GrT Tryz.prog r 3 [I n, .slice none 0 0, I set] (.bool true) := by
  refine GrT.of (SC_ok r) (tLaw_ok r hm) .nil rfl ⟨2, 2, ?_⟩
  rw [lwN]
  by_cases h : m_ckN n = 0
  · have e : (m_ckN n == Int.ofNat 0) = true := by rw [h]; rfl
    simp only [cond_true, cond_false, ne_same, e, cond_true, Bool.and_self, Bool.and_true, Bool.true_and]
    rfl
  · have e : (m_ckN n == Int.ofNat 0) = false := by simpa using h
    have b1 : m_badN n = true := by show (!decide (m_ckN n = 0)) = true; simp [h]
    simp only [cond_true, cond_false, ne_same, eq_same, e, b1, cond_true, Bool.and_self, Bool.and_true, Bool.true_and]
    rfl
theorem law_zero (r : Mem) (hm : Tab r) (n set : Int) (b off cap : Nat) (hc : Nat.beq cap unkE = false) : GrT Tryz.prog r 3 [I n, RS2 b off 0 cap, I set] (.bool true) := by
  refine GrT.of (SC_ok r) (show TOk (SC r) (tLawN [RS2 b off 0 cap]) from TOk.cons (tLaw_ok r hm) (entV_ok (own_zero r b off cap hc) rfl)) .nil rfl ⟨2, 1, ?_⟩
  rw [lwZ, show m_same _ _ = true from same_rfl _, cond_true]
  by_cases h : m_ckN n = 0
  · have e : (m_ckN n == Int.ofNat 0) = true := by rw [h]; rfl
    simp only [cond_true, cond_false, ne_same, e, cond_true, Bool.and_self, Bool.and_true, Bool.true_and]
    rfl
  · have e : (m_ckN n == Int.ofNat 0) = false := by simpa using h
    have b1 : m_badN n = true := by show (!decide (m_ckN n = 0)) = true; simp [h]
    simp only [cond_true, cond_false, ne_same, eq_same, e, b1, cond_true, Bool.and_self, Bool.and_true, Bool.true_and]
    rfl

theorem own_row (r : Mem) (b off len cap : Nat) (h0 : len ≠ 0) (hl : len ≤ cap) (hc : Nat.beq cap unkE = false) (zs : List Int) (hz : zs.length = 2 * min 130 len) (hr : ∀ j, j < 2 * min 130 len → r b (off + j) = (zs.map I)[j]?) :
    GrM Tryz.prog r 4 [RS2 b off len cap] (.slice (some ⟨0, 0, none⟩) (min 130 len) unk) (rowA (zs.map I) 56 2) := by
  refine GrM.of (SC_ok r) TOk.nil .nil ⟨2, 1, (owA r b off len cap).trans ?_⟩
  have hM : (bif decide (130 < Int.ofNat len) then Int.ofNat 130 else Int.ofNat len) = ((min 130 len : Nat) : Int) := by
    by_cases c : 130 < len
    · have : (130 : Int) < Int.ofNat len := by simp; omega
      rw [dT this, cond_true, Nat.min_eq_left (by omega)]
      rfl
    · have : ¬ (130 : Int) < Int.ofNat len := by simp; omega
      rw [dF this, cond_false, Nat.min_eq_right (by omega)]
      rfl
  have hM' : (bif decide (130 < Int.ofNat len) then (130 : Int) else Int.ofNat len) = ((min 130 len : Nat) : Int) := hM
  have hn : 0 < min 130 len := by omega
  have hn2 : min 130 len ≤ 130 := by omega
  have hncap : min 130 len ≤ cap := by omega
  generalize min 130 len = m at *
  have g0 : 0 ≤ (m : Int) := by omega
  have g1 : Nat.ble m cap = true := Nat.ble_eq_true_of_le hncap
  have g2 : Nat.beq m 0 = false := natFK2 (by omega)
  have g3 : Nat.ble m 1000000 = true := Nat.ble_eq_true_of_le (by omega)
  have hlen : (zs.map I).length = 2 * m := by rw [List.length_map, hz]
  have g4 : takeF (r b) off (2 * m) = some (zs.map I) := takeF_all _ _ _ _ hlen hr
  have g5 : Nat.beq (List.length (zs.map I)) (m * 2) = true := by rw [hlen, Nat.mul_comm]; exact Nat.beq_refl _
  have g6 : Nat.beq cap unkE = false := hc
  have e1 : TypeInfo.size Tryz.t56 = 2 := by kernel_rfl
  have g7 : takeF ((SC r).ro b) off (m * TypeInfo.size Tryz.t56) = some (zs.map I) := by
    rw [e1, Nat.mul_comm]
    exact g4
  have g8 : gnds (zs.map I) = true := by
    clear hz hr hlen g4 g5 g7
    induction zs with
    | nil => rfl
    | cons x l ih => show (gnd (I x) && gnds (l.map I)) = true; rw [ih]; rfl
  simp only [hM, hM', dT g0, cond_true, show Nat.beq cap 9223372036854775809 = false from hc, cond_false, Int.toNat_natCast, g1, g2, Nat.sub_eq, Nat.sub_zero, Nat.add_eq, Nat.zero_add, g3, Nat.mul_eq, Nat.mul_one, Nat.zero_mul, Nat.add_zero]
  rw [g6]
  simp only [g7, g5, g8, cond_true]
  rfl

theorem eOwn_ok (r : Mem) {b off len cap m : Nat} {c : List Value} (hm : m ≠ 0) (hg : gnds c = true) (h : GrM Tryz.prog r 4 [RS2 b off len cap] (.slice (some ⟨0, 0, none⟩) m unk) (rowA c 56 2)) : EOk (SC r) 4 (eOwn [RS2 b off len cap] m c) := fun args A hgd F hF k γ W args' hw hR ha => by
  refine ⟨fun _ => ?_, fun h => nomatch h⟩
  have hargs := @of_decide_eq_true _ (Classical.propDecidable _) hgd
  subst hargs
  have hof : ofV 0 (.slice (some ⟨0, 0, none⟩) m unk) = true := by simp [ofV, of1]
  exact h.ends (γ := γ) (A := A) hof hg hF hw (hR.noG noG fun _ => rfl) (ha.of_ros rfl) ha

theorem law_row (r : Mem) (hm : Tab r) (n set : Int) (b off len cap : Nat) (hl : len ≤ cap) (hc : cap ≤ maxLen) (hr : ∀ i, i < cap * 2 → ∃ z, r b (off + i) = some (I z)) : GrT Tryz.prog r 3 [I n, RS2 b off len cap, I set] (.bool true) := by
  have hcap : Nat.beq cap unkE = false := natFK2 (by unfold maxLen at hc; unfold unkE; omega)
  by_cases h0 : len = 0
  · subst h0
    exact law_zero r hm n set b off cap hcap
  · obtain ⟨zs, hzl, hz⟩ : ∃ zs : List Int, zs.length = 2 * min 130 len ∧ ∀ j, j < 2 * min 130 len → r b (off + j) = (zs.map I)[j]? := by
      refine ⟨(List.range (2 * min 130 len)).map fun j => ofI ((r b (off + j)).getD undef), by simp, fun j hj => ?_⟩
      obtain ⟨z, e⟩ := hr j (by omega)
      rw [List.getElem?_map, List.getElem?_map, List.getElem?_range hj]
      simp [e, ofI]
    have hok : m_okL2 (zs.map I) 0 (min 130 len) = true := @decide_eq_true _ (Classical.propDecidable _) ⟨by omega, fun j hj => by
      rw [Nat.zero_add, List.getElem?_map, List.getElem?_eq_getElem (by omega)]
      exact ⟨_, rfl⟩⟩
    have hg8 : gnds (zs.map I) = true := by
      clear hzl hz hok
      induction zs with
      | nil => rfl
      | cons x l ih => show (gnd (I x) && gnds (l.map I)) = true; rw [ih]; rfl
    refine GrT.of (SC_ok r) (show TOk (SC r) (tLawR [RS2 b off len cap] (min 130 len) (zs.map I)) from TOk.cons (tLaw_ok r hm) (eOwn_ok r (by omega) hg8 (own_row r b off len cap h0 hl hcap zs hzl hz))) .nil rfl ⟨2, 1, ?_⟩
    rw [lwR, show m_same _ _ = true from same_rfl _, cond_true]
    by_cases h : m_ckL n (zs.map I) 0 (min 130 len) = 0
    · have e : (m_ckL n (zs.map I) 0 (min 130 len) == Int.ofNat 0) = true := by rw [h]; rfl
      simp only [cond_true, cond_false, ne_same, e, hok, Bool.and_self, Bool.and_true, Bool.true_and]
      rfl
    · have e : (m_ckL n (zs.map I) 0 (min 130 len) == Int.ofNat 0) = false := by simpa using h
      have b1 : m_bad n (zs.map I) 0 (min 130 len) = true := by show (!decide (m_ckL n (zs.map I) 0 (min 130 len) = 0)) = true; simp [h]
      simp only [cond_true, cond_false, ne_same, eq_same, e, b1, hok, Bool.and_self, Bool.and_true, Bool.true_and]
      rfl

theorem law_partChecks (r : Mem) (hm : ∀ b j u, tabM b j = some u → r b j = some u) (u0 u1 u2 : Value) (s0 : ArgInt .i64 u0) (s1 : ArgRowT r 2 (ArgInt .i64) u1) (s2 : ArgInt .i64 u2) : GrT Tryz.prog r 3 [u0, u1, u2] (.bool true) := by
  obtain ⟨n, rfl, _⟩ := s0
  obtain ⟨set, rfl, _⟩ := s2
  cases s1 with
  | nil => exact law_nil r hm n set
  | row b off len cap hl hc h =>
    refine law_row r hm n set b off len cap hl hc fun i hi => ?_
    obtain ⟨u, hu, z, rfl, _⟩ := h i hi
    exact ⟨z, hu⟩

end Go.Proofs

