/- What the claim is proved with, part 4: the evaluator and the contracts of the calls. -/
import Derived.Test.YtdalaifnhppidaaGreatDoorSymBase
import Derived.Shelf.Lay
import Derived.Shelf.SlSortCmp.Whole1
import Derived.Test.YtdalaifnhppidaaGreatDoorPack3
import Derived.Test.YtdalaifnhppidaaGreatDoorPack1
import Derived.Test.YtdalaifnhppidaaGreatDoorPack2
set_option linter.unusedVariables false
set_option linter.unusedSimpArgs false
set_option maxRecDepth 100000
namespace Go.Proofs
open Go Go.Shelf
noncomputable def nameK (n : Nat) : String := match Tryz.prog.funcs[n]? with
 | some f => f.name
 | none => ""
def Tryz.sortK_ren : Shelf.Ren where
 f := fun x => match x with
  | 6 => 81
  | 15 => 99
  | 14 => 98
  | 28 => 111
  | 29 => 112
  | 20 => 103
  | 21 => 104
  | 22 => 105
  | 23 => 106
  | 24 => 107
  | 25 => 108
  | 26 => 109
  | 27 => 110
  | 46 => 114
  | 47 => 115
  | 48 => 116
  | 49 => 117
  | 50 => 118
  | 57 => 127
  | n => n
 t := fun x => match x with
  | 22 => 62
  | 24 => 56
  | 25 => 89
  | 3 => 3
  | 39 => 51
  | 0 => 0
  | 53 => 134
  | 55 => 146
  | 4 => 4
  | 46 => 138
  | 45 => 137
  | 50 => 142
  | 5 => 5
  | 9 => 9
  | 66 => 148
  | 70 => 152
  | 76 => 159
  | 77 => 160
  | n => n
 g := fun x => x
theorem Tryz.sortK : SlLaysF.n6 Tryz.prog Tryz.sortK_ren where
 mixed := by kernel_rfl
 f6 := ⟨nameK 81, of_decide_eq_true (by kernel_rfl), Tryz.func81.trans (by kernel_rfl)⟩
 f14 := ⟨nameK 98, of_decide_eq_true (by kernel_rfl), Tryz.func98.trans (by kernel_rfl)⟩
 f15 := Tryz.func99.trans (by kernel_rfl)
 f20 := ⟨nameK 103, of_decide_eq_true (by kernel_rfl), Tryz.func103.trans (by kernel_rfl)⟩
 f21 := ⟨nameK 104, of_decide_eq_true (by kernel_rfl), Tryz.func104.trans (by kernel_rfl)⟩
 f22 := ⟨nameK 105, of_decide_eq_true (by kernel_rfl), Tryz.func105.trans (by kernel_rfl)⟩
 f23 := ⟨nameK 106, of_decide_eq_true (by kernel_rfl), Tryz.func106.trans (by kernel_rfl)⟩
 f24 := ⟨nameK 107, of_decide_eq_true (by kernel_rfl), Tryz.func107.trans (by kernel_rfl)⟩
 f25 := ⟨nameK 108, of_decide_eq_true (by kernel_rfl), Tryz.func108.trans (by kernel_rfl)⟩
 f26 := ⟨nameK 109, of_decide_eq_true (by kernel_rfl), Tryz.func109.trans (by kernel_rfl)⟩
 f27 := ⟨nameK 110, of_decide_eq_true (by kernel_rfl), Tryz.func110.trans (by kernel_rfl)⟩
 f28 := Tryz.func111.trans (by kernel_rfl)
 f29 := Tryz.func112.trans (by kernel_rfl)
 f46 := ⟨nameK 114, of_decide_eq_true (by kernel_rfl), Tryz.func114.trans (by kernel_rfl)⟩
 f47 := Tryz.func115.trans (by kernel_rfl)
 f48 := Tryz.func116.trans (by kernel_rfl)
 f49 := ⟨nameK 117, of_decide_eq_true (by kernel_rfl), Tryz.func117.trans (by kernel_rfl)⟩
 f50 := ⟨nameK 118, of_decide_eq_true (by kernel_rfl), Tryz.func118.trans (by kernel_rfl)⟩
 f57 := ⟨nameK 127, of_decide_eq_true (by kernel_rfl), Tryz.func127.trans (by kernel_rfl)⟩
 t0 := Tryz.underlying0
 a0 := Tryz.isAgg0
 z0 := Tryz.sizeOf0
 v0 := Tryz.zeroValue0
 t3 := Tryz.underlying3
 a3 := Tryz.isAgg3
 z3 := Tryz.sizeOf3
 v3 := Tryz.zeroValue3
 t4 := Tryz.underlying4
 a4 := Tryz.isAgg4
 z4 := Tryz.sizeOf4
 v4 := Tryz.zeroValue4
 t5 := Tryz.underlying5
 a5 := Tryz.isAgg5
 z5 := Tryz.sizeOf5
 v5 := Tryz.zeroValue5
 t9 := Tryz.underlying9
 a9 := Tryz.isAgg9
 z9 := Tryz.sizeOf9
 v9 := Tryz.zeroValue9
 t22 := Tryz.underlying62
 a22 := Tryz.isAgg62
 z22 := Tryz.sizeOf62
 v22 := Tryz.zeroValue62
 a24 := Tryz.isAgg56
 z24 := Tryz.sizeOf56
 t25 := Tryz.underlying89
 a25 := Tryz.isAgg89
 z25 := Tryz.sizeOf89
 v25 := Tryz.zeroValue89
 t39 := Tryz.underlying51
 a39 := Tryz.isAgg51
 z39 := Tryz.sizeOf51
 v39 := Tryz.zeroValue51
 t45 := Tryz.underlying137
 a45 := Tryz.isAgg137
 z45 := Tryz.sizeOf137
 v45 := Tryz.zeroValue137
 t46 := Tryz.underlying138
 a46 := Tryz.isAgg138
 z46 := Tryz.sizeOf138
 v46 := Tryz.zeroValue138
 t50 := Tryz.underlying142
 a50 := Tryz.isAgg142
 z50 := Tryz.sizeOf142
 v50 := Tryz.zeroValue142
 t53 := Tryz.underlying134
 a53 := Tryz.isAgg134
 z53 := Tryz.sizeOf134
 v53 := Tryz.zeroValue134
 t55 := Tryz.underlying146
 a55 := Tryz.isAgg146
 z55 := Tryz.sizeOf146
 v55 := Tryz.zeroValue146
 t66 := Tryz.underlying148
 a66 := Tryz.isAgg148
 z66 := Tryz.sizeOf148
 v66 := Tryz.zeroValue148
 t70 := Tryz.underlying152
 a70 := Tryz.isAgg152
 z70 := Tryz.sizeOf152
 v70 := Tryz.zeroValue152
 t76 := Tryz.underlying159
 a76 := Tryz.isAgg159
 z76 := Tryz.sizeOf159
 v76 := Tryz.zeroValue159
 t77 := Tryz.underlying160
 a77 := Tryz.isAgg160
 z77 := Tryz.sizeOf160
 v77 := Tryz.zeroValue160
end Go.Proofs
namespace Go.Proofs
open Go Go.Ev Go.Shelf Go.Lib Go.Sort
instance : Inhabited K16 := ⟨⟨0, by decide⟩⟩
def encK (x : K16) : Value := .int .u16 x.1
def cfK (x y : K16) : Int := m_cf x.1 y.1
theorem cf_calls (r : Mem) (x y : K16) : GrT Tryz.prog r 55 [encK x, encK y] (I (cfK x y)) := by
 refine GrT.of (SC_ok r) (tCf_ok r) .nil rfl ⟨4, 3, (keF r x.1 y.1).trans ?_⟩
 obtain ⟨x, h1, h2⟩ := x
 obtain ⟨y, h3, h4⟩ := y
 simp only [dT h1, dT h2, dT h3, dT h4, Bool.and_self, cond_true]
 unfold cfK m_cf
 simp only
 rw [show (Int.ofNat 0 : Int) = 0 from rfl]
 cases m_cp (m_sz x) (m_sz y) != 0
 ·simp only [cond_false]
  cases h : m_cp x y != 0
  ·simp only [cond_false]
   have : m_cp x y = 0 := by simpa using h
   rw [this]
   rfl
  ·rfl
 ·rfl
theorem cp_neg (x y : Int) : m_cp x y < 0 ↔ x < y := by
 unfold m_cp
 by_cases h : x < y
 ·simp [h]
 ·by_cases h2 : x > y <;> simp [h, h2]
theorem cp_zero (x y : Int) : (m_cp x y != 0) = false ↔ x = y := by
 unfold m_cp
 by_cases h : x < y
 ·simp [h]; omega
 ·by_cases h2 : x > y
  ·simp [h, h2]; omega
  ·simp [h, h2]; omega
theorem ltK (x y : K16) : ltOf cfK x y = decide (m_sz x.1 < m_sz y.1 ∨ (m_sz x.1 = m_sz y.1 ∧ x.1 < y.1)) := by
 unfold ltOf cfK m_cf
 cases h : m_cp (m_sz x.1) (m_sz y.1) != 0
 ·have := (cp_zero _ _).1 h
  simp only [cond_false, cp_neg, this]
  simp
 ·have : m_sz x.1 ≠ m_sz y.1 := fun e => by rw [(cp_zero _ _).2 e] at h; cases h
  simp only [cond_true, cp_neg]
  simp [this]
theorem swoK : SWO (ltOf cfK) where
 irrefl x := by rw [ltK]; simp
 trans x y z h1 h2 := by rw [ltK] at *; simp only [decide_eq_true_eq] at *; omega
 ntrans x y z h1 h2 := by rw [ltK] at *; simp only [decide_eq_false_iff_not] at *; omega
theorem totK (x y : K16) (h1 : ltOf cfK x y = false) (h2 : ltOf cfK y x = false) : x = y := by
 rw [ltK] at *
 simp only [decide_eq_false_iff_not] at *
 apply Subtype.ext
 omega
def insZ (x : Int) : List Int → List Int
 | [] => [x]
 | y :: l => bif decide (m_cf x y < 0) then x :: y :: l else y :: insZ x l
def sortZ : List Int → List Int
 | [] => []
 | x :: l => insZ x (sortZ l)
def insK (x : K16) : List K16 → List K16
 | [] => [x]
 | y :: l => bif ltOf cfK x y then x :: y :: l else y :: insK x l
def sortK : List K16 → List K16
 | [] => []
 | x :: l => insK x (sortK l)
theorem insK_val (x : K16) (l : List K16) : (insK x l).map (·.1) = insZ x.1 (l.map (·.1)) := by
 induction l with
 | nil => rfl
 | cons y l ih =>
  simp only [insK, List.map_cons, insZ]
  rw [show decide (m_cf x.1 y.1 < 0) = ltOf cfK x y from rfl]
  cases ltOf cfK x y
  ·simp only [cond_false, List.map_cons, ih]
  ·rfl
theorem sortK_val (l : List K16) : (sortK l).map (·.1) = sortZ (l.map (·.1)) := by
 induction l with
 | nil => rfl
 | cons x l ih => simp only [sortK, List.map_cons, sortZ, insK_val, ih]
theorem insK_perm (x : K16) (l : List K16) : (insK x l).Perm (x :: l) := by
 induction l with
 | nil => exact .refl _
 | cons y l ih =>
  simp only [insK]
  cases ltOf cfK x y
  ·exact (List.Perm.cons y ih).trans (.swap ..)
  ·exact .refl _
theorem sortK_perm (l : List K16) : (sortK l).Perm l := by
 induction l with
 | nil => exact .refl _
 | cons x l ih => exact (insK_perm x _).trans (.cons x ih)
theorem insK_sorted (x : K16) {l : List K16} (h : l.Pairwise fun a b => ltOf cfK b a = false) : (insK x l).Pairwise fun a b => ltOf cfK b a = false := by
 induction l with
 | nil => simp [insK]
 | cons y l ih =>
  simp only [insK]
  rw [List.pairwise_cons] at h
  cases hc : ltOf cfK x y with
  | true =>
   simp only [cond_true]
   have hyx : ltOf cfK y x = false := by
    rw [ltK] at *
    simp only [decide_eq_true_eq, decide_eq_false_iff_not] at *
    omega
   refine List.pairwise_cons.2 ⟨fun b hb => ?_, List.pairwise_cons.2 h⟩
   rcases List.mem_cons.1 hb with rfl | hb
   ·exact hyx
   ·have := h.1 b hb
    rw [ltK] at *
    simp only [decide_eq_true_eq, decide_eq_false_iff_not] at *
    omega
  | false =>
   simp only [cond_false]
   refine List.pairwise_cons.2 ⟨fun b hb => ?_, ih h.2⟩
   rcases List.mem_cons.1 ((insK_perm x l).mem_iff.1 hb) with rfl | hb
   ·exact hc
   ·exact h.1 b hb
theorem sortK_sorted (l : List K16) : (sortK l).Pairwise fun a b => ltOf cfK b a = false := by
 induction l with
 | nil => exact .nil
 | cons x l ih => exact insK_sorted x ih
theorem sortK_one {d l : List K16} (hp : d.Perm l) (hs : d.Pairwise fun a b => ltOf cfK b a = false) : d = sortK l :=
 (hp.trans (sortK_perm l).symm).eq_of_pairwise (fun a b _ _ h1 h2 => totK a b h2 h1) hs (sortK_sorted l)
theorem sort_entry (r : Mem) {A0 : AW} {i : Nat} {e : TypeId} {fam z : Nat} {zs l : List K16} (hi : A0.heap.get i = some (.cells (zs.map encK) e fam z)) (hsz : zs.length < 1000000) (hl : zs.Perm l) :
  EOk (SC r) 81 (entAt [.slice (some ⟨i, 0, none⟩) zs.length unk, cmpV] A0 (.tuple ⟨[]⟩) (A0.only fam i (.cells ((sortK l).map encK) e fam z))) := by
 refine entAt_ok fun F hF k γ W args' hw hR ha => ?_
 exact sort_gen Tryz.sortK encK (fun _ => rfl) (fun _ => rfl) 55 cfK swoK (fun args w => callFunc_ok (SC_ok r) (by kernel_rfl) args w) (cf_calls _) (C := SC r) rfl hi (by omega) (by decide) (fun d hp hs => sortK_one (hp.trans hl) hs) F hF k γ W args' hw hR ha
theorem rowK_enc (vis : List KT) : rowK vis = (vis.map (·.1)).map encK := by simp [rowK, encK]
theorem sorted_S {r : Mem} {e z clock : Nat} {q : List KT} (hq : KOk q clock) (hne : q ≠ []) : SOk (SC r) 53 [seqV, cmpV] (AK0 e z clock (q.map mkE)) fun v A' => v = .slice (some ⟨2, 0, none⟩) q.length unk ∧ A' = AR e z clock (q.map mkE) ((sortK (q.map (·.1))).map encK) := by
 obtain ⟨fn, h1, h2, h3, h4⟩ := fn_of (C := SC r) (f := 53) (by kernel_rfl)
 have hn : fn.ntmps = 12 := h3.trans (by kernel_rfl)
 rw [bodySC] at h2
 refine call_reachS (SC_ok r) h1 h2 51 (by rw [hn]; rfl) fun γ W F k hw hF hro => ?_
 rw [hn, h4]
 show Go.Ev.Reach (SC r) 51 12 F k γ W cSf _ _
 rw [show cSf = Code.seq (lc cSf) (.seq (lc (rc cSf)) (rc (rc cSf))) from by kernel_rfl]
 refine Go.Ev.Reach.seq (Go.Ev.Reach.seg (SC_ok r) TOk.nil (tm := .nil) (L := 1) (L' := 1) (d := 1) hF hro ((kdA ..).trans (qn_ok ?_)))
 refine Go.Ev.Reach.seq (Go.Ev.Reach.callP (SC_ok r) hF TOk.nil (tm := .nil) (L := 0) (d := 0) 1 ((kdB ..).trans (qn_ok rfl)) (kdJ ..) (collect_S (e := e) (z := z) hq hne) fun v A' ⟨vis, hv, h1, h2⟩ => ?_)
 subst h1 h2
 refine (kdC ..).trans (qn_ok ?_)
 have hlen : vis.length = q.length := hv.length_eq
 have hent := sort_entry r (A0 := AR e z clock (q.map mkE) (rowK vis)) (i := 2) (e := 56) (fam := 2) (z := 1) (zs := vis.map (·.1)) (l := q.map (·.1)) (by rw [← rowK_enc]; kernel_rfl) (by rw [List.length_map, hlen]; exact hq.few) (hv.map _)
 rw [List.length_map] at hent
 have hA1 : (AR e z clock (q.map mkE) (rowK vis)).only 2 2 (.cells ((sortK (q.map (·.1))).map encK) 56 2 1) = AR e z clock (q.map mkE) ((sortK (q.map (·.1))).map encK) := by kernel_rfl
 refine Go.Ev.Reach.seg (SC_ok r) (t := tSo vis.length (AR e z clock (q.map mkE) (rowK vis)) (AR e z clock (q.map mkE) ((sortK (q.map (·.1))).map encK))) (TOk.nil.cons (hA1 ▸ hent)) (tm := .nil) (L := 1) (L' := 1) (d := 1) hF hro ((kdD ..).trans ?_)
 rw [at_rfl, cond_true]
 refine qn_ok ⟨.inr rfl, _, slV vis.length, _, Ren.refl _, ?_, by rw [hlen], rfl⟩
 rw [← finK_finish]
 exact kdE ..
end Go.Proofs
namespace Go.Proofs
open Go Go.Ev
def sfArgs (args : List Value) (A : AW) : Option (List MapEntry × Nat) := match args with
 | [.func (.func f) ⟨[]⟩ ⟨[.pointer (some ⟨b, 0, none⟩)]⟩, .func (.func g) ⟨[]⟩ ⟨[]⟩] => match Nat.beq f 82 && Nat.beq g 55, A.heap.get b with
  | true, some (.cells [.map (some m)] _ fam _) => match A.members fam with
   | [b'] => match Nat.beq b' b, A.heap.get m with
    | true, some (.map es clock) => some (es, clock)
    | _, _ => none
   | _ => none
  | _, _ => none
 | _ => none
def keyZ (e : MapEntry) : Int := match e.key with
 | .int .u16 x => x
 | _ => 0
def okE (clock : Nat) (e : MapEntry) : Bool := match e.key, e.val with
 | .int .u16 x, .bool _ => decide (0 ≤ x) && decide (x < 65536) && Nat.blt e.born clock
 | _, _ => false
def freshB (n : Nat) : List MapEntry → Bool
 | [] => true
 | e :: l => (!Nat.beq e.born n) && freshB n l
def okEs (clock : Nat) : List MapEntry → Bool
 | [] => true
 | e :: l => okE clock e && freshB e.born l && okEs clock l
theorem okE_of {clock : Nat} {e : MapEntry} (h : okE clock e = true) : ∃ t : KT, e = mkE t ∧ t.2.2 < clock := by
 obtain ⟨k, v, n⟩ := e
 unfold okE at h
 split at h
 ·rename_i x b h1 h2
  simp only [Bool.and_eq_true, decide_eq_true_eq] at h
  simp only at h1 h2
  subst h1 h2
  exact ⟨(⟨x, h.1.1, h.1.2⟩, b, n), rfl, Nat.le_of_ble_eq_true h.2⟩
 ·cases h
theorem okEs_of {clock : Nat} : ∀ {es : List MapEntry}, okEs clock es = true → ∃ q : List KT, es = q.map mkE ∧ (∀ t ∈ q, t.2.2 < clock) ∧ (bornK q).Nodup
 | [], _ => ⟨[], rfl, fun _ h => (nomatch h), .nil⟩
 | e :: l, h => by
  simp only [okEs, Bool.and_eq_true] at h
  obtain ⟨⟨h1, h2⟩, h3⟩ := h
  obtain ⟨t, rfl, ht⟩ := okE_of h1
  obtain ⟨q, rfl, hq1, hq2⟩ := okEs_of h3
  refine ⟨t :: q, rfl, fun x hx => ?_, ?_⟩
  ·rcases List.mem_cons.1 hx with rfl | hx
   ·exact ht
   ·exact hq1 x hx
  ·unfold bornK at *
   rw [List.map_cons, List.nodup_cons]
   refine ⟨fun hm => ?_, hq2⟩
   obtain ⟨x, hx, hxe⟩ := List.mem_map.1 hm
   have key : ∀ (l : List KT), freshB t.2.2 (l.map mkE) = true → ∀ x ∈ l, x.2.2 ≠ t.2.2 := by
    intro l
    induction l with
    | nil => intro _ x hx; cases hx
    | cons y l ih =>
     intro h x hx
     simp only [List.map_cons, freshB, Bool.and_eq_true] at h
     rcases List.mem_cons.1 hx with rfl | hx
     ·intro he
      have h1 := h.1
      rw [show (mkE x).born = x.2.2 from rfl, he, show Nat.beq t.2.2 t.2.2 = true from Nat.beq_refl _] at h1
      cases h1
     ·exact ih h.2 x hx
   exact key q h2 x hx hxe
def emptyL : List MapEntry → Bool
 | [] => true
 | _ => false
def eSF : Ent := ⟨fun args A => match sfArgs args A with
  | some (es, clock) => !emptyL es && Nat.blt es.length 1000000 && okEs clock es
  | none => false, fun _ _ => true,
 fun args A => match sfArgs args A with
  | some (es, _) => .slice (some ⟨A.next, 0, none⟩) es.length unk
  | none => undef,
 fun args A => match sfArgs args A with
  | some (es, _) => A.new (.cells ((sortZ (es.map keyZ)).map fun x => .int .u16 x) 56 A.next 1)
  | none => A, fun _ _ => undef, fun _ A => A⟩
theorem eSF_ok (r : Mem) : EOk (SC r) 53 eSF := fun args A hg F hF k γ W args' hw hR ha => by
 refine ⟨fun _ => ?_, fun h => nomatch h⟩
 simp only [eSF] at hg ⊢
 cases hs : sfArgs args A with
 | none => rw [hs] at hg; cases hg
 | some p =>
  obtain ⟨es, clock⟩ := p
  rw [hs] at hg
  simp only [Bool.and_eq_true] at hg ⊢
  obtain ⟨⟨hne, hfew⟩, hok⟩ := hg
  obtain ⟨q, rfl, hq1, hq2⟩ := okEs_of hok
  have hfew' : q.length < 1000000 := by
   have := Nat.le_of_ble_eq_true hfew
   simp at this
   omega
  have hqn : q ≠ [] := fun h => by subst h; cases hne
  unfold sfArgs at hs
  split at hs
  ·rename_i f b g
   split at hs
   ·rename_i m e fam z hfg hbx
    split at hs
    ·rename_i b' hmem
     split at hs
     ·rename_i es' clock' hbb hmm
      cases hs
      simp only [Bool.and_eq_true] at hfg
      have e1 := Nat.eq_of_beq_eq_true hfg.1
      have e2 := Nat.eq_of_beq_eq_true hfg.2
      have e3 := Nat.eq_of_beq_eq_true hbb
      subst e1 e2 e3
      have hsorted := sorted_S (r := r) (e := e) (z := z) ⟨hq1, hq2, hfew'⟩ hqn
      have hks : ((sortZ ((q.map mkE).map keyZ)).map fun x => Value.int .u16 x) = (sortK (q.map (·.1))).map encK := by
       have h1 : (q.map mkE).map keyZ = (q.map (·.1)).map (·.1) := by simp [mkE, keyZ]
       rw [h1, ← sortK_val, List.map_map]
       rfl
      have hgs := ksG q
      have hw2 := WRel.pair hw hbx hmm hgs
      have hcall := hsorted F hF k (g2 γ b' m) W args' hw2 (Ro.pair hR b' m) ?_
      ·refine hcall.mono fun x W' ⟨v, A', hS, he⟩ => ?_
       obtain ⟨rfl, rfl⟩ := hS
       rw [hks, List.length_map]
       exact Ends.pair hw hbx hmm hmem hgs (fun v hv => by obtain ⟨y, _, rfl⟩ := List.mem_map.1 hv; rfl) rfl rfl rfl he
      ·obtain ⟨la⟩ := args'
       cases ha with
       | cons h1 h2 =>
       cases h2 with
       | cons h2 h3 =>
       cases h3
       refine .cons ?_ (.cons ?_ .nil)
       ·cases h1 with
        | func p1 p2 p3 =>
         rename_i f' a' c'
         obtain ⟨a'⟩ := a'
         obtain ⟨c'⟩ := c'
         cases p1
         cases p2
         cases p3 with
         | cons k1 k2 =>
          cases k2
          cases k1 with
          | ptr k hg1 => exact .func (.func _) .nil (.cons (.ptr _ (show g2 γ b' m 0 = _ from hg1)) .nil)
       ·cases h2 with
        | func p1 p2 p3 =>
         rename_i f' a' c'
         obtain ⟨a'⟩ := a'
         obtain ⟨c'⟩ := c'
         cases p1
         cases p2
         cases p3
         exact .func (.func _) .nil .nil
     ·cases hs
    ·cases hs
   ·cases hs
  ·cases hs
end Go.Proofs
namespace Go.Proofs
open Go Go.Ev
def mskH : Tr Nat := (.node (.node (.node (.node (.node (.node (.node (.node .nil (some 3103) .nil) (some 479) .nil) none (.node .nil (some 23) .nil)) (some 49119) (.node (.node (.node .nil (some 0) .nil) (some 19) .nil) (some 12351) (.node .nil (some 5) .nil))) (some 65533) (.node (.node (.node (.node .nil (some 0) .nil) (some 12885957631) .nil) (some 61) (.node .nil (some 783) .nil)) (some 1021) (.node (.node .nil (some 23) .nil) (some 19) (.node .nil (some 783) .nil)))) (some 4093) (.node (.node (.node (.node (.node .nil (some 3103) .nil) (some 33557567) .nil) none (.node .nil (some 5) .nil)) none (.node (.node (.node .nil (some 0) .nil) (some 5) .nil) (some 7) (.node .nil (some 5) .nil))) (some 4093) (.node (.node (.node (.node .nil (some 0) .nil) none .nil) (some 23) (.node .nil (some 775) .nil)) (some 455) (.node (.node .nil (some 1971) .nil) (some 115) (.node .nil (some 775) .nil))))) none (.node (.node (.node (.node (.node (.node .nil (some 271) .nil) (some 458877) .nil) (some 23) (.node .nil (some 183) .nil)) (some 253) (.node (.node (.node .nil (some 0) .nil) (some 19) .nil) (some 511) (.node .nil (some 2096159) .nil))) (some 61) (.node (.node (.node (.node .nil (some 0) .nil) (some 7351) .nil) (some 13) (.node .nil (some 7943) .nil)) (some 13) (.node (.node .nil (some 435) .nil) (some 115) (.node .nil (some 7943) .nil)))) (some 131031) (.node (.node (.node (.node (.node .nil (some 0) .nil) (some 2013) .nil) (some 59) (.node .nil (some 39) .nil)) (some 27) (.node (.node .nil (some 5) .nil) (some 51) (.node .nil (some 271) .nil))) (some 27) (.node (.node (.node (.node .nil (some 0) .nil) (some 71) .nil) none (.node .nil (some 7199) .nil)) (some 61) (.node (.node .nil (some 11) .nil) (some 5) (.node .nil (some 7199) .nil)))))) none (.node (.node (.node (.node (.node (.node (.node .nil (some 3103) .nil) (some 79) .nil) (some 415) (.node .nil (some 16607) .nil)) (some 51) (.node (.node (.node .nil (some 0) .nil) (some 5) .nil) (some 71) (.node .nil (some 5) .nil))) (some 61) (.node (.node (.node (.node .nil (some 0) .nil) (some 7) .nil) (some 125) (.node .nil (some 7951) .nil)) (some 51) (.node (.node .nil (some 1567) .nil) (some 493) (.node .nil (some 7951) .nil)))) (some 131069) (.node (.node (.node (.node (.node .nil (some 0) .nil) (some 28895) .nil) (some 253) (.node .nil (some 19) .nil)) (some 61) (.node (.node .nil (some 5) .nil) none (.node .nil (some 5) .nil))) (some 5) (.node (.node (.node (.node .nil (some 0) .nil) (some 435) .nil) (some 17) (.node .nil (some 7951) .nil)) (some 71) (.node (.node .nil (some 25166847) .nil) (some 19) (.node .nil (some 7951) .nil))))) none (.node (.node (.node (.node (.node (.node .nil (some 4159) .nil) none .nil) (some 117900287) (.node .nil (some 2096159) .nil)) (some 125) (.node (.node (.node .nil (some 0) .nil) (some 43) .nil) (some 946866127) (.node .nil (some 3103) .nil))) none (.node (.node (.node (.node .nil (some 0) .nil) (some 7) .nil) (some 115) (.node .nil (some 36028797018996495) .nil)) (some 123) (.node (.node .nil (some 23) .nil) (some 5) (.node .nil (some 36028797018996495) .nil)))) (some 33554429) (.node (.node (.node (.node (.node .nil (some 0) .nil) (some 29) .nil) (some 511) (.node .nil (some 23) .nil)) (some 455) (.node (.node .nil (some 5) .nil) (some 7) (.node .nil (some 4159) .nil))) (some 123) (.node (.node (.node (.node .nil (some 0) .nil) (some 5) .nil) none (.node .nil (some 15391) .nil)) (some 253) (.node (.node .nil (some 7) .nil) (some 29) (.node .nil (some 15391) .nil)))))))
noncomputable abbrev CC (r : Mem) : Cfg := Cfg.ofRo Tryz.prog r
theorem CC_ok (r : Mem) : (CC r).Ok := Cfg.ofRo_ok evMixed evNames r
noncomputable def tSF : Tbl := tcons 53 eSF fun _ => none
theorem tSF_ok (r : Mem) : TOk (CC r) tSF := (show TOk (SC r) tSF from TOk.nil.cons (eSF_ok r))
end Go.Proofs
namespace Go.Proofs
open Go Go.Ev
theorem awake10 : GrT Tryz.prog tabM 15 [] (.bool true) := GrT.of (CC_ok tabM) (tSF_ok tabM) mskH rfl ⟨1000, 40, by kernel_rfl⟩
end Go.Proofs
namespace Go.Proofs
open Go Go.Ev Go.Num
theorem jlCnn (r : Mem) (bx ox bp op m : Nat) (fs : FnsC) (K : OV → List Nat → OO → CR) : tailK (SC r) mJl 162 Jl_1 1 fs (rbK 0 [2, 4, 7] [] K) (RS bp op m 0) [(17, nilT)] (bT [0, 2, 4] [some (nilT), some (nilT), some (pX bx ox)] .nil) [] (mkA []) =
    K [some (.slice none 0 0), some (.pointer (some ⟨bx, ox, some 0⟩)), some (.slice (some ⟨bp, op, some 0⟩) m 0)] [] [] := by kernel_rfl
theorem jlCnr (r : Mem) (b2 o2 n2 c2 : Nat) (bx ox bp op m : Nat) (fs : FnsC) (K : OV → List Nat → OO → CR) : tailK (SC r) mJl 162 Jl_1 1 fs (rbK 0 [2, 4, 7] [] K) (RS bp op m 0) [(17, nilT)] (bT [0, 2, 4] [some (nilT), some (RS b2 o2 n2 c2), some (pX bx ox)] .nil) [] (mkA []) =
    K [some (.slice (some ⟨b2, o2, some 0⟩) n2 c2), some (.pointer (some ⟨bx, ox, some 0⟩)), some (.slice (some ⟨bp, op, some 0⟩) m 0)] [] [] := by kernel_rfl
theorem jlCrn (r : Mem) (b off n cap : Nat) (bx ox bp op m : Nat) (fs : FnsC) (K : OV → List Nat → OO → CR) : tailK (SC r) mJl 162 Jl_1 1 fs (rbK 0 [2, 4, 7] [] K) (RS bp op m 0) [(17, RS b off n cap)] (bT [0, 2, 4] [some (RS b off n cap), some (nilT), some (pX bx ox)] .nil) [] (mkA []) =
    K [some (.slice none 0 0), some (.pointer (some ⟨bx, ox, some 0⟩)), some (.slice (some ⟨bp, op, some 0⟩) m 0)] [] [] := by kernel_rfl
theorem jlCrr (r : Mem) (b off n cap : Nat) (b2 o2 n2 c2 : Nat) (bx ox bp op m : Nat) (fs : FnsC) (K : OV → List Nat → OO → CR) : tailK (SC r) mJl 162 Jl_1 1 fs (rbK 0 [2, 4, 7] [] K) (RS bp op m 0) [(17, RS b off n cap)] (bT [0, 2, 4] [some (RS b off n cap), some (RS b2 o2 n2 c2), some (pX bx ox)] .nil) [] (mkA []) =
    K [some (.slice (some ⟨b2, o2, some 0⟩) n2 c2), some (.pointer (some ⟨bx, ox, some 0⟩)), some (.slice (some ⟨bp, op, some 0⟩) m 0)] [] [] := by kernel_rfl
theorem ArgRow.moreJ {r r' : Mem} (hle : ∀ b j u, r b j = some u → r' b j = some u) {u : Value} (h : ArgRow r 1 ArgBool u) : ArgRow r' 1 ArgBool u := by
 cases h with
 | nil => exact .nil
 | empty => exact .empty
 | row b off len cap hl hc h =>
  refine .row b off len cap hl hc fun i hi => ?_
  obtain ⟨u, h1, h2⟩ := h i hi
  exact ⟨u, hle _ _ _ h1, h2⟩
def TameOk (r : Mem) (L : Value) : Prop := ∀ r', (∀ b j u, r b j = some u → r' b j = some u) → SOkG Tryz.prog r' 7 [L] emptyA fun v A r1 => Mem.le r' r1 ∧ A = mkA [] ∧ OrdM r1 v
theorem min20 (k : Nat) : (bif decide ((20 : Int) < Int.ofNat k) then Int.ofNat 20 else Int.ofNat k) = Int.ofNat (min k 20) := by
 by_cases c : 20 < k
 ·rw [dT (show (20 : Int) < Int.ofNat k by simp; omega), cond_true, Nat.min_eq_right (by omega)]
 ·rw [dF (show ¬ (20 : Int) < Int.ofNat k by simp; omega), cond_false, Nat.min_eq_left (by omega)]
section
variable {r : Mem} {x : Nat → Int}
theorem ixN_get {z : Nat → Int} {k j : Nat} (h : j < k) : (ixN z k)[j]? = some (I (z j)) := by
 unfold ixN
 rw [List.getElem?_map, List.getElem?_range h]
 rfl
theorem ix_nnJ (z : Nat → Int) (k : Nat) : m_nns (ixN z k) = true := by
 unfold ixN
 induction k with
 | zero => rfl
 | succ k ih =>
  rw [List.range_succ, List.map_append, nns_app, ih]
  rfl
theorem segL {r : Mem} {F : Fence} {kk : Nat} {γ : Gam} {W : World} {c : Code} {fl : List Fl} {V : OV} {OS : OO} {s : List (Nat × Value)} {b : Tr Value} {ms : List Nat} {A : AW} {ox : Nat → OutsG} {orr : OutsG} (hF : Wide F) (hro : RoRel γ none F.round) (h0' : ∀ i, 0 ≤ i → γ i = none) (h : run (SC r) mJl 162 1 c (lvlT (SC r) (fun _ => none) .nil 2 3) none (Outs.ask 0 ⟨[4, 7, 8], fl, fun vs ms os => vs = V ∧ ms = [] ∧ os = OS⟩) (Outs.ats 0 []) (Outs.ask 0 Outs.no) s b ms A = okR) :
  ReachG Tryz.prog mJl 162 F kk γ W c r ⟨⟨s, b⟩, ms, A⟩ (CanG Tryz.prog mJl 162 γ W ⟨[4, 7, 8], fun r1 vs ms os => r1 = r ∧ vs = V ∧ ms = [] ∧ os = OS⟩ ox orr) :=
 ReachG.segR (SC_ok r) TOk.nil (tm := .nil) (L := 1) (L' := 2) (d := 3) (n0 := 0) hF hro h0' [] (on := ⟨[4, 7, 8], fl, fun vs ms os => vs = V ∧ ms = [] ∧ os = OS⟩) (ox := fun _ => Outs.no) (orr := Outs.no) (fun p hp => nomatch hp) h (fun vs ms os h => IsG.here ⟨rfl, h⟩) (fun _ _ _ _ h => h.elim) (fun _ _ _ h => h.elim)
theorem jl_g {L O : Value} (hA : ∀ (fs : FnsC) (K : OV → List Nat → OO → CR) (kx : Nat → KS) (kr : KS), run (SC r) mJl 162 1 Jl_0 fs none (rbK 0 [0, 2, 4] [] K) kx kr (sc0 mJl [L, x4 x, O]) (tr0 mJl [L, x4 x, O]) [] emptyA = K [some L, some O, some (pq 0)] [] [oJx [I (x 0), I (x 1), I (x 2), I (x 3)] 0])
  (hB : ∀ (r : Mem) (bx ox : Nat) (fs : FnsC) (K : KS), preK (SC r) mJl 162 Jl_1 1 fs K [] (bT [0, 2, 4] [some L, some O, some (pX bx ox)] .nil) [] (mkA []) = K [(17, L)] (bT [0, 2, 4] [some L, some O, some (pX bx ox)] .nil) [] (mkA []))
  (hY : ∀ (r : Mem) (bx ox : Nat), callAtG (SC r) mJl Jl_1 1 ⟨[(17, L)], bT [0, 2, 4] [some L, some O, some (pX bx ox)] .nil⟩ (mkA []) = some (7, [L], emptyA))
  (hC : ∀ (r : Mem) (bx ox bp op m : Nat) (fs : FnsC) (K : OV → List Nat → OO → CR), tailK (SC r) mJl 162 Jl_1 1 fs (rbK 0 [2, 4, 7] [] K) (RS bp op m 0) [(17, L)] (bT [0, 2, 4] [some L, some O, some (pX bx ox)] .nil) [] (mkA []) = K [some O, some (pX bx ox), some (RS bp op m 0)] [] [])
  (hL : ∀ b o, frzV 0 b o L = some L) (hO : ∀ b o, frzV 0 b o O = some O) (hle3 : Nat.ble [L, x4 x, O].length 162 = true)
  (hm : ∀ b j u, tabM b j = some u → r b j = some u) (htm : TameOk r L)
  (hD : ∀ (γ : Gam) (W : World) (F : Fence) (kk : Nat) (r2 : Mem) (bx ox bp op : Nat) (T : List (List Bool)), Wide F → RoRel γ none F.round → (∀ i, 0 ≤ i → γ i = none) → JI γ W r2 bx ox bp op T → ckO T = true → Mem.le r r2 → ReachG Tryz.prog mJl 162 F kk γ W (.seq Jl_2 (.seq (.seq Jl_3 (.block 0 (.loop (.seq Jl_4 (.seq (.block 1 cRd) Jl_26))))) Jl_27)) r2 (St.of [2, 4, 7] [some O, some (pX bx ox), some (RS bp op T.length 0)] [] []) (CanG Tryz.prog mJl 162 γ W ⟨[6], fun r1 vs ms os => vs = [some (.bool true)] ∧ ms = [] ∧ os = []⟩ (fun _ => OutsG.no) ⟨[6], fun r1 vs ms os => vs = [some (.bool true)] ∧ ms = [] ∧ os = []⟩)) : GrT Tryz.prog r 5 [L, x4 x, O] (.bool true) := by
 refine SOkG.grT rfl rfl (S := fun _ _ _ => True) (callOG SC_ok (by kernel_rfl) ((bodySC r _).trans Jl_cRd) (nt := 162) (by kernel_rfl) (rs := [.tmp 6]) (by kernel_rfl) mJl hle3 ⟨[6], fun r1 vs ms os => vs = [some (.bool true)] ∧ ms = [] ∧ os = []⟩ ?_ fun γ W F kk hwr hF hro h0' => ?_)
 ·rintro r1 vs ms os ⟨rfl, rfl, rfl⟩
  exact ⟨_, mkA [], by kernel_rfl, rfl⟩
 have h0' : ∀ i, 0 ≤ i → γ i = none := h0'
 refine ReachG.seqC (o1 := ⟨[0, 2, 4], fun r1 vs ms os => ∃ bx ox, Mem.le r r1 ∧ (∀ k, tabM bx k = none) ∧ r1.own bx = true ∧ (bx < W.heap.size → ∃ i g, γ i = some g ∧ g.blk = bx) ∧ (∀ i, i < 4 → r1 bx (ox + i) = some (I (x i))) ∧ vs = [some L, some O, some (pX bx ox)] ∧ ms = [] ∧ os = []⟩) (ReachG.segR (SC_ok r) TOk.nil (tm := .nil) (L := 1) (L' := 1) (d := 1) (n0 := 0) hF hro h0' [] (on := ⟨[0, 2, 4], [], fun vs ms os => vs = [some L, some O, some (pq 0)] ∧ ms = [] ∧ os = [oJx [I (x 0), I (x 1), I (x 2), I (x 3)] 0]⟩) (ox := fun _ => Outs.no) (orr := Outs.no) (fun p hp => nomatch hp) ((hA _ _ _ _).trans (qq_ok ⟨rfl, rfl, rfl⟩)) ?_ (fun _ _ _ _ h => h.elim) (fun _ _ _ h => h.elim)) fun r1 vs ms os hq => ?_
 ·rintro vs ms os ⟨rfl, rfl, rfl⟩
  refine IsG.freezeO (os0 := []) (j := 0) h0' rfl (Nat.zero_le _) rfl rfl fun b' o' r2 hle hFz hrow => ?_
  have hp : frzV 0 b' o' (pq 0) = some (pX b' o') := rfl
  refine ⟨[some L, some O, some (pX b' o')], [], by simp only [frzO, hL, hO, hp], rfl, b', o', hle, fun k => ?_, hFz.own, hFz.may, fun i hi => ?_, rfl, rfl, rfl⟩
  ·cases q : tabM b' k with
   | none => rfl
   | some u => have := hm _ _ _ q; rw [hFz.fresh] at this; cases this
  ·match i, hi with
   | 0, _ => exact hrow 0 _ rfl
   | 1, _ => exact hrow 1 _ rfl
   | 2, _ => exact hrow 2 _ rfl
   | 3, _ => exact hrow 3 _ rfl
 obtain ⟨bx, ox, hle1, htn, hown, hmay, hx, rfl, rfl, rfl⟩ := hq
 refine ReachG.seqC (o1 := ⟨[2, 4, 7], fun r2 vs ms os => ∃ bp op T, JI γ W r2 bx ox bp op T ∧ ckO T = true ∧ Mem.le r r2 ∧ vs = [some O, some (pX bx ox), some (RS bp op T.length 0)] ∧ ms = [] ∧ os = []⟩) (ReachG.callC (fl := []) SC_ok hF h0' TOk.nil (tm := .nil) (L := 1) (d := 1) 1 (s1 := [(17, L)]) (b1 := bT [0, 2, 4] [some L, some O, some (pX bx ox)] .nil) (ms1 := []) (A1 := mkA []) (A2 := emptyA) (i := 7) (args := [L]) ((hB r1 bx ox _ _).trans (qn_ok rfl)) (hY r1 bx ox) (htm r1 hle1.sub) ?_) fun r2 vs ms os hq => ?_
 ·rintro v A' r2 ⟨hle, rfl, bp, op, T, rfl, hT1, hT14, hTM, hck⟩
  exact ⟨fun _ => none, TOk.nil, .nil, 1, 1, (hC r2 bx ox bp op T.length _ _).trans (qq_ok ⟨bp, op, T, ⟨fun b j u e => hle.sub _ _ _ (hle1.sub _ _ _ (hm b j u e)), htn, hle.own _ hown, hmay, ⟨x, fun i hi => hle.sub _ _ _ (hx i hi)⟩, hTM⟩, hck, Mem.le_trans hle1 hle, rfl, rfl, rfl⟩)⟩
 obtain ⟨bp, op, T, hJ, hck, hle2, rfl, rfl, rfl⟩ := hq
 exact hD γ W F kk r2 bx ox bp op T hF hro h0' hJ hck hle2
theorem jo_n {γ : Gam} {W : World} {F : Fence} {kk : Nat} {r2 : Mem} {bx ox bp op : Nat} {T : List (List Bool)} (haw : ∀ r : Mem, (∀ b j u, tabM b j = some u → r b j = some u) → GrT Tryz.prog r 15 [] (.bool true)) (hF : Wide F) (hro : RoRel γ none F.round) (h0' : ∀ i, 0 ≤ i → γ i = none) (hJ : JI γ W r2 bx ox bp op T) (hck : ckO T = true) (hle2 : Mem.le r r2) {on : OutsG} {ox2 : Nat → OutsG} : ReachG Tryz.prog mJl 162 F kk γ W (.seq Jl_2 (.seq (.seq Jl_3 (.block 0 (.loop (.seq Jl_4 (.seq (.block 1 cRd) Jl_26))))) Jl_27)) r2 (St.of [2, 4, 7] [some (nilT), some (pX bx ox), some (RS bp op T.length 0)] [] []) (CanG Tryz.prog mJl 162 γ W on ox2 ⟨[6], fun r1 vs ms os => vs = [some (.bool true)] ∧ ms = [] ∧ os = []⟩) := by
 refine ReachG.seqC (segL (V := [some (pX bx ox), some (RS bp op T.length 0), some nilT]) (OS := []) (fl := []) hF hro h0' ((jlDn r2 bx ox bp op T.length _ _ _).trans (qq_ok ⟨rfl, rfl, rfl⟩))) fun r3 vs ms os hq => ?_
 obtain ⟨rfl, rfl, rfl, rfl⟩ := hq
 exact rd_all (.inl ⟨rfl, rfl⟩) rfl hck hJ haw hF hro h0'
theorem jo_r {b2 o2 n2 c2 : Nat} {z : Nat → Int} {γ : Gam} {W : World} {F : Fence} {kk : Nat} {r2 : Mem} {bx ox bp op : Nat} {T : List (List Bool)} (haw : ∀ r : Mem, (∀ b j u, tabM b j = some u → r b j = some u) → GrT Tryz.prog r 15 [] (.bool true)) (hl2 : n2 ≤ c2) (hc2 : c2 ≤ maxLen) (ho : ∀ i, i < n2 → r b2 (o2 + i) = some (I (z i))) (hF : Wide F) (hro : RoRel γ none F.round) (h0' : ∀ i, 0 ≤ i → γ i = none) (hJ : JI γ W r2 bx ox bp op T) (hck : ckO T = true) (hle2 : Mem.le r r2) {on : OutsG} {ox2 : Nat → OutsG} : ReachG Tryz.prog mJl 162 F kk γ W (.seq Jl_2 (.seq (.seq Jl_3 (.block 0 (.loop (.seq Jl_4 (.seq (.block 1 cRd) Jl_26))))) Jl_27)) r2 (St.of [2, 4, 7] [some (RS b2 o2 n2 c2), some (pX bx ox), some (RS bp op T.length 0)] [] []) (CanG Tryz.prog mJl 162 γ W on ox2 ⟨[6], fun r1 vs ms os => vs = [some (.bool true)] ∧ ms = [] ∧ os = []⟩) := by
 obtain ⟨k, hk⟩ : ∃ k, k = min n2 20 := ⟨_, rfl⟩
 have hnat : ∀ x : Nat, Int.toNat (Int.ofNat x) = x := fun _ => rfl
 have hn' := jlDr r2 b2 o2 n2 c2 bx ox bp op T.length
 have g0 : ∀ m : Nat, decide ((0 : Int) ≤ Int.ofNat m) = true := fun m => dT (by simp)
 have cb : Nat.beq c2 9223372036854775809 = false := natFx (by have h : maxLen = 9223372036854775807 := rfl; omega)
 by_cases k0 : k = 0
 ·simp only [min20, ← hk, hnat, g0, cb, Nat.ble_eq_true_of_le (show k ≤ c2 by omega), k0, show Nat.beq 0 0 = true from rfl, show Nat.ble 0 c2 = true from Nat.ble_eq_true_of_le (Nat.zero_le _), cond_true, cond_false] at hn'
  refine ReachG.seqC (segL (V := [some (pX bx ox), some (RS bp op T.length 0), some nilT]) (OS := []) (fl := []) hF hro h0' ((hn' _ _ _).trans (qq_ok ⟨rfl, rfl, rfl⟩))) fun r3 vs ms os hq => ?_
  obtain ⟨rfl, rfl, rfl, rfl⟩ := hq
  exact rd_all (.inl ⟨rfl, rfl⟩) rfl hck hJ haw hF hro h0'
 ·have hlist : takeF (r2 b2) o2 k = some (ixN z k) := by
   refine takeF_all (r2 b2) k o2 (ixN z k) (ix_len z k) fun j hj => ?_
   rw [hle2.sub _ _ _ (ho j (by omega)), ixN_get hj]
  have kb : Nat.beq k 0 = false := natFx k0
  have t1 : TypeInfo.size Tryz.t3 = 1 := by kernel_rfl
  have hr' : (match Nat.beq (Nat.sub c2 0) unkE with | true => none | false => takeF (Mem.get (Cfg.ro (SC r2)) b2) (Nat.add o2 (Nat.mul 0 (TypeInfo.size Tryz.t3))) (Nat.mul (Nat.sub k 0) (TypeInfo.size Tryz.t3))) = some (ixN z k) := by
   rw [natFx (show Nat.sub c2 0 ≠ unkE by unfold unkE; simp; have h : maxLen = 9223372036854775807 := rfl; omega), t1]
   show takeF (r2 b2) o2 (Nat.mul k 1) = _
   rw [Nat.mul_eq, Nat.mul_one]
   exact hlist
  have min20' : (bif decide ((20 : Int) < Int.ofNat n2) then (20 : Int) else Int.ofNat n2) = Int.ofNat (min n2 20) := min20 n2
  have l1 : Nat.beq (ixN z k).length (Nat.mul (Nat.sub k 0) 1) = true := by
   rw [ix_len, show Nat.mul (Nat.sub k 0) 1 = k by show k * 1 = _; omega]
   exact Nat.beq_refl _
  have hnn : m_nns (ixN z k) = true := ix_nnJ z k
  simp only [min20, min20', ← hk, hnat, g0, cb, Nat.ble_eq_true_of_le (show k ≤ c2 by omega), kb, show Nat.ble (Nat.add 0 (Nat.sub k 0)) 1000000 = true from Nat.ble_eq_true_of_le (by simp; omega), cond_true, cond_false] at hn'
  have oc : ∀ {o : Option (List Value)} {c : List Value} (h : o = some c) (a : CR) (F : List Value → CR), (Option.casesOn o a F : CR) = F c := fun h a F => by rw [h]
  have hK : ∀ (K : OV → List Nat → OO → CR) (kx : Nat → KS) (kr : KS), run (SC r2) mJl 162 1 Jl_2 (lvlT (SC r2) (fun _ => none) .nil 2 3) none (rbK 0 [4, 7, 8] [] K) kx kr [] (bT [2, 4, 7] [some (RS b2 o2 n2 c2), some (pX bx ox), some (RS bp op T.length 0)] .nil) [] (mkA []) = K [some (pX bx ox), some (RS bp op T.length 0), some (gwJ 0 k)] [] [oJi (ixN z k) 0] := fun K kx kr => by
   refine (hn' K kx kr).trans ((oc hr' _ _).trans ?_)
   simp only [l1, show Nat.beq (Nat.sub k 0) 0 = false from natFx (by show k ≠ 0; exact k0), hnn, Bool.and_true, cond_true, cond_false]
   rfl
  refine ReachG.seqC (segL (V := [some (pX bx ox), some (RS bp op T.length 0), some (gwJ 0 k)]) (OS := [oJi (ixN z k) 0]) (fl := []) hF hro h0' ((hK _ _ _).trans (qq_ok ⟨rfl, rfl, rfl⟩))) fun r3 vs ms os hq => ?_
  obtain ⟨rfl, rfl, rfl, rfl⟩ := hq
  exact rd_all (.inr ⟨k, ixN z k, z, ⟨hnn, by omega, by rw [ix_len]; omega, fun j hj => ixN_get hj⟩, rfl, rfl⟩) rfl hck hJ haw hF hro h0'
theorem jl_nn (hm : ∀ b j u, tabM b j = some u → r b j = some u) (haw : ∀ r : Mem, (∀ b j u, tabM b j = some u → r b j = some u) → GrT Tryz.prog r 15 [] (.bool true)) (htm : TameOk r (nilT)) : GrT Tryz.prog r 5 [nilT, x4 x, nilT] (.bool true) :=
 jl_g (jlAnn r   x) (fun r bx ox => jlBnn r   bx ox) (fun r bx ox => by kernel_rfl) (fun r => jlCnn r  ) (fun _ _ => rfl) (fun _ _ => rfl) rfl hm htm fun γ W F kk r2 bx ox bp op T hF hro h0 hJ hck hle2 => jo_n haw hF hro h0 hJ hck hle2
theorem jl_nr {b2 o2 n2 c2 : Nat} (hm : ∀ b j u, tabM b j = some u → r b j = some u) (haw : ∀ r : Mem, (∀ b j u, tabM b j = some u → r b j = some u) → GrT Tryz.prog r 15 [] (.bool true)) (htm : TameOk r (nilT)) {z : Nat → Int} (hl2 : n2 ≤ c2) (hc2 : c2 ≤ maxLen) (ho : ∀ i, i < n2 → r b2 (o2 + i) = some (I (z i))) : GrT Tryz.prog r 5 [nilT, x4 x, RS b2 o2 n2 c2] (.bool true) :=
 jl_g (jlAnr r  b2 o2 n2 c2 x) (fun r bx ox => jlBnr r  b2 o2 n2 c2 bx ox) (fun r bx ox => by kernel_rfl) (fun r => jlCnr r  b2 o2 n2 c2) (fun _ _ => rfl) (fun _ _ => rfl) rfl hm htm fun γ W F kk r2 bx ox bp op T hF hro h0 hJ hck hle2 => jo_r haw hl2 hc2 ho hF hro h0 hJ hck hle2
theorem jl_rn {b off n cap : Nat} (hm : ∀ b j u, tabM b j = some u → r b j = some u) (haw : ∀ r : Mem, (∀ b j u, tabM b j = some u → r b j = some u) → GrT Tryz.prog r 15 [] (.bool true)) (htm : TameOk r (RS b off n cap)) : GrT Tryz.prog r 5 [RS b off n cap, x4 x, nilT] (.bool true) :=
 jl_g (jlArn r b off n cap  x) (fun r bx ox => jlBrn r b off n cap  bx ox) (fun r bx ox => by kernel_rfl) (fun r => jlCrn r b off n cap ) (fun _ _ => rfl) (fun _ _ => rfl) rfl hm htm fun γ W F kk r2 bx ox bp op T hF hro h0 hJ hck hle2 => jo_n haw hF hro h0 hJ hck hle2
theorem jl_rr {b off n cap b2 o2 n2 c2 : Nat} (hm : ∀ b j u, tabM b j = some u → r b j = some u) (haw : ∀ r : Mem, (∀ b j u, tabM b j = some u → r b j = some u) → GrT Tryz.prog r 15 [] (.bool true)) (htm : TameOk r (RS b off n cap)) {z : Nat → Int} (hl2 : n2 ≤ c2) (hc2 : c2 ≤ maxLen) (ho : ∀ i, i < n2 → r b2 (o2 + i) = some (I (z i))) : GrT Tryz.prog r 5 [RS b off n cap, x4 x, RS b2 o2 n2 c2] (.bool true) :=
 jl_g (jlArr r b off n cap b2 o2 n2 c2 x) (fun r bx ox => jlBrr r b off n cap b2 o2 n2 c2 bx ox) (fun r bx ox => by kernel_rfl) (fun r => jlCrr r b off n cap b2 o2 n2 c2) (fun _ _ => rfl) (fun _ _ => rfl) rfl hm htm fun γ W F kk r2 bx ox bp op T hF hro h0 hJ hck hle2 => jo_r haw hl2 hc2 ho hF hro h0 hJ hck hle2
end
end Go.Proofs
namespace Go.Proofs
open Go Go.Ev Go.Num
theorem tame_n {r : Mem} : TameOk r nilT := fun r' _ => zt_nil
theorem tame_r {r : Mem} {b off n cap : Nat} (hl : n ≤ cap) (h : ∀ i, i < cap * 1 → ∃ u, r b (off + i) = some u ∧ ArgRow r 1 ArgBool u) : TameOk r (RS b off n cap) := fun r' hle => by
 by_cases n0 : n = 0
 ·subst n0
  exact zt_emp
 ·refine zt_ok (by omega) fun i hi => ?_
  obtain ⟨u, h1, h2⟩ := h i (by omega)
  exact ⟨u, hle _ _ _ h1, ArgRow.moreJ hle h2⟩
theorem arr4 {u : Value} (h : ArgArr 4 (ArgInt .i64) u) : ∃ x : Nat → Int, u = x4 x := by
 obtain ⟨l, rfl, hl, h⟩ := h
 match l, hl, h with
 | [a, b, c, d], _, h =>
  obtain ⟨a, rfl, _⟩ := h a (by simp)
  obtain ⟨b, rfl, _⟩ := h b (by simp)
  obtain ⟨c, rfl, _⟩ := h c (by simp)
  obtain ⟨d, rfl, _⟩ := h d (by simp)
  exact ⟨fun i => match i with | 0 => a | 1 => b | 2 => c | _ => d, rfl⟩
theorem ints_z {r : Mem} {b2 o2 n2 c2 : Nat} (hl : n2 ≤ c2) (h : ∀ i, i < c2 * 1 → ∃ u, r b2 (o2 + i) = some u ∧ ArgInt .i64 u) : ∃ z : Nat → Int, ∀ i, i < n2 → r b2 (o2 + i) = some (I (z i)) := by
 have e : ∀ i, ∃ v : Int, i < n2 → r b2 (o2 + i) = some (I v) := fun i => by
  by_cases c : i < n2
  ·obtain ⟨u, h1, z, rfl, _⟩ := h i (by omega)
   exact ⟨z, fun _ => h1⟩
  ·exact ⟨0, fun h => absurd h c⟩
 exact ⟨fun i => Classical.choose (e i), fun i hi => Classical.choose_spec (e i) hi⟩
theorem law_judges (r : Mem) (hm : ∀ b j u, tabM b j = some u → r b j = some u) (u0 u1 u2 : Value) (s0 : ArgRowT r 1 (ArgRow r 1 ArgBool) u0) (s1 : ArgArr 4 (ArgInt .i64) u1) (s2 : ArgRowT r 1 (ArgInt .i64) u2) : GrT Tryz.prog r 5 [u0, u1, u2] (.bool true) := by
 have haw : ∀ r : Mem, (∀ b j u, tabM b j = some u → r b j = some u) → GrT Tryz.prog r 15 [] (.bool true) := fun r h => awake10.more h
 obtain ⟨x, rfl⟩ := arr4 s1
 cases s0 with
 | nil =>
  cases s2 with
  | nil => exact jl_nn hm haw tame_n
  | row b2 o2 n2 c2 hl2 hc2 h2 =>
   obtain ⟨z, hz⟩ := ints_z hl2 h2
   exact jl_nr hm haw tame_n hl2 hc2 hz
 | row b off n cap hl hc h =>
  cases s2 with
  | nil => exact jl_rn hm haw (tame_r hl h)
  | row b2 o2 n2 c2 hl2 hc2 h2 =>
   obtain ⟨z, hz⟩ := ints_z hl2 h2
   exact jl_rr hm haw (tame_r hl h) hl2 hc2 hz
end Go.Proofs
