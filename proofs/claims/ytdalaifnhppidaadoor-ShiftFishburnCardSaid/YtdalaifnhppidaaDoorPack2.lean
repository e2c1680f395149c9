/- What the claim is proved with, part 2: the evaluator and the contracts of the calls. -/
import Derived.Test.YtdalaifnhppidaaDoorPack1
import Derived.Test.YtdalaifnhppidaaDoorEvOwn
import Derived.Shelf.SlSortCmp.Whole1
import Derived.Test.YtdalaifnhppidaaDoorSymBase
import Derived.Shelf.Lay
import Derived.Test.YtdalaifnhppidaaDoorEvRd
import Derived.Test.YtdalaifnhppidaaDoorEvGp
set_option linter.unusedVariables false
set_option linter.unusedSimpArgs false
set_option maxRecDepth 100000
namespace Go.Proofs
open Go Go.Ev
def AR (e z clock : Nat) (es : List MapEntry) (l : List Value) : AW := ⟨4, .node (.node (.node .nil none .nil) (some (.map es clock)) .nil) (some (.cells [.map (some 1)] e 0 z)) (.node .nil (some (.cells l 53 2 1)) .nil), .nil⟩
noncomputable def AR3 (e z clock : Nat) (es : List MapEntry) (l : List Value) : AW := ⟨4, .node (.node (.node .nil (some .defd) .nil) (some (.map es clock)) .nil) (some (.cells [.map (some 1)] e 0 z)) (.node .nil (some (.cells l 53 2 1)) .nil), .nil⟩
noncomputable def AKh (e z clock : Nat) (es : List MapEntry) (n : Nat) (sv : Value) (s5 : Tr AObj) : AW :=
 ⟨n, .node (.node (.node .nil (some .defd) .nil) (some (.map es clock)) s5) (some (.cells [.map (some 1)] e 0 z)) (.node (.node .nil (some (.loop .exhausted none 183 ⟨[(6, seqV)], TQ⟩ 13 ⟨[7]⟩ k_aqA k_aqB 3)) .nil) (some (.cells [sv] 72 2 0)) .nil), .nil⟩
def TQ4 (sv : Value) : Tr Value := .node .nil none (.node (.node .nil (some sv) .nil) none .nil)
def TC0 (v : Value) : Tr Value := .node .nil (some seqV) (.node .nil (some v) .nil)
theorem kcA (r : Mem) (L : Nat) (fs : FnsC) (e z clock : Nat) (es : List MapEntry) (kn : KS) (kx : Nat → KS) (kr : KS) (ms : List Nat) : run (SC r) 183 13 L (lc cAq) fs none kn kx kr (sc0 183 [.slice none 0 0, seqV]) (tr0 183 [.slice none 0 0, seqV]) ms (AK0 e z clock es) =
    kn [] (.node (.node .nil (some (.func (Fn.func 68) ⟨[]⟩ ⟨[.pointer (some ⟨0, 0, none⟩)]⟩)) .nil) (some (.slice none 0 0)) (.node (.node .nil (some (.slice none 0 0)) .nil) (some (.pointer (some ⟨2, 0, none⟩))) .nil)) ms (AW.mk 3 (.node (.node .nil (some (AObj.map es clock)) .nil) (some (.cells [Value.map (some 1)] e 0 z)) (.node .nil (some (.cells [.slice none 0 0] 72 2 0)) .nil)) .nil) := by kernel_rfl
theorem kcB (r : Mem) (L : Nat) (fs : FnsC) (s : List (Nat × Value)) (kn : KS) (kx : Nat → KS) (kr : KS) (ms : List Nat) (A : AW) : run (SC r) 183 13 L (lc (lc (rc cAq))) fs none kn kx kr s TQ ms A =
    kn [(6, .func (Fn.func 68) ⟨[]⟩ ⟨[.pointer (some ⟨0, 0, none⟩)]⟩)] (.node (.node .nil (some (.func (Fn.func 68) ⟨[]⟩ ⟨[.pointer (some ⟨0, 0, none⟩)]⟩)) .nil) (some (.slice none 0 0)) (.node (.node .nil (some (.slice none 0 0)) .nil) (some (.pointer (some ⟨2, 0, none⟩))) .nil)) ms A := by kernel_rfl
theorem kcC (r : Mem) (L : Nat) (fs : FnsC) (e z clock : Nat) (es : List MapEntry) (n : Nat) (l : List Value) (kn : KS) (kx : Nat → KS) (kr : KS) : run (SC r) 183 13 L (rc (rc cAq)) fs none kn kx kr [(6, seqV)] TQ [3] (AKh e z clock es 6 (.slice (some ⟨5, 0, none⟩) n unk) (rwT 5 l)) =
    kr [(12, .slice (some ⟨5, 0, none⟩) n unk)] (.node (.node .nil (some (.func (Fn.func 68) ⟨[]⟩ ⟨[.pointer (some ⟨0, 0, none⟩)]⟩)) .nil) (some (.slice none 0 0)) (.node (.node .nil (some (.slice (some ⟨5, 0, none⟩) n unk)) .nil) (some (.pointer (some ⟨2, 0, none⟩))) .nil)) [3] (AW.mk 6 (.node (.node (.node .nil (some .defd) .nil) (some (AObj.map es clock)) (.node .nil (some (.cells l 53 5 1)) .nil)) (some (.cells [Value.map (some 1)] e 0 z)) (.node (.node .nil (some (AObj.loop LoopState.exhausted none 183 (En.mk [(6, .func (Fn.func 68) ⟨[]⟩ ⟨[.pointer (some ⟨0, 0, none⟩)]⟩)] (.node (.node .nil (some (.func (Fn.func 68) ⟨[]⟩ ⟨[.pointer (some ⟨0, 0, none⟩)]⟩)) .nil) (some (.slice none 0 0)) (.node (.node .nil (some (.slice none 0 0)) .nil) (some (.pointer (some ⟨2, 0, none⟩))) .nil))) 13 ⟨[7]⟩ k_aqA k_aqB 3)) .nil) (some (.cells [.slice (some ⟨5, 0, none⟩) n unk] 72 2 0)) .nil)) .nil) := by kernel_rfl
theorem kcF (r : Mem) (e z clock : Nat) (es : List MapEntry) (n : Nat) (l : List Value) (k : KV) : finK (SC r) 183 (resOf (SC r) 77) k [] (TQ4 (.slice (some ⟨2, 0, none⟩) n unk)) [3] (AR3 e z clock es l) =
    k (.slice (some ⟨2, 0, none⟩) n unk) (AW.mk 4 (.node (.node (.node .nil none .nil) (some (AObj.map es clock)) .nil) (some (.cells [Value.map (some 1)] e 0 z)) (.node .nil (some (.cells l 53 2 1)) .nil)) .nil) := by kernel_rfl
theorem kcG (r : Mem) (L : Nat) (fs : FnsC) (kn : KS) (kx : Nat → KS) (kr : KS) (ms : List Nat) (A : AW) : run (SC r) 5 5 L (lc cCo) fs none kn kx kr (sc0 5 [seqV]) (tr0 5 [seqV]) ms A =
    kn [] (.node .nil (some (.func (Fn.func 68) ⟨[]⟩ ⟨[.pointer (some ⟨0, 0, none⟩)]⟩)) (.node .nil (some (.slice none 0 0)) .nil)) ms A := by kernel_rfl
theorem kcH (r : Mem) (fs : FnsC) (kn : KS) (ms : List Nat) (A : AW) : preK (SC r) 5 5 (lc (rc cCo)) 1 fs kn [] (TC0 (.slice none 0 0)) ms A =
    kn [(3, .func (Fn.func 68) ⟨[]⟩ ⟨[.pointer (some ⟨0, 0, none⟩)]⟩)] (.node .nil (some (.func (Fn.func 68) ⟨[]⟩ ⟨[.pointer (some ⟨0, 0, none⟩)]⟩)) (.node .nil (some (.slice none 0 0)) .nil)) ms A := by kernel_rfl
theorem kcI (r : Mem) (fs : FnsC) (n : Nat) (kn : KS) (ms : List Nat) (A : AW) : tailK (SC r) 5 5 (lc (rc cCo)) 1 fs kn (.slice (some ⟨2, 0, none⟩) n unk) [(3, seqV)] (TC0 (.slice none 0 0)) ms A =
    kn [(4, .slice (some ⟨2, 0, none⟩) n unk), (3, .func (Fn.func 68) ⟨[]⟩ ⟨[.pointer (some ⟨0, 0, none⟩)]⟩)] (.node .nil (some (.func (Fn.func 68) ⟨[]⟩ ⟨[.pointer (some ⟨0, 0, none⟩)]⟩)) (.node .nil (some (.slice (some ⟨2, 0, none⟩) n unk)) .nil)) ms A := by kernel_rfl
theorem kcK (r : Mem) (L : Nat) (fs : FnsC) (s : List (Nat × Value)) (n : Nat) (kn : KS) (kx : Nat → KS) (kr : KS) (ms : List Nat) (A : AW) : run (SC r) 5 5 L (rc (rc cCo)) fs none kn kx kr s (TC0 (.slice (some ⟨2, 0, none⟩) n unk)) ms A =
    kr s (.node .nil (some (.func (Fn.func 68) ⟨[]⟩ ⟨[.pointer (some ⟨0, 0, none⟩)]⟩)) (.node .nil (some (.slice (some ⟨2, 0, none⟩) n unk)) .nil)) ms A := by kernel_rfl
theorem kcL (r : Mem) (s : List (Nat × Value)) (n : Nat) (k : KV) (A : AW) : finK (SC r) 5 (resOf (SC r) 66) k s (TC0 (.slice (some ⟨2, 0, none⟩) n unk)) [] A =
    k (.slice (some ⟨2, 0, none⟩) n unk) A := by kernel_rfl
theorem kcJ (r : Mem) (A : AW) : callAt (SC r) 5 (lc (rc cCo)) 1 ⟨[(3, seqV)], TC0 (.slice none 0 0)⟩ A = some (77, [.slice none 0 0, seqV], A) := by kernel_rfl
section
variable {r : Mem} {γ0 : Gam} {W0 : World} {e z clock : Nat} {q : List KT}
theorem append_S (hq : KOk q clock) (hne : q ≠ []) : SOk (SC r) 77 [.slice none 0 0, seqV] (AK0 e z clock (q.map mkE)) fun v A' => ∃ vis, vis.Perm q ∧ v = .slice (some ⟨2, 0, none⟩) vis.length unk ∧ A' = AR e z clock (q.map mkE) (rowK vis) := by
 obtain ⟨fn, h1, h2, h3, h4⟩ := fn_of (C := SC r) (f := 77) (by kernel_rfl)
 have hn : fn.ntmps = 13 := h3.trans (by kernel_rfl)
 rw [bodySC] at h2
 refine call_reachS (SC_ok r) h1 h2 183 (by rw [hn]; rfl) fun γ W F k hw hF hro => ?_
 rw [hn, h4]
 have h0 : ∀ i, 2 ≤ i → γ i = none := hw.fresh
 show Go.Ev.Reach (SC r) 183 13 F k γ W cAq _ _
 obtain ⟨fo, ps, hrf⟩ : ∃ fo ps, cAq = Code.seq (lc cAq) (.seq (.seq (lc (lc (rc cAq))) (.block 0 (.rangeFunc fo ps k_aqA k_aqB))) (rc (rc cAq))) ∧ ps = ⟨[7]⟩ ∧ fo = .tmp 6 := ⟨.tmp 6, ⟨[7]⟩, by kernel_rfl, rfl, rfl⟩
 obtain ⟨hrf, rfl, rfl⟩ := hrf
 rw [hrf]
 refine Go.Ev.Reach.seq (Go.Ev.Reach.seg (SC_ok r) TOk.nil (tm := .nil) (L := 1) (L' := 1) (d := 1) hF hro ((kcA ..).trans (qn_ok ?_)))
 refine Go.Ev.Reach.seq (Go.Ev.Reach.seq (Go.Ev.Reach.seg (SC_ok r) TOk.nil (tm := .nil) (L := 1) (L' := 1) (d := 1) hF hro ((kcB r 1 _ [] _ _ _ [] _).trans (qn_ok ?_))))
 have eA : (((⟨3, .node (.node .nil (some (.map (q.map mkE) clock)) .nil) (some (.cells [.map (some 1)] e 0 z)) (.node .nil (some (.cells [.slice none 0 0] 72 2 0)) .nil), .nil⟩ : AW).new .defd).new (.loop .ready none 183 ⟨[(6, seqV)], TQ⟩ 13 ⟨[7]⟩ k_aqA k_aqB 3)) = AKg e z clock (q.map mkE) 5 (.slice none 0 0) .nil .nil := by kernel_rfl
 have hkey := keys_S (r := r) (e := e) (z := z) hq
 rw [← eA] at hkey
 refine Go.Ev.Reach.block (Go.Ev.Reach.rangeS (SC_ok r) hF hro (g := 68) (first := []) (captured := [.pointer (some ⟨0, 0, none⟩)]) rfl (by kernel_rfl) hkey fun v A' ⟨_, vis, hv, hA⟩ => ?_)
 subst hA
 cases vis with
 | nil => exact absurd hv.nil_eq.symm hne
 | cons t l =>
  refine ⟨⟨⟨[(6, seqV)], TQ⟩, [3], AKh e z clock (q.map mkE) 6 (.slice (some ⟨5, 0, none⟩) (t :: l).length unk) (rwT 5 (rowK (t :: l)))⟩, by kernel_rfl, ?_⟩
  refine Go.Ev.Reach.seg (SC_ok r) TOk.nil (tm := .nil) (L := 1) (L' := 1) (d := 1) hF hro ((kcC ..).trans (qn_ok ⟨.inr rfl, ⟨⟨[], TQ4 (.slice (some ⟨2, 0, none⟩) (t :: l).length unk)⟩, [3], AR3 e z clock (q.map mkE) (rowK (t :: l))⟩, _, _, ?_, ?_, t :: l, hv, rfl, rfl⟩))
  ·
   refine Ren.of (fun i => bif Nat.beq i 2 then 5 else i) 2 rfl h0 (Nat.le_of_ble_eq_true rfl) (fun i hi => by have : Nat.beq i 2 = false := natFK (by omega); rw [this]; rfl) ?_ rfl ?_ trivial
   ·simp only [Tr.All, TQ4]
    repeat' (first | exact trivial | apply And.intro)
    all_goals exact ⟨_, rfl, rfl⟩
   ·simp only [Tr.All, AR3]
    repeat' (first | exact trivial | apply And.intro)
    all_goals first | rfl | exact .head _ | exact ⟨_, rfl, .defd⟩ | exact ⟨_, rfl, .map (ksG q)⟩ | exact ⟨_, rfl, .cells rfl⟩ | exact ⟨_, rfl, .plain (by exact rowK_gnd (t :: l))⟩
  ·rw [← finK_finish]
   exact kcF ..
theorem collect_S (hq : KOk q clock) (hne : q ≠ []) : SOk (SC r) 66 [seqV] (AK0 e z clock (q.map mkE)) fun v A' => ∃ vis, vis.Perm q ∧ v = .slice (some ⟨2, 0, none⟩) vis.length unk ∧ A' = AR e z clock (q.map mkE) (rowK vis) := by
 obtain ⟨fn, h1, h2, h3, h4⟩ := fn_of (C := SC r) (f := 66) (by kernel_rfl)
 have hn : fn.ntmps = 5 := h3.trans (by kernel_rfl)
 rw [bodySC] at h2
 refine call_reachS (SC_ok r) h1 h2 5 (by rw [hn]; rfl) fun γ W F k hw hF hro => ?_
 rw [hn, h4]
 show Go.Ev.Reach (SC r) 5 5 F k γ W cCo _ _
 rw [show cCo = Code.seq (lc cCo) (.seq (lc (rc cCo)) (rc (rc cCo))) from by kernel_rfl]
 refine Go.Ev.Reach.seq (Go.Ev.Reach.seg (SC_ok r) TOk.nil (tm := .nil) (L := 1) (L' := 1) (d := 1) hF hro ((kcG ..).trans (qn_ok ?_)))
 refine Go.Ev.Reach.seq (Go.Ev.Reach.callP (SC_ok r) hF TOk.nil (tm := .nil) (L := 0) (d := 0) 1 ((kcH ..).trans (qn_ok rfl)) (kcJ ..) (append_S (e := e) (z := z) hq hne) fun v A' ⟨vis, hv, h1, h2⟩ => ?_)
 subst h1 h2
 refine (kcI ..).trans (qn_ok (Go.Ev.Reach.seg (SC_ok r) TOk.nil (tm := .nil) (L := 1) (L' := 1) (d := 1) hF hro ((kcK ..).trans (qn_ok ⟨.inr rfl, _, _, _, Ren.refl _, ?_, vis, hv, rfl, rfl⟩))))
 rw [← finK_finish]
 exact kcL ..
end
end Go.Proofs
namespace Go.Proofs
open Go Go.Ev
noncomputable def cSf : Code := bodyOf S0 47
abbrev cmpV : Value := .func (.func 49) ⟨[]⟩ ⟨[]⟩
abbrev slV (n : Nat) : Value := .slice (some ⟨2, 0, none⟩) n unk
def TS0 : Tr Value := .node (.node .nil (some cmpV) .nil) (some seqV) (.node (.node .nil (some (.slice none 0 0)) .nil) none .nil)
def TS1 (n : Nat) : Tr Value := .node (.node .nil (some cmpV) (.node .nil (some (slV n)) .nil)) (some seqV) (.node (.node .nil (some (.slice none 0 0)) .nil) none .nil)
def TS2 (n : Nat) : Tr Value := .node (.node .nil (some cmpV) (.node .nil (some (slV n)) .nil)) (some seqV) (.node (.node .nil (some (slV n)) .nil) none .nil)
noncomputable def tSo (n : Nat) (A0 A1 : AW) : Tbl := tcons 67 (entAt [slV n, cmpV] A0 (.tuple ⟨[]⟩) A1) fun _ => none
theorem kdA (r : Mem) (L : Nat) (fs : FnsC) (kn : KS) (kx : Nat → KS) (kr : KS) (ms : List Nat) (A : AW) : run (SC r) 51 12 L (lc cSf) fs none kn kx kr (sc0 51 [seqV, cmpV]) (tr0 51 [seqV, cmpV]) ms A =
    kn [] (.node (.node .nil (some (.func (Fn.func 49) ⟨[]⟩ ⟨[]⟩)) .nil) (some (.func (Fn.func 68) ⟨[]⟩ ⟨[.pointer (some ⟨0, 0, none⟩)]⟩)) (.node (.node .nil (some (.slice none 0 0)) .nil) none .nil)) ms A := by kernel_rfl
theorem kdB (r : Mem) (fs : FnsC) (kn : KS) (ms : List Nat) (A : AW) : preK (SC r) 51 12 (lc (rc cSf)) 1 fs kn [] TS0 ms A =
    kn [(6, .func (Fn.func 68) ⟨[]⟩ ⟨[.pointer (some ⟨0, 0, none⟩)]⟩)] (.node (.node .nil (some (.func (Fn.func 49) ⟨[]⟩ ⟨[]⟩)) .nil) (some (.func (Fn.func 68) ⟨[]⟩ ⟨[.pointer (some ⟨0, 0, none⟩)]⟩)) (.node (.node .nil (some (.slice none 0 0)) .nil) none .nil)) ms A := by kernel_rfl
theorem kdC (r : Mem) (fs : FnsC) (n : Nat) (kn : KS) (ms : List Nat) (A : AW) : tailK (SC r) 51 12 (lc (rc cSf)) 1 fs kn (slV n) [(6, seqV)] TS0 ms A =
    kn [(7, .slice (some ⟨2, 0, none⟩) n unk), (6, .func (Fn.func 68) ⟨[]⟩ ⟨[.pointer (some ⟨0, 0, none⟩)]⟩)] (.node (.node .nil (some (.func (Fn.func 49) ⟨[]⟩ ⟨[]⟩)) (.node .nil (some (.slice (some ⟨2, 0, none⟩) n unk)) .nil)) (some (.func (Fn.func 68) ⟨[]⟩ ⟨[.pointer (some ⟨0, 0, none⟩)]⟩)) (.node (.node .nil (some (.slice none 0 0)) .nil) none .nil)) ms A := by kernel_rfl
theorem kdD (r : Mem) (L : Nat) (e z clock : Nat) (es : List MapEntry) (l l' : List Value) (n : Nat) (s : List (Nat × Value)) (kn : KS) (kx : Nat → KS) (kr : KS) (ms : List Nat) : run (SC r) 51 12 L (rc (rc cSf)) (lvlT (SC r) (tSo n (AR e z clock es l) (AR e z clock es l')) .nil 1 1) none kn kx kr s (TS1 n) ms (AR e z clock es l) =
    bif m_at [.slice (some ⟨2, 0, none⟩) n unk, .func (Fn.func 49) ⟨[]⟩ ⟨[]⟩] [.slice (some ⟨2, 0, none⟩) n unk, .func (Fn.func 49) ⟨[]⟩ ⟨[]⟩] (AW.mk 4 (.node (.node (.node .nil none .nil) (some (AObj.map es clock)) .nil) (some (.cells [Value.map (some 1)] e 0 z)) (.node .nil (some (.cells l 53 2 1)) .nil)) .nil) (AW.mk 4 (.node (.node (.node .nil none .nil) (some (AObj.map es clock)) .nil) (some (.cells [Value.map (some 1)] e 0 z)) (.node .nil (some (.cells l 53 2 1)) .nil)) .nil) then kr [(11, .slice (some ⟨2, 0, none⟩) n unk)] (.node (.node .nil (some (.func (Fn.func 49) ⟨[]⟩ ⟨[]⟩)) (.node .nil (some (.slice (some ⟨2, 0, none⟩) n unk)) .nil)) (some (.func (Fn.func 68) ⟨[]⟩ ⟨[.pointer (some ⟨0, 0, none⟩)]⟩)) (.node (.node .nil (some (.slice (some ⟨2, 0, none⟩) n unk)) .nil) none .nil)) ms (AW.mk 4 (.node (.node (.node .nil none .nil) (some (AObj.map es clock)) .nil) (some (.cells [Value.map (some 1)] e 0 z)) (.node .nil (some (.cells l' 53 2 1)) .nil)) .nil) else F4 := by kernel_rfl
theorem kdE (r : Mem) (s : List (Nat × Value)) (n : Nat) (k : KV) (A : AW) : finK (SC r) 51 (resOf (SC r) 47) k s (TS2 n) [] A =
    k (.slice (some ⟨2, 0, none⟩) n unk) A := by kernel_rfl
theorem kdJ (r : Mem) (A : AW) : callAt (SC r) 51 (lc (rc cSf)) 1 ⟨[(6, seqV)], TS0⟩ A = some (66, [seqV], A) := by kernel_rfl
end Go.Proofs
namespace Go.Proofs
open Go Go.Ev
def ones : Nat → Nat → Nat
 | 0, _ => 0
 | n + 1, x => x % 2 + ones n (x / 2)
def popTab : List UInt8 := (List.range 256).map fun i => UInt8.ofNat (ones 8 i)
def m_sz (x : Int) : Int := Int.ofNat (ones 8 (x.toNat / 256) + ones 8 (x.toNat % 256))
def m_cp (x y : Int) : Int := bif decide (x < y) then -1 else bif decide (x > y) then 1 else 0
def m_cf (x y : Int) : Int := bif m_cp (m_sz x) (m_sz y) != 0 then m_cp (m_sz x) (m_sz y) else m_cp x y
def in16 (x : Int) : Bool := decide (0 ≤ x) && decide (x < 65536)
def eSz : Ent := ent (fun args _ => match args with | [.int .u16 x] => in16 x | _ => false) (fun args _ => match args with | [.int .u16 x] => I (m_sz x) | _ => undef)
def eC16 : Ent := ent (fun args _ => match args with | [.int .u16 _, .int .u16 _] => true | _ => false) (fun args _ => match args with | [.int .u16 x, .int .u16 y] => I (m_cp x y) | _ => undef)
def tCf : Tbl := tcons 52 eSz (tcons 53 eC16 (tcons 51 (eI2 (fun _ _ => true) fun x y => I (m_cp x y)) fun _ => none))
theorem pop_get : ∀ i : Fin 256, popTab[i.val]? = some (UInt8.ofNat (ones 8 i.val)) := by decide +kernel
theorem ones_lt : ∀ i : Fin 256, ones 8 i.val ≤ 8 := by decide +kernel
theorem keS (r : Mem) (x : Int) : (lvlT (SC r) (fun _ => none) .nil 2 3).call 52 [.int .u16 x] emptyA fin =
  bif decide (0 ≤ Int.fdiv x (Int.ofNat 256)) then Option.casesOn popTab[Int.toNat (Int.fdiv x (Int.ofNat 256))]? (CR.fail 429) fun val => Option.casesOn popTab[Int.toNat (ibits BinOp.and IntKind.u16 x (Int.ofNat 255))]? (CR.fail 429) fun val_1 => CR.ret (Value.int IntKind.i64 (IntKind.wrap IntKind.i64 (IntKind.wrap IntKind.u8 (Int.ofNat (UInt8.toNat val) + Int.ofNat (UInt8.toNat val_1))))) (AW.mk 0 Tr.nil Tr.nil) else F4 := by kernel_rfl
theorem and255 (n : Nat) (h : n < 65536) : ibits BinOp.and IntKind.u16 (n : Int) (Int.ofNat 255) = ((n % 256 : Nat) : Int) := by
 have e : (BitVec.ofInt 16 (n : Int) &&& BitVec.ofInt 16 (Int.ofNat 255)).toNat = n % 256 := by
  rw [BitVec.toNat_and, BitVec.ofInt_natCast, BitVec.toNat_ofNat, Nat.mod_eq_of_lt (by omega)]
  exact Nat.and_two_pow_sub_one_eq_mod n 8
 show IntKind.wrap .u16 ((BitVec.ofInt 16 (n : Int) &&& BitVec.ofInt 16 (Int.ofNat 255)).toNat : Int) = _
 rw [e]
 have : n % 256 < 256 := Nat.mod_lt _ (by omega)
 generalize n % 256 = m at this ⊢
 have : ∀ m : Fin 256, IntKind.wrap .u16 (m.val : Int) = (m.val : Int) := by decide +kernel
 exact this ⟨m, by omega⟩
theorem size_calls (r : Mem) (x : Int) (h0 : 0 ≤ x) (h1 : x < 65536) : GrT Tryd.prog r 52 [.int .u16 x] (I (m_sz x)) := by
 refine GrT.of (SC_ok r) TOk.nil .nil rfl ⟨2, 3, (keS r x).trans ?_⟩
 obtain ⟨n, rfl⟩ := Int.eq_ofNat_of_zero_le h0
 have hn : n < 65536 := by omega
 have e1 : Int.fdiv (n : Int) (Int.ofNat 256) = ((n / 256 : Nat) : Int) := by rw [Int.fdiv_eq_ediv_of_nonneg _ (by decide)]; rfl
 have hd : n / 256 < 256 := by omega
 have hm : n % 256 < 256 := Nat.mod_lt _ (by omega)
 rw [e1, and255 n hn, Int.toNat_natCast, Int.toNat_natCast, pop_get ⟨n / 256, hd⟩, pop_get ⟨n % 256, hm⟩]
 rw [show decide ((0 : Int) ≤ ((n / 256 : Nat) : Int)) = true from decide_eq_true (by omega)]
 simp only [cond_true]
 unfold m_sz
 rw [Int.toNat_natCast]
 have k1 := ones_lt ⟨n / 256, hd⟩
 have k2 := ones_lt ⟨n % 256, hm⟩
 simp only at k1 k2
 generalize ones 8 (n / 256) = a at k1 ⊢
 generalize ones 8 (n % 256) = b at k2 ⊢
 have key : ∀ a b : Fin 9, IntKind.wrap IntKind.i64 (IntKind.wrap IntKind.u8 (Int.ofNat (UInt8.toNat (UInt8.ofNat a.val)) + Int.ofNat (UInt8.toNat (UInt8.ofNat b.val)))) = Int.ofNat (a.val + b.val) := by decide +kernel
 rw [key ⟨a, by omega⟩ ⟨b, by omega⟩]
 rfl
theorem keC (r : Mem) (x y : Int) : (lvlT (SC r) (fun _ => none) .nil 2 3).call 51 [I x, I y] emptyA fin =
    bif x != x then bif y != y then .ret (I (Int.ofNat 0)) (AW.mk 0 .nil .nil) else .ret (I (Int.negSucc 0)) (AW.mk 0 .nil .nil) else bif y != y then .ret (I (Int.ofNat 1)) (AW.mk 0 .nil .nil) else bif decide (x < y) then .ret (I (Int.negSucc 0)) (AW.mk 0 .nil .nil) else bif decide (x > y) then .ret (I (Int.ofNat 1)) (AW.mk 0 .nil .nil) else .ret (I (Int.ofNat 0)) (AW.mk 0 .nil .nil) := by kernel_rfl
theorem keD (r : Mem) (x y : Int) : (lvlT (SC r) (fun _ => none) .nil 2 3).call 53 [.int .u16 x, .int .u16 y] emptyA fin =
    bif x != x then bif y != y then .ret (I (Int.ofNat 0)) (AW.mk 0 .nil .nil) else .ret (I (Int.negSucc 0)) (AW.mk 0 .nil .nil) else bif y != y then .ret (I (Int.ofNat 1)) (AW.mk 0 .nil .nil) else bif decide (x < y) then .ret (I (Int.negSucc 0)) (AW.mk 0 .nil .nil) else bif decide (x > y) then .ret (I (Int.ofNat 1)) (AW.mk 0 .nil .nil) else .ret (I (Int.ofNat 0)) (AW.mk 0 .nil .nil) := by kernel_rfl
theorem cmp_calls (r : Mem) (x y : Int) : GrT Tryd.prog r 51 [I x, I y] (I (m_cp x y)) := by
 refine GrT.of (SC_ok r) TOk.nil .nil rfl ⟨2, 3, ?_⟩
 rw [keC]
 simp only [neF (show x = x from rfl), neF (show y = y from rfl), cond_false, m_cp]
 cases decide (x < y) <;> cases decide (x > y) <;> rfl
theorem cmp16_calls (r : Mem) (x y : Int) : GrT Tryd.prog r 53 [.int .u16 x, .int .u16 y] (I (m_cp x y)) := by
 refine GrT.of (SC_ok r) TOk.nil .nil rfl ⟨2, 3, ?_⟩
 rw [keD]
 simp only [neF (show x = x from rfl), neF (show y = y from rfl), cond_false, m_cp]
 cases decide (x < y) <;> cases decide (x > y) <;> rfl
theorem eSz_ok (r : Mem) : EOk (SC r) 52 eSz := EOk.ent fun args A hg => by
 split at hg
 ·rename_i x
  simp only [in16, Bool.and_eq_true, decide_eq_true_eq] at hg
  exact (size_calls r x hg.1 hg.2).ro rfl A
 ·cases hg
theorem eC16_ok (r : Mem) : EOk (SC r) 53 eC16 := EOk.ent fun args A hg => by
 split at hg
 ·exact (cmp16_calls r _ _).ro rfl A
 ·cases hg
theorem tCf_ok (r : Mem) : TOk (SC r) tCf := ((TOk.nil.cons (eI2_ok fun x y _ => cmp_calls r x y)).cons (eC16_ok r)).cons (eSz_ok r)
theorem keF (r : Mem) (x y : Int) : (lvlT (SC r) tCf .nil 4 3).call 49 [.int .u16 x, .int .u16 y] emptyA fin =
    bif decide (0 ≤ x) && decide (x < 65536) then bif decide (0 ≤ y) && decide (y < 65536) then bif m_cp (m_sz x) (m_sz y) != Int.ofNat 0 then .ret (I (m_cp (m_sz x) (m_sz y))) (AW.mk 0 .nil .nil) else bif m_cp x y != Int.ofNat 0 then .ret (I (m_cp x y)) (AW.mk 0 .nil .nil) else .ret (I (Int.ofNat 0)) (AW.mk 0 .nil .nil) else F4 else F4 := by kernel_rfl
end Go.Proofs
namespace Go.Proofs
open Go Go.Ev
def g2 (γ : Gam) (b m : Nat) : Gam := fun i => match i with | 0 => γ b | 1 => γ m | _ => none
theorem g2_cases {γ : Gam} {b m i : Nat} {g : GI} (h : g2 γ b m i = some g) : (i = 0 ∧ γ b = some g) ∨ (i = 1 ∧ γ m = some g) := by
 unfold g2 at h
 split at h
 ·exact .inl ⟨rfl, h⟩
 ·exact .inr ⟨rfl, h⟩
 ·cases h
theorem ak0_get {e z clock : Nat} {es : List MapEntry} {i : Nat} {o : AObj} (h : (AK0 e z clock es).heap.get i = some o) : (i = 0 ∧ o = .cells [.map (some 1)] e 0 z) ∨ (i = 1 ∧ o = .map es clock) := by
 have : Tr.All (fun i o => (i = 0 ∧ o = AObj.cells [.map (some 1)] e 0 z) ∨ (i = 1 ∧ o = .map es clock)) (AK0 e z clock es).heap id := by
  exact ⟨.inl ⟨rfl, rfl⟩, ⟨.inr ⟨rfl, rfl⟩, trivial, trivial⟩, trivial⟩
 exact this.get h
theorem WRel.pair {γ : Gam} {A : AW} {W : World} (hw : WRel γ A W) {b m e f z clock : Nat} {es : List MapEntry} (hb : A.heap.get b = some (.cells [.map (some m)] e f z)) (hm : A.heap.get m = some (.map es clock))
  (hg : ∀ x ∈ es, gnd x.key = true ∧ gnd x.val = true) : WRel (g2 γ b m) (AK0 e z clock es) W := by
 obtain ⟨gb, hgb, hob⟩ := hw.obj _ _ hb
 obtain ⟨gm, hgm, hom⟩ := hw.obj _ _ hm
 refine ⟨fun i o hi => ?_, fun i g hi => ?_, fun i hi => ?_, fun i j o o' g g' hi hj hgi hgj hbb => ?_, fun i c e' fam sz hi => ?_, fun i c e' fam sz hi => ?_, fun f _ => rfl⟩
 ·rcases ak0_get hi with ⟨rfl, rfl⟩ | ⟨rfl, rfl⟩
  ·refine ⟨gb, hgb, ?_⟩
   cases hob with
   | cells h hf hn hz hc =>
    refine .cells h hf hn hz fun k v hk => ?_
    cases k with
    | zero =>
     cases hk
     obtain ⟨v', h1, h2⟩ := hc 0 _ rfl
     refine ⟨v', h1, ?_⟩
     cases h2 with
     | map hx => exact .map (show g2 γ b m 1 = _ from hx)
    | succ k => cases hk
  ·refine ⟨gm, hgm, ?_⟩
   cases hom with
   | map h he => exact .map h (he.of_gnds hg)
 ·rcases g2_cases hi with ⟨_, h⟩ | ⟨_, h⟩
  ·exact hw.lt _ _ h
  ·exact hw.lt _ _ h
 ·unfold g2
  split
  ·have : (2 : Nat) ≤ 0 := hi
   omega
  ·have : (2 : Nat) ≤ 1 := hi
   omega
  ·rfl
 ·have no : ∀ {g : GI}, gb = g → gm = g → False := fun h1 h2 => by
   have hbb : gb.blk = gm.blk := by rw [h1, h2]
   rcases hw.sep b m _ _ gb gm hb hm hgb hgm hbb with h | ⟨_, _, _, _, _, _, _, _, h⟩
   ·subst h
    rw [hb] at hm
    cases hm
   ·exact nomatch h.1
  have no' : gb.blk = gm.blk → False := fun hbb => by
   rcases hw.sep b m _ _ gb gm hb hm hgb hgm hbb with h | ⟨_, _, _, _, _, _, _, _, h⟩
   ·subst h
    rw [hb] at hm
    cases hm
   ·exact nomatch h.1
  rcases g2_cases hgi with ⟨rfl, h1⟩ | ⟨rfl, h1⟩ <;> rcases g2_cases hgj with ⟨rfl, h2⟩ | ⟨rfl, h2⟩
  ·exact .inl rfl
  ·rw [hgb] at h1; rw [hgm] at h2
   cases h1; cases h2
   exact (no' hbb).elim
  ·rw [hgm] at h1; rw [hgb] at h2
   cases h1; cases h2
   exact (no' hbb.symm).elim
  ·exact .inl rfl
 ·rcases ak0_get hi with ⟨rfl, h⟩ | ⟨rfl, h⟩
  ·cases h
   exact .head _
  ·cases h
 ·rcases ak0_get hi with ⟨rfl, h⟩ | ⟨rfl, h⟩
  ·cases h
   show 0 < 2
   omega
  ·cases h
theorem _root_.Go.Ev.Ro.pair {r : Mem} {γ : Gam} {W : World} (h : Ro r γ W) (b m : Nat) : Ro r (g2 γ b m) W :=
 have key : ∀ b', (∀ i g, γ i = some g → g.blk ≠ b') → ∀ i g, g2 γ b m i = some g → g.blk ≠ b' := fun b' hno i g hi => by
  rcases g2_cases hi with ⟨_, h⟩ | ⟨_, h⟩
  ·exact hno _ _ h
  ·exact hno _ _ h
 ⟨fun b' k v e => ⟨key b' (h.rd b' k v e).1, (h.rd b' k v e).2⟩, fun b' e => ⟨key b' (h.wr b' e).1, (h.wr b' e).2⟩⟩
theorem Ends.pair {γ : Gam} {A : AW} {W : World} (hw : WRel γ A W) {b m e f z clock n eK : Nat} {es : List MapEntry} {l : List Value} (hb : A.heap.get b = some (.cells [.map (some m)] e f z)) (hm : A.heap.get m = some (.map es clock))
  (hf : A.members f = [b]) (hg : ∀ x ∈ es, gnd x.key = true ∧ gnd x.val = true) (hl : ∀ v ∈ l, gnd v = true) {x : Ending} {W' : World} {AR' : AW}
  (h0 : AR'.heap.get 0 = some (.cells [.map (some 1)] e 0 z)) (h1 : AR'.heap.get 1 = some (.map es clock)) (h2 : AR'.heap.get 2 = some (.cells l eK 2 1))
  (h : Go.Ev.Ends (g2 γ b m) W (.slice (some ⟨2, 0, none⟩) n unk) AR' x W') : Go.Ev.Ends γ W (.slice (some ⟨A.next, 0, none⟩) n unk) (A.new (.cells l eK A.next 1)) x W' := by
 obtain ⟨v', γ', rfl, hv, hw', hx⟩ := h
 obtain ⟨gb, hgb, hob⟩ := hw.obj _ _ hb
 obtain ⟨gm, hgm, hom⟩ := hw.obj _ _ hm
 have hb' : γ' 0 = some gb := hx.le 0 gb hgb
 have hm' : γ' 1 = some gm := hx.le 1 gm hgm
 obtain ⟨gr, hgr, hor⟩ := hw'.obj _ _ h2
 have hnew : W.heap.size ≤ gr.blk := by
  rcases hx.new 2 gr hgr with hh | ⟨_, hh | ⟨j, y, hj, hy⟩⟩
  ·cases hh
  ·exact hh
  ·exfalso
   rcases g2_cases hj with ⟨_, hj⟩ | ⟨_, hj⟩
   ·rw [hgb] at hj; cases hj
    rcases hw'.sep 2 0 _ _ gr gb h2 h0 hgr hb' hy.symm with h | ⟨_, _, _, _, _, _, _, q1, q2⟩
    ·cases h
    ·cases q1; exact nomatch q2.1
   ·rw [hgm] at hj; cases hj
    rcases hw'.sep 2 1 _ _ gr gm h2 h1 hgr hm' hy.symm with h | ⟨_, _, _, _, _, _, _, _, q2⟩
    ·cases h
    ·exact nomatch q2.1
 have hkeep : ∀ k, k < W.heap.size → k ≠ gb.blk → k ≠ gm.blk → W'.heap[k]? = W.heap[k]? := fun k hk h1 h2 => by
  refine hx.block k hk fun i g hi hbk => ?_
  rcases g2_cases hi with ⟨_, h⟩ | ⟨_, h⟩
  ·rw [hgb] at h; cases h
   exact h1 hbk.symm
  ·rw [hgm] at h; cases h
   exact h2 hbk.symm
 have hwA : WRel γ A W' := by
  refine ⟨fun i o hi => ?_, fun i g hi => Nat.lt_of_lt_of_le (hw.lt i g hi) hx.size, hw.fresh, hw.sep, hw.mem, hw.famlt, hw.famfresh⟩
  obtain ⟨g, hgi, hr⟩ := hw.obj i o hi
  refine ⟨g, hgi, ?_⟩
  have onB : i = b → ORel γ W' g o := fun h => by
   subst h
   rw [hb] at hi; rw [hgb] at hgi
   cases hi; cases hgi
   obtain ⟨g', hg', ho'⟩ := hw'.obj _ _ h0
   rw [hb'] at hg'; cases hg'
   cases ho' with
   | cells q1 q2 q3 q4 q5 =>
    refine .cells q1 q2 q3 q4 fun k v hk => ?_
    cases k with
    | zero =>
     cases hk
     obtain ⟨u, k1, k2⟩ := q5 0 _ rfl
     refine ⟨u, k1, ?_⟩
     cases k2 with
     | map hy => rw [hm'] at hy; cases hy; exact .map hgm
    | succ k => cases hk
  have onM : i = m → ORel γ W' g o := fun h => by
   subst h
   rw [hm] at hi; rw [hgm] at hgi
   cases hi; cases hgi
   obtain ⟨g', hg', ho'⟩ := hw'.obj _ _ h1
   rw [hm'] at hg'; cases hg'
   cases ho' with
   | map q1 q2 => exact .map q1 (q2.of_gnds hg)
  by_cases c1 : g.blk = gb.blk
  ·rcases hw.sep i b _ _ g gb hi hb hgi hgb c1 with h | ⟨c, e1, c', e2, fam, s1, s2, q1, q2⟩
   ·exact onB h
   ·obtain ⟨q2, _⟩ := q2
    cases q2
    subst q1
    have := hw.mem i _ _ _ _ hi
    rw [hf] at this
    exact onB (List.mem_singleton.1 this)
  ·by_cases c2 : g.blk = gm.blk
   ·rcases hw.sep i m _ _ g gm hi hm hgi hgm c2 with h | ⟨_, _, _, _, _, _, _, _, q2⟩
    ·exact onM h
    ·exact nomatch q2.1
   ·exact hr.mono γ.le_refl (hkeep _ (hw.lt _ _ hgi) c1 c2)
 have hun : ∀ i g', γ i = some g' → g'.blk ≠ gr.blk := fun i g' hi hbk => by
  have := hw.lt i g' hi
  omega
 have ho' : ORel γ W' gr (.cells l eK A.next 1) := by
  cases hor with
  | cells q1 q2 q3 q4 q5 =>
   refine .cells q1 q2 q3 q4 fun k v hk => ?_
   obtain ⟨u, k1, k2⟩ := q5 k v hk
   have hgv := hl v (List.mem_of_getElem? hk)
   exact ⟨u, k1, by rw [k2.eq_of_gnd hgv]; exact VRel.of_gnd _ v hgv⟩
 refine ⟨v', γ.set A.next gr, rfl, ?_, hwA.add ho' hun, ⟨Gam.le_set _ (hw.fresh _ (Nat.le_refl _)), fun i y hi => ?_, hx.size, fun k hk hno => ?_, hx.os, hx.tape, hx.output, hx.drawn⟩⟩
 ·generalize hc : unk = c0 at hv
  cases hv with
  | slice k l0 c c' hg1 hc1 =>
   subst hc
   rw [hgr] at hg1; cases hg1
   exact .slice _ _ _ _ (Gam.set_same _ _ _) hc1
  | sliceE => exact absurd hc (by decide)
 ·rcases Gam.set_cases hi with ⟨rfl, rfl⟩ | ⟨_, hi⟩
  ·exact .inr ⟨hw.fresh _ (Nat.le_refl _), .inl hnew⟩
  ·exact .inl hi
 ·exact hkeep k hk (fun h => hno b gb hgb h.symm) (fun h => hno m gm hgm h.symm)
end Go.Proofs
namespace Go.Proofs
open Go Go.Ev Go.Shelf Go.RowKit Go.Lib Go.Sort
theorem mapBlock_setB {W : World} {b : Nat} {cc : Array Value} {e : TypeId} {fr : Nat × Nat} (hb : W.heap[b]? = some (.cells cc e fr)) (f : Array Value → Array Value) : mapBlock W b f = setB W b (.cells (f cc) e fr) := by
 unfold mapBlock setB
 congr 1
 apply Array.ext_getElem?
 intro k
 simp only [Array.getElem?_modify, Array.getElem?_setIfInBounds]
 by_cases hk : b = k
 ·subst hk
  have hlt : b < W.heap.size := by
   rcases Nat.lt_or_ge b W.heap.size with h | h
   ·exact h
   ·rw [Array.getElem?_eq_none h] at hb; cases hb
  rw [if_pos rfl, if_pos rfl, if_pos hlt, hb]
  rfl
 ·rw [if_neg hk, if_neg hk]
theorem WRel.ahead {γ : Gam} {A : AW} {W : World} (h : WRel γ A W) (n : Nat) : WRel γ A (Sort.ahead W n) :=
 ⟨fun i o hi => let ⟨g, hg, hr⟩ := h.obj i o hi; ⟨g, hg, hr.mono γ.le_refl rfl⟩, h.lt, h.fresh, h.sep, h.mem, h.famlt, h.famfresh⟩
theorem Ext.ahead (γ : Gam) (W : World) (n : Nat) : Ext γ W γ (Sort.ahead W n) := ⟨γ.le_refl, fun _ _ h => .inl h, Nat.le_refl _, fun _ _ _ => rfl, rfl, rfl, rfl, Nat.le_add_right _ _⟩
theorem below_grow (W : World) (os : Array Obj) : BelowD W.heap.size W (Sort.grow W os) := by
 refine ⟨⟨rfl, rfl, rfl, by simp [Sort.grow], fun k hk => ?_⟩, Nat.le_refl _⟩
 show (W.heap ++ os)[k]? = _
 rw [Array.getElem?_append_left hk]
theorem _root_.Go.Ev.GrT.callsD {P : Program} {r : Mem} {f : Nat} {args : List Value} {v : Value} (h : GrT P r f args v) {W : World} {args' : Array Value} (hR : Ro r noG W) (ha : VsRel noG args args'.toList) :
  Calls P f args' W fun e W' => e = .returned v ∧ BelowD W.heap.size W W' :=
 callsIn_wide.1 (h.2 Fence.wide ⟨fun _ => trivial, rfl, rfl⟩ 0 W args' hR ha)
theorem _root_.Go.Ev.BelowD.grow {W W' : World} (h : BelowD W.heap.size W W') : ∃ q os', W' = Sort.grow (W.drewN q) os' := by
 refine ⟨W'.drawn - W.drawn, W'.heap.extract W.heap.size W'.heap.size, ?_⟩
 obtain ⟨⟨h1, h2, h3, h4, h5⟩, h6⟩ := h
 obtain ⟨heap, tape, drawn, os, output⟩ := W'
 obtain ⟨heap0, tape0, drawn0, os0, output0⟩ := W
 simp only at h1 h2 h3 h4 h5 h6
 subst h1 h2 h3
 simp only [Sort.grow, World.drewN, World.mk.injEq, true_and, and_true]
 refine ⟨?_, by omega⟩
 apply Array.ext_getElem?
 intro k
 by_cases hk : k < heap0.size
 ·rw [Array.getElem?_append_left hk, h5 k hk]
 ·rw [Array.getElem?_append_right (by omega), Array.getElem?_extract]
  by_cases hk2 : k < heap.size
  ·rw [if_pos (by omega)]
   congr 1
   omega
  ·rw [if_neg (by omega), Array.getElem?_eq_none (by omega)]
theorem cells_enc {α : Type} {enc : α → Value} (hg : ∀ x, gnd (enc x) = true) {γ : Gam} {o : Nat} {zs : List α} {cc : Array Value} (h : CellsRel γ o (zs.map enc) cc) (j : Nat) (hj : j < zs.length) : cc[o + j]? = some (enc zs[j]) := by
 obtain ⟨v', h1, h2⟩ := h j (enc zs[j]) (by simp [hj])
 rw [h1, h2.eq_of_gnd (hg _)]
theorem sort_genC {P : Program} {ρ : Shelf.Ren} (L : SlLaysF.n6 P ρ) {α : Type} [Inhabited α] (enc : α → Value) (h1 : OneCell enc) (hgnd : ∀ x, gnd (enc x) = true) (g0 : Nat) (capt : List Value) (cf : α → α → Int) (hO : SWO (ltOf cf))
  (eg : ∀ args w, (callFunc g0 args).run P w = .ok (.enter g0 args) w)
  {C : Cfg} (hP : C.P = P) {A0 : AW} {i cap : Nat} {e : TypeId} {fam z : Nat} {zs R : List α} (hi : A0.heap.get i = some (.cells (zs.map enc) e fam z)) (hsz : zs.length < 4611686018427387904) (hcap : cap ≠ unkE)
  (hcmp : ∀ γ W capt' g, WRel γ A0 W → Ro C.ro γ W → VsRel γ capt capt' → γ i = some g → CmpLays1 P g0 ⟨capt'⟩ enc cf g.blk g.off zs.length W)
  (hR : ∀ d : List α, d.Perm zs → d.Pairwise (fun x y => ltOf cf y x = false) → d = R) :
  ∀ F, Wide F → ∀ k γ W args', WRel γ A0 W → Ro C.ro γ W → VsRel γ [.slice (some ⟨i, 0, none⟩) zs.length cap, .func (.func g0) ⟨[]⟩ ⟨capt⟩] (Array.toList args') →
   CallsIn F k C.P (ρ.f 6) args' W (Go.Ev.Ends γ W (.tuple ⟨[]⟩) (A0.only fam i (.cells (R.map enc) e fam z))) := by
 intro F hF k γ W args' hw hro ha
 subst hP
 obtain ⟨g, hg, ho⟩ := hw.obj _ _ hi
 cases ho with
 | cells hb hf hn hz hc =>
 rename_i cc fr
 obtain ⟨l'⟩ := args'
 cases ha with
 | cons h1' h2 =>
 cases h2 with
 | cons h2 h3 =>
 cases h3
 cases h2 with
 | func q1 q2 q3 =>
 cases q1
 rename_i a1 a2
 obtain ⟨a1⟩ := a1
 obtain ⟨a2⟩ := a2
 cases q2
 generalize hm : zs.length = m at h1'
 cases h1' with
 | sliceE => exact absurd rfl hcap
 | slice _ _ _ c' hg' _ =>
 subst hm
 rw [hg] at hg'
 cases hg'
 have hlt := hw.lt _ _ hg
 have hcz := cells_enc hgnd hc
 have hH : Holds enc W g.blk g.off zs.toArray := fun j hj => by
  have hj' : j < zs.length := by simpa using hj
  have h0 := hcz j hj'
  have hjc : g.off + j < cc.size := by
   rcases Nat.lt_or_ge (g.off + j) cc.size with h | h
   ·exact h
   ·rw [Array.getElem?_eq_none h] at h0; cases h0
  refine ⟨?_, ?_⟩
  ·unfold World.cell?
   rw [hb]
   simp only [Option.isSome_none, Bool.false_eq_true, if_false, h0]
   rw [getElem!_pos _ j (by simpa using hj')]
   simp
  ·unfold World.frozen?
   rw [hb]
   have := hf (g.off + j) hjc
   simp only [Bool.and_eq_false_iff, decide_eq_false_iff_not]
   omega
 have hcr : CmpLays1 C.P g0 ⟨a2⟩ enc cf g.blk g.off zs.toArray.size W := by
  rw [show zs.toArray.size = zs.length by simp]
  exact hcmp γ W a2 g hw hro q3 hg
 have hcon := Any.slices_SortFunc L enc h1 cf hO g0 ⟨a2⟩ g.blk g.off c' zs.toArray W eg hcr hH hlt (by simpa using hsz)
 rw [show zs.toArray.size = zs.length by simp] at hcon
 refine (hF.calls hcon).mono fun e' W' he => ?_
 obtain ⟨rfl, d', n, os, hp, hs, rfl⟩ := he
 have hds : d'.size = zs.length := by simpa using hp.1
 have hd : d'.toList = R := by
  refine hR _ ?_ ?_
  ·have := hp.2.2
   rw [show d'.extract 0 zs.length = d' by rw [← hds]; simp] at this
   simpa using this
  ·rw [List.pairwise_iff_getElem]
   intro a b h1 h2 h3
   have := hs a b (Nat.zero_le _) h3 (by rw [← hds]; simpa using h2)
   rw [getElem!_pos _ b (by simpa using h2), getElem!_pos _ a (by simpa using h1)] at this
   simpa using this
 have hw1 := WRel.ahead hw n
 have hb1 : (Sort.ahead W n).heap[g.blk]? = some (.cells cc e fr) := hb
 have e1 : putRow enc (Sort.ahead W n) g.blk g.off d' = setB (Sort.ahead W n) g.blk (.cells (putCells enc g.off d' cc) e fr) := mapBlock_setB hb1 _
 have hps : (putCells enc g.off d' cc).size = cc.size := by simp [putCells]
 have hor : ORel γ (setB (Sort.ahead W n) g.blk (.cells (putCells enc g.off d' cc) e fr)) g (.cells (R.map enc) e fam z) := by
  refine .cells (setB_same _ hlt) (by rw [hps]; exact hf) (by rw [hps]; exact hn) hz fun k v hk => ?_
  rw [List.getElem?_map] at hk
  cases hr : R[k]? with
  | none => rw [hr] at hk; cases hk
  | some x =>
   rw [hr] at hk
   cases hk
   have hkR : k < R.length := by
    rcases Nat.lt_or_ge k R.length with h | h
    ·exact h
    ·rw [List.getElem?_eq_none h] at hr; cases hr
   have hkd : k < d'.size := by rw [← hd] at hkR; simpa using hkR
   have hkz : k < zs.length := by omega
   refine ⟨enc x, ?_, VRel.of_gnd _ _ (hgnd x)⟩
   have h0 := hcz k hkz
   simp only [putCells, Array.getElem?_mapIdx, h0, Option.map_some]
   rw [if_pos ⟨by omega, by omega⟩, show g.off + k - g.off = k by omega]
   rw [getElem!_pos _ k hkd]
   have : d'.toList[k]? = some x := by rw [hd]; exact hr
   rw [show d'[k] = x by simpa [hkd] using this]
 have hw2 := WRel.setRow hw1 hi hg hor
 have hx2 : Ext γ W γ (setB (Sort.ahead W n) g.blk (.cells (putCells enc g.off d' cc) e fr)) := (Ext.ahead γ W n).trans (Ext.setB _ hg)
 have hbl := below_grow (setB (Sort.ahead W n) g.blk (.cells (putCells enc g.off d' cc) e fr)) os
 obtain ⟨hw3, hx3⟩ := WRel.below hw2 hbl
 refine ⟨.tuple #[], γ, rfl, .tuple .nil, ?_, ?_⟩
 ·unfold sortWorld
  rw [e1]
  exact hw3
 ·unfold sortWorld
  rw [e1]
  exact hx2.trans hx3
theorem sort_gen {P : Program} {ρ : Shelf.Ren} (L : SlLaysF.n6 P ρ) {α : Type} [Inhabited α] (enc : α → Value) (h1 : OneCell enc) (hgnd : ∀ x, gnd (enc x) = true) (g0 : Nat) (cf : α → α → Int) (hO : SWO (ltOf cf))
  (eg : ∀ args w, (callFunc g0 args).run P w = .ok (.enter g0 args) w)
  (hcmp : ∀ x y, GrT P Mem.no g0 [enc x, enc y] (.int .i64 (cf x y)))
  {C : Cfg} (hP : C.P = P) {A0 : AW} {i cap : Nat} {e : TypeId} {fam z : Nat} {zs R : List α} (hi : A0.heap.get i = some (.cells (zs.map enc) e fam z)) (hsz : zs.length < 4611686018427387904) (hcap : cap ≠ unkE)
  (hR : ∀ d : List α, d.Perm zs → d.Pairwise (fun x y => ltOf cf y x = false) → d = R) :
  ∀ F, Wide F → ∀ k γ W args', WRel γ A0 W → Ro C.ro γ W → VsRel γ [.slice (some ⟨i, 0, none⟩) zs.length cap, .func (.func g0) #[] #[]] (Array.toList args') →
   CallsIn F k C.P (ρ.f 6) args' W (Go.Ev.Ends γ W (.tuple ⟨[]⟩) (A0.only fam i (.cells (R.map enc) e fam z))) :=
 sort_genC L enc h1 hgnd g0 [] cf hO eg hP hi hsz hcap (fun γ W capt' g _ _ hc _ => by
  cases hc
  exact fun _ _ _ _ x y =>
  (GrT.callsD (hcmp x y) (args' := #[enc x, enc y] ++ #[]) Ro.nought (by simpa using VsRel.of_gnds noG [enc x, enc y] (by simp [gnds, hgnd]))).mono fun _ _ ⟨he, hb⟩ => ⟨he, hb.grow⟩) hR
end Go.Proofs
namespace Go.Proofs
open Go Go.Shelf
noncomputable def nameF (n : Nat) : String := match Tryd.prog.funcs[n]? with
 | some f => f.name
 | none => ""
def Tryd.sortK_ren : Shelf.Ren where
 f := fun x => match x with
  | 6 => 67
  | 15 => 73
  | 14 => 78
  | 28 => 87
  | 29 => 88
  | 20 => 89
  | 21 => 90
  | 22 => 91
  | 23 => 92
  | 24 => 93
  | 25 => 94
  | 26 => 95
  | 27 => 96
  | 46 => 102
  | 47 => 98
  | 48 => 99
  | 49 => 103
  | 50 => 104
  | 57 => 106
  | n => n
 t := fun x => match x with
  | 22 => 72
  | 24 => 53
  | 25 => 92
  | 3 => 3
  | 39 => 110
  | 0 => 0
  | 53 => 113
  | 55 => 126
  | 4 => 4
  | 46 => 118
  | 45 => 117
  | 50 => 122
  | 5 => 5
  | 9 => 9
  | 66 => 132
  | 70 => 136
  | 76 => 140
  | 77 => 33
  | n => n
 g := fun x => x
theorem Tryd.sortK : SlLaysF.n6 Tryd.prog Tryd.sortK_ren where
 mixed := by kernel_rfl
 f6 := ⟨nameF 67, of_decide_eq_true (by kernel_rfl), Tryd.func67.trans (by kernel_rfl)⟩
 f14 := ⟨nameF 78, of_decide_eq_true (by kernel_rfl), Tryd.func78.trans (by kernel_rfl)⟩
 f15 := Tryd.func73.trans (by kernel_rfl)
 f20 := ⟨nameF 89, of_decide_eq_true (by kernel_rfl), Tryd.func89.trans (by kernel_rfl)⟩
 f21 := ⟨nameF 90, of_decide_eq_true (by kernel_rfl), Tryd.func90.trans (by kernel_rfl)⟩
 f22 := ⟨nameF 91, of_decide_eq_true (by kernel_rfl), Tryd.func91.trans (by kernel_rfl)⟩
 f23 := ⟨nameF 92, of_decide_eq_true (by kernel_rfl), Tryd.func92.trans (by kernel_rfl)⟩
 f24 := ⟨nameF 93, of_decide_eq_true (by kernel_rfl), Tryd.func93.trans (by kernel_rfl)⟩
 f25 := ⟨nameF 94, of_decide_eq_true (by kernel_rfl), Tryd.func94.trans (by kernel_rfl)⟩
 f26 := ⟨nameF 95, of_decide_eq_true (by kernel_rfl), Tryd.func95.trans (by kernel_rfl)⟩
 f27 := ⟨nameF 96, of_decide_eq_true (by kernel_rfl), Tryd.func96.trans (by kernel_rfl)⟩
 f28 := Tryd.func87.trans (by kernel_rfl)
 f29 := Tryd.func88.trans (by kernel_rfl)
 f46 := ⟨nameF 102, of_decide_eq_true (by kernel_rfl), Tryd.func102.trans (by kernel_rfl)⟩
 f47 := Tryd.func98.trans (by kernel_rfl)
 f48 := Tryd.func99.trans (by kernel_rfl)
 f49 := ⟨nameF 103, of_decide_eq_true (by kernel_rfl), Tryd.func103.trans (by kernel_rfl)⟩
 f50 := ⟨nameF 104, of_decide_eq_true (by kernel_rfl), Tryd.func104.trans (by kernel_rfl)⟩
 f57 := ⟨nameF 106, of_decide_eq_true (by kernel_rfl), Tryd.func106.trans (by kernel_rfl)⟩
 t0 := Tryd.underlying0
 a0 := Tryd.isAgg0
 z0 := Tryd.sizeOf0
 v0 := Tryd.zeroValue0
 t3 := Tryd.underlying3
 a3 := Tryd.isAgg3
 z3 := Tryd.sizeOf3
 v3 := Tryd.zeroValue3
 t4 := Tryd.underlying4
 a4 := Tryd.isAgg4
 z4 := Tryd.sizeOf4
 v4 := Tryd.zeroValue4
 t5 := Tryd.underlying5
 a5 := Tryd.isAgg5
 z5 := Tryd.sizeOf5
 v5 := Tryd.zeroValue5
 t9 := Tryd.underlying9
 a9 := Tryd.isAgg9
 z9 := Tryd.sizeOf9
 v9 := Tryd.zeroValue9
 t22 := Tryd.underlying72
 a22 := Tryd.isAgg72
 z22 := Tryd.sizeOf72
 v22 := Tryd.zeroValue72
 a24 := Tryd.isAgg53
 z24 := Tryd.sizeOf53
 t25 := Tryd.underlying92
 a25 := Tryd.isAgg92
 z25 := Tryd.sizeOf92
 v25 := Tryd.zeroValue92
 t39 := Tryd.underlying110
 a39 := Tryd.isAgg110
 z39 := Tryd.sizeOf110
 v39 := Tryd.zeroValue110
 t45 := Tryd.underlying117
 a45 := Tryd.isAgg117
 z45 := Tryd.sizeOf117
 v45 := Tryd.zeroValue117
 t46 := Tryd.underlying118
 a46 := Tryd.isAgg118
 z46 := Tryd.sizeOf118
 v46 := Tryd.zeroValue118
 t50 := Tryd.underlying122
 a50 := Tryd.isAgg122
 z50 := Tryd.sizeOf122
 v50 := Tryd.zeroValue122
 t53 := Tryd.underlying113
 a53 := Tryd.isAgg113
 z53 := Tryd.sizeOf113
 v53 := Tryd.zeroValue113
 t55 := Tryd.underlying126
 a55 := Tryd.isAgg126
 z55 := Tryd.sizeOf126
 v55 := Tryd.zeroValue126
 t66 := Tryd.underlying132
 a66 := Tryd.isAgg132
 z66 := Tryd.sizeOf132
 v66 := Tryd.zeroValue132
 t70 := Tryd.underlying136
 a70 := Tryd.isAgg136
 z70 := Tryd.sizeOf136
 v70 := Tryd.zeroValue136
 t76 := Tryd.underlying140
 a76 := Tryd.isAgg140
 z76 := Tryd.sizeOf140
 v76 := Tryd.zeroValue140
 t77 := Tryd.underlying33
 a77 := Tryd.isAgg33
 z77 := Tryd.sizeOf33
 v77 := Tryd.zeroValue33
end Go.Proofs
namespace Go.Proofs
open Go Go.Ev Go.Shelf Go.Lib Go.Sort
instance : Inhabited K16 := ⟨⟨0, by decide⟩⟩
def encK (x : K16) : Value := .int .u16 x.1
def cfK (x y : K16) : Int := m_cf x.1 y.1
theorem cf_calls (r : Mem) (x y : K16) : GrT Tryd.prog r 49 [encK x, encK y] (I (cfK x y)) := by
 refine GrT.of (SC_ok r) (tCf_ok r) .nil rfl ⟨4, 3, (keF r x.1 y.1).trans ?_⟩
 obtain ⟨x, h1, h2⟩ := x
 obtain ⟨y, h3, h4⟩ := y
 simp only [dT h1, dT h2, dT h3, dT h4, Bool.and_self, cond_true]
 unfold cfK m_cf
 simp only
 rw [show (Int.ofNat 0 : Int) = 0 from rfl]
 cases m_cp (m_sz x) (m_sz y) != 0
 ·simp only [cond_false]
  cases h : m_cp x y != 0
  ·simp only [cond_false]
   have : m_cp x y = 0 := by simpa using h
   rw [this]
   rfl
  ·rfl
 ·rfl
theorem cp_neg (x y : Int) : m_cp x y < 0 ↔ x < y := by
 unfold m_cp
 by_cases h : x < y
 ·simp [h]
 ·by_cases h2 : x > y <;> simp [h, h2]
theorem cp_zero (x y : Int) : (m_cp x y != 0) = false ↔ x = y := by
 unfold m_cp
 by_cases h : x < y
 ·simp [h]; omega
 ·by_cases h2 : x > y
  ·simp [h, h2]; omega
  ·simp [h, h2]; omega
theorem ltK (x y : K16) : ltOf cfK x y = decide (m_sz x.1 < m_sz y.1 ∨ (m_sz x.1 = m_sz y.1 ∧ x.1 < y.1)) := by
 unfold ltOf cfK m_cf
 cases h : m_cp (m_sz x.1) (m_sz y.1) != 0
 ·have := (cp_zero _ _).1 h
  simp only [cond_false, cp_neg, this]
  simp
 ·have : m_sz x.1 ≠ m_sz y.1 := fun e => by rw [(cp_zero _ _).2 e] at h; cases h
  simp only [cond_true, cp_neg]
  simp [this]
theorem swoK : SWO (ltOf cfK) where
 irrefl x := by rw [ltK]; simp
 trans x y z h1 h2 := by rw [ltK] at *; simp only [decide_eq_true_eq] at *; omega
 ntrans x y z h1 h2 := by rw [ltK] at *; simp only [decide_eq_false_iff_not] at *; omega
theorem totK (x y : K16) (h1 : ltOf cfK x y = false) (h2 : ltOf cfK y x = false) : x = y := by
 rw [ltK] at *
 simp only [decide_eq_false_iff_not] at *
 apply Subtype.ext
 omega
def insZ (x : Int) : List Int → List Int
 | [] => [x]
 | y :: l => bif decide (m_cf x y < 0) then x :: y :: l else y :: insZ x l
def sortZ : List Int → List Int
 | [] => []
 | x :: l => insZ x (sortZ l)
def insK (x : K16) : List K16 → List K16
 | [] => [x]
 | y :: l => bif ltOf cfK x y then x :: y :: l else y :: insK x l
def sortK : List K16 → List K16
 | [] => []
 | x :: l => insK x (sortK l)
theorem insK_val (x : K16) (l : List K16) : (insK x l).map (·.1) = insZ x.1 (l.map (·.1)) := by
 induction l with
 | nil => rfl
 | cons y l ih =>
  simp only [insK, List.map_cons, insZ]
  rw [show decide (m_cf x.1 y.1 < 0) = ltOf cfK x y from rfl]
  cases ltOf cfK x y
  ·simp only [cond_false, List.map_cons, ih]
  ·rfl
theorem sortK_val (l : List K16) : (sortK l).map (·.1) = sortZ (l.map (·.1)) := by
 induction l with
 | nil => rfl
 | cons x l ih => simp only [sortK, List.map_cons, sortZ, insK_val, ih]
theorem insK_perm (x : K16) (l : List K16) : (insK x l).Perm (x :: l) := by
 induction l with
 | nil => exact .refl _
 | cons y l ih =>
  simp only [insK]
  cases ltOf cfK x y
  ·exact (List.Perm.cons y ih).trans (.swap ..)
  ·exact .refl _
theorem sortK_perm (l : List K16) : (sortK l).Perm l := by
 induction l with
 | nil => exact .refl _
 | cons x l ih => exact (insK_perm x _).trans (.cons x ih)
theorem insK_sorted (x : K16) {l : List K16} (h : l.Pairwise fun a b => ltOf cfK b a = false) : (insK x l).Pairwise fun a b => ltOf cfK b a = false := by
 induction l with
 | nil => simp [insK]
 | cons y l ih =>
  simp only [insK]
  rw [List.pairwise_cons] at h
  cases hc : ltOf cfK x y with
  | true =>
   simp only [cond_true]
   have hyx : ltOf cfK y x = false := by
    rw [ltK] at *
    simp only [decide_eq_true_eq, decide_eq_false_iff_not] at *
    omega
   refine List.pairwise_cons.2 ⟨fun b hb => ?_, List.pairwise_cons.2 h⟩
   rcases List.mem_cons.1 hb with rfl | hb
   ·exact hyx
   ·have := h.1 b hb
    rw [ltK] at *
    simp only [decide_eq_true_eq, decide_eq_false_iff_not] at *
    omega
  | false =>
   simp only [cond_false]
   refine List.pairwise_cons.2 ⟨fun b hb => ?_, ih h.2⟩
   rcases List.mem_cons.1 ((insK_perm x l).mem_iff.1 hb) with rfl | hb
   ·exact hc
   ·exact h.1 b hb
theorem sortK_sorted (l : List K16) : (sortK l).Pairwise fun a b => ltOf cfK b a = false := by
 induction l with
 | nil => exact .nil
 | cons x l ih => exact insK_sorted x ih
theorem sortK_one {d l : List K16} (hp : d.Perm l) (hs : d.Pairwise fun a b => ltOf cfK b a = false) : d = sortK l :=
 (hp.trans (sortK_perm l).symm).eq_of_pairwise (fun a b _ _ h1 h2 => totK a b h2 h1) hs (sortK_sorted l)
theorem sort_entry (r : Mem) {A0 : AW} {i : Nat} {e : TypeId} {fam z : Nat} {zs l : List K16} (hi : A0.heap.get i = some (.cells (zs.map encK) e fam z)) (hsz : zs.length < 1000000) (hl : zs.Perm l) :
  EOk (SC r) 67 (entAt [.slice (some ⟨i, 0, none⟩) zs.length unk, cmpV] A0 (.tuple ⟨[]⟩) (A0.only fam i (.cells ((sortK l).map encK) e fam z))) := by
 refine entAt_ok fun F hF k γ W args' hw hR ha => ?_
 exact sort_gen Tryd.sortK encK (fun _ => rfl) (fun _ => rfl) 49 cfK swoK (fun args w => callFunc_ok (SC_ok r) (by kernel_rfl) args w) (cf_calls _) (C := SC r) rfl hi (by omega) (by decide) (fun d hp hs => sortK_one (hp.trans hl) hs) F hF k γ W args' hw hR ha
theorem rowK_enc (vis : List KT) : rowK vis = (vis.map (·.1)).map encK := by simp [rowK, encK]
theorem sorted_S {r : Mem} {e z clock : Nat} {q : List KT} (hq : KOk q clock) (hne : q ≠ []) : SOk (SC r) 47 [seqV, cmpV] (AK0 e z clock (q.map mkE)) fun v A' => v = .slice (some ⟨2, 0, none⟩) q.length unk ∧ A' = AR e z clock (q.map mkE) ((sortK (q.map (·.1))).map encK) := by
 obtain ⟨fn, h1, h2, h3, h4⟩ := fn_of (C := SC r) (f := 47) (by kernel_rfl)
 have hn : fn.ntmps = 12 := h3.trans (by kernel_rfl)
 rw [bodySC] at h2
 refine call_reachS (SC_ok r) h1 h2 51 (by rw [hn]; rfl) fun γ W F k hw hF hro => ?_
 rw [hn, h4]
 show Go.Ev.Reach (SC r) 51 12 F k γ W cSf _ _
 rw [show cSf = Code.seq (lc cSf) (.seq (lc (rc cSf)) (rc (rc cSf))) from by kernel_rfl]
 refine Go.Ev.Reach.seq (Go.Ev.Reach.seg (SC_ok r) TOk.nil (tm := .nil) (L := 1) (L' := 1) (d := 1) hF hro ((kdA ..).trans (qn_ok ?_)))
 refine Go.Ev.Reach.seq (Go.Ev.Reach.callP (SC_ok r) hF TOk.nil (tm := .nil) (L := 0) (d := 0) 1 ((kdB ..).trans (qn_ok rfl)) (kdJ ..) (collect_S (e := e) (z := z) hq hne) fun v A' ⟨vis, hv, h1, h2⟩ => ?_)
 subst h1 h2
 refine (kdC ..).trans (qn_ok ?_)
 have hlen : vis.length = q.length := hv.length_eq
 have hent := sort_entry r (A0 := AR e z clock (q.map mkE) (rowK vis)) (i := 2) (e := 53) (fam := 2) (z := 1) (zs := vis.map (·.1)) (l := q.map (·.1)) (by rw [← rowK_enc]; kernel_rfl) (by rw [List.length_map, hlen]; exact hq.few) (hv.map _)
 rw [List.length_map] at hent
 have hA1 : (AR e z clock (q.map mkE) (rowK vis)).only 2 2 (.cells ((sortK (q.map (·.1))).map encK) 53 2 1) = AR e z clock (q.map mkE) ((sortK (q.map (·.1))).map encK) := by kernel_rfl
 refine Go.Ev.Reach.seg (SC_ok r) (t := tSo vis.length (AR e z clock (q.map mkE) (rowK vis)) (AR e z clock (q.map mkE) ((sortK (q.map (·.1))).map encK))) (TOk.nil.cons (hA1 ▸ hent)) (tm := .nil) (L := 1) (L' := 1) (d := 1) hF hro ((kdD ..).trans ?_)
 rw [at_rfl, cond_true]
 refine qn_ok ⟨.inr rfl, _, slV vis.length, _, Ren.refl _, ?_, by rw [hlen], rfl⟩
 rw [← finK_finish]
 exact kdE ..
end Go.Proofs
namespace Go.Proofs
open Go Go.Ev
def sfArgs (args : List Value) (A : AW) : Option (List MapEntry × Nat) := match args with
 | [.func (.func f) ⟨[]⟩ ⟨[.pointer (some ⟨b, 0, none⟩)]⟩, .func (.func g) ⟨[]⟩ ⟨[]⟩] => match Nat.beq f 68 && Nat.beq g 49, A.heap.get b with
  | true, some (.cells [.map (some m)] _ fam _) => match A.members fam with
   | [b'] => match Nat.beq b' b, A.heap.get m with
    | true, some (.map es clock) => some (es, clock)
    | _, _ => none
   | _ => none
  | _, _ => none
 | _ => none
def keyZ (e : MapEntry) : Int := match e.key with
 | .int .u16 x => x
 | _ => 0
def okE (clock : Nat) (e : MapEntry) : Bool := match e.key, e.val with
 | .int .u16 x, .bool _ => decide (0 ≤ x) && decide (x < 65536) && Nat.blt e.born clock
 | _, _ => false
def freshB (n : Nat) : List MapEntry → Bool
 | [] => true
 | e :: l => (!Nat.beq e.born n) && freshB n l
def okEs (clock : Nat) : List MapEntry → Bool
 | [] => true
 | e :: l => okE clock e && freshB e.born l && okEs clock l
theorem okE_of {clock : Nat} {e : MapEntry} (h : okE clock e = true) : ∃ t : KT, e = mkE t ∧ t.2.2 < clock := by
 obtain ⟨k, v, n⟩ := e
 unfold okE at h
 split at h
 ·rename_i x b h1 h2
  simp only [Bool.and_eq_true, decide_eq_true_eq] at h
  simp only at h1 h2
  subst h1 h2
  exact ⟨(⟨x, h.1.1, h.1.2⟩, b, n), rfl, Nat.le_of_ble_eq_true h.2⟩
 ·cases h
theorem okEs_of {clock : Nat} : ∀ {es : List MapEntry}, okEs clock es = true → ∃ q : List KT, es = q.map mkE ∧ (∀ t ∈ q, t.2.2 < clock) ∧ (bornK q).Nodup
 | [], _ => ⟨[], rfl, fun _ h => (nomatch h), .nil⟩
 | e :: l, h => by
  simp only [okEs, Bool.and_eq_true] at h
  obtain ⟨⟨h1, h2⟩, h3⟩ := h
  obtain ⟨t, rfl, ht⟩ := okE_of h1
  obtain ⟨q, rfl, hq1, hq2⟩ := okEs_of h3
  refine ⟨t :: q, rfl, fun x hx => ?_, ?_⟩
  ·rcases List.mem_cons.1 hx with rfl | hx
   ·exact ht
   ·exact hq1 x hx
  ·unfold bornK at *
   rw [List.map_cons, List.nodup_cons]
   refine ⟨fun hm => ?_, hq2⟩
   obtain ⟨x, hx, hxe⟩ := List.mem_map.1 hm
   have key : ∀ (l : List KT), freshB t.2.2 (l.map mkE) = true → ∀ x ∈ l, x.2.2 ≠ t.2.2 := by
    intro l
    induction l with
    | nil => intro _ x hx; cases hx
    | cons y l ih =>
     intro h x hx
     simp only [List.map_cons, freshB, Bool.and_eq_true] at h
     rcases List.mem_cons.1 hx with rfl | hx
     ·intro he
      have h1 := h.1
      rw [show (mkE x).born = x.2.2 from rfl, he, show Nat.beq t.2.2 t.2.2 = true from Nat.beq_refl _] at h1
      cases h1
     ·exact ih h.2 x hx
   exact key q h2 x hx hxe
def emptyL : List MapEntry → Bool
 | [] => true
 | _ => false
def eSF : Ent := ⟨fun args A => match sfArgs args A with
  | some (es, clock) => !emptyL es && Nat.blt es.length 1000000 && okEs clock es
  | none => false, fun _ _ => true,
 fun args A => match sfArgs args A with
  | some (es, _) => .slice (some ⟨A.next, 0, none⟩) es.length unk
  | none => undef,
 fun args A => match sfArgs args A with
  | some (es, _) => A.new (.cells ((sortZ (es.map keyZ)).map fun x => .int .u16 x) 53 A.next 1)
  | none => A, fun _ _ => undef, fun _ A => A⟩
theorem eSF_ok (r : Mem) : EOk (SC r) 47 eSF := fun args A hg F hF k γ W args' hw hR ha => by
 refine ⟨fun _ => ?_, fun h => nomatch h⟩
 simp only [eSF] at hg ⊢
 cases hs : sfArgs args A with
 | none => rw [hs] at hg; cases hg
 | some p =>
  obtain ⟨es, clock⟩ := p
  rw [hs] at hg
  simp only [Bool.and_eq_true] at hg ⊢
  obtain ⟨⟨hne, hfew⟩, hok⟩ := hg
  obtain ⟨q, rfl, hq1, hq2⟩ := okEs_of hok
  have hfew' : q.length < 1000000 := by
   have := Nat.le_of_ble_eq_true hfew
   simp at this
   omega
  have hqn : q ≠ [] := fun h => by subst h; cases hne
  unfold sfArgs at hs
  split at hs
  ·rename_i f b g
   split at hs
   ·rename_i m e fam z hfg hbx
    split at hs
    ·rename_i b' hmem
     split at hs
     ·rename_i es' clock' hbb hmm
      cases hs
      simp only [Bool.and_eq_true] at hfg
      have e1 := Nat.eq_of_beq_eq_true hfg.1
      have e2 := Nat.eq_of_beq_eq_true hfg.2
      have e3 := Nat.eq_of_beq_eq_true hbb
      subst e1 e2 e3
      have hsorted := sorted_S (r := r) (e := e) (z := z) ⟨hq1, hq2, hfew'⟩ hqn
      have hks : ((sortZ ((q.map mkE).map keyZ)).map fun x => Value.int .u16 x) = (sortK (q.map (·.1))).map encK := by
       have h1 : (q.map mkE).map keyZ = (q.map (·.1)).map (·.1) := by simp [mkE, keyZ]
       rw [h1, ← sortK_val, List.map_map]
       rfl
      have hgs := ksG q
      have hw2 := WRel.pair hw hbx hmm hgs
      have hcall := hsorted F hF k (g2 γ b' m) W args' hw2 (Ro.pair hR b' m) ?_
      ·refine hcall.mono fun x W' ⟨v, A', hS, he⟩ => ?_
       obtain ⟨rfl, rfl⟩ := hS
       rw [hks, List.length_map]
       exact Ends.pair hw hbx hmm hmem hgs (fun v hv => by obtain ⟨y, _, rfl⟩ := List.mem_map.1 hv; rfl) rfl rfl rfl he
      ·obtain ⟨la⟩ := args'
       cases ha with
       | cons h1 h2 =>
       cases h2 with
       | cons h2 h3 =>
       cases h3
       refine .cons ?_ (.cons ?_ .nil)
       ·cases h1 with
        | func p1 p2 p3 =>
         rename_i f' a' c'
         obtain ⟨a'⟩ := a'
         obtain ⟨c'⟩ := c'
         cases p1
         cases p2
         cases p3 with
         | cons k1 k2 =>
          cases k2
          cases k1 with
          | ptr k hg1 => exact .func (.func _) .nil (.cons (.ptr _ (show g2 γ b' m 0 = _ from hg1)) .nil)
       ·cases h2 with
        | func p1 p2 p3 =>
         rename_i f' a' c'
         obtain ⟨a'⟩ := a'
         obtain ⟨c'⟩ := c'
         cases p1
         cases p2
         cases p3
         exact .func (.func _) .nil .nil
     ·cases hs
    ·cases hs
   ·cases hs
  ·cases hs
end Go.Proofs
namespace Go.Proofs
open Go Go.Ev Go.Num
def szK (s : Nat) : Nat → Nat
 | 0 => 0
 | k + 1 => szK s k + s / 2 ^ k % 2
def szN (s : Nat) : Nat := szK s 12
theorem sz_all : ∀ (h : Fin 16) (l : Fin 256), ones 8 h.val + ones 8 l.val = szN (256 * h.val + l.val) := by decide +kernel
theorem msz_eq {s : Nat} (h : s < 4096) : m_sz (s : Int) = (szN s : Int) := by
 have h1 := sz_all ⟨s / 256, by omega⟩ ⟨s % 256, by omega⟩
 simp only at h1
 rw [show 256 * (s / 256) + s % 256 = s by omega] at h1
 unfold m_sz
 rw [Int.toNat_natCast, h1]
 rfl
def ltS (a b : Nat) : Bool := decide (szN a < szN b ∨ (szN a = szN b ∧ a < b))
theorem ltS_irr (a : Nat) : ltS a a = false := by unfold ltS; simp
theorem ltS_tr {a b c : Nat} (h1 : ltS a b = true) (h2 : ltS b c = true) : ltS a c = true := by
 unfold ltS at *
 simp only [decide_eq_true_eq] at *
 omega
theorem ltS_tot {a b : Nat} (h1 : ltS a b = false) (h2 : ltS b a = false) : a = b := by
 unfold ltS at *
 simp only [decide_eq_false_iff_not] at *
 omega
theorem ltS_as {a b : Nat} (h1 : ltS a b = true) : ltS b a = false := by
 unfold ltS at *
 simp only [decide_eq_false_iff_not, decide_eq_true_eq] at *
 omega
def insU (s : Nat) : List Nat → List Nat
 | [] => [s]
 | y :: l => bif ltS y s then y :: insU s l else bif Nat.beq y s then y :: l else s :: y :: l
theorem insU_mem {s x : Nat} : ∀ {l : List Nat}, x ∈ insU s l ↔ x = s ∨ x ∈ l
 | [] => by simp [insU]
 | y :: l => by
  have ih := insU_mem (s := s) (x := x) (l := l)
  rw [insU]
  cases h : ltS y s with
  | true => simp only [cond_true, List.mem_cons, ih]; exact ⟨fun h => by rcases h with h | h | h <;> simp [h], fun h => by rcases h with h | h | h <;> simp [h]⟩
  | false =>
   cases h2 : Nat.beq y s with
   | true =>
    have := Nat.eq_of_beq_eq_true h2
    subst this
    simp
   | false => simp
theorem insU_sorted {s : Nat} : ∀ {l : List Nat}, (l.Pairwise fun a b => ltS a b = true) → (insU s l).Pairwise fun a b => ltS a b = true
 | [], _ => by simp [insU]
 | y :: l, h => by
  rw [List.pairwise_cons] at h
  rw [insU]
  cases c : ltS y s with
  | true =>
   simp only [cond_true]
   refine List.pairwise_cons.2 ⟨fun b hb => ?_, insU_sorted h.2⟩
   rcases insU_mem.1 hb with rfl | hb
   ·exact c
   ·exact h.1 b hb
  | false =>
   cases c2 : Nat.beq y s with
   | true => exact List.pairwise_cons.2 h
   | false =>
    have hne : y ≠ s := fun e => by rw [e, Nat.beq_refl] at c2; cases c2
    have hsy : ltS s y = true := by
     cases q : ltS s y with
     | true => rfl
     | false => exact absurd (ltS_tot c q) hne
    refine List.pairwise_cons.2 ⟨fun b hb => ?_, List.pairwise_cons.2 h⟩
    rcases List.mem_cons.1 hb with rfl | hb
    ·exact hsy
    ·exact ltS_tr hsy (h.1 b hb)
def rsN (w : Nat → Nat) : Nat → List Nat
 | 0 => []
 | k + 1 => insU (w k) (rsN w k)
theorem rsN_mem {w : Nat → Nat} {x : Nat} : ∀ {n : Nat}, x ∈ rsN w n ↔ ∃ k, k < n ∧ w k = x
 | 0 => ⟨fun h => (nomatch h), fun ⟨_, h, _⟩ => absurd h (by omega)⟩
 | n + 1 => by
  rw [rsN, insU_mem, rsN_mem (n := n)]
  exact ⟨fun h => by
   rcases h with rfl | ⟨k, h1, h2⟩
   ·exact ⟨n, by omega, rfl⟩
   ·exact ⟨k, by omega, h2⟩, fun ⟨k, h1, h2⟩ => by
   by_cases c : k = n
   ·subst c; exact .inl h2.symm
   ·exact .inr ⟨k, by omega, h2⟩⟩
theorem rsN_sorted (w : Nat → Nat) : ∀ n, (rsN w n).Pairwise fun a b => ltS a b = true
 | 0 => .nil
 | n + 1 => insU_sorted (rsN_sorted w n)
theorem rsN_nodup (w : Nat → Nat) (n : Nat) : (rsN w n).Nodup :=
 (rsN_sorted w n).imp fun {a b} h e => by subst e; rw [ltS_irr] at h; cases h
def seL (w : Nat → Nat) : Nat → List Nat
 | 0 => []
 | k + 1 => bif (seL w k).contains (w k) then seL w k else seL w k ++ [w k]
theorem seL_mem {w : Nat → Nat} {x : Nat} : ∀ {n : Nat}, x ∈ seL w n ↔ ∃ k, k < n ∧ w k = x
 | 0 => ⟨fun h => (nomatch h), fun ⟨_, h, _⟩ => absurd h (by omega)⟩
 | n + 1 => by
  have ih := seL_mem (w := w) (x := x) (n := n)
  have step : x ∈ seL w (n + 1) ↔ x ∈ seL w n ∨ x = w n := by
   rw [seL]
   cases c : (seL w n).contains (w n) with
   | true =>
    have hm : w n ∈ seL w n := by simpa using c
    exact ⟨.inl, fun h => h.elim id fun e => e ▸ hm⟩
   | false => simp
  rw [step, ih]
  exact ⟨fun h => by
   rcases h with ⟨k, h1, h2⟩ | rfl
   ·exact ⟨k, by omega, h2⟩
   ·exact ⟨n, by omega, rfl⟩, fun ⟨k, h1, h2⟩ => by
   by_cases c : k = n
   ·subst c; exact .inr h2.symm
   ·exact .inl ⟨k, by omega, h2⟩⟩
theorem seL_nodup (w : Nat → Nat) : ∀ n, (seL w n).Nodup
 | 0 => .nil
 | n + 1 => by
  rw [seL]
  cases c : (seL w n).contains (w n) with
  | true => exact seL_nodup w n
  | false =>
   have hm : ¬ w n ∈ seL w n := fun h => by simp [h] at c
   exact List.nodup_append.2 ⟨seL_nodup w n, by simp, fun a ha b hb => by
    rw [List.mem_singleton] at hb
    subst hb
    exact fun e => hm (e ▸ ha)⟩
theorem seL_len (w : Nat → Nat) : ∀ n, (seL w n).length ≤ n
 | 0 => Nat.le_refl _
 | n + 1 => by
  have := seL_len w n
  rw [seL]
  cases (seL w n).contains (w n) <;> simp <;> omega
theorem rs_perm (w : Nat → Nat) (n : Nat) : (rsN w n).Perm (seL w n) :=
 (List.perm_ext_iff_of_nodup (rsN_nodup w n) (seL_nodup w n)).2 fun a => by rw [rsN_mem, seL_mem]
def toK (x : Nat) : K16 := if h : x < 65536 then ⟨(x : Int), by omega, by omega⟩ else ⟨0, by decide⟩
theorem toK_val {x : Nat} (h : x < 65536) : (toK x).1 = (x : Int) := by unfold toK; rw [dif_pos h]
theorem rs_sort {w : Nat → Nat} (hw : ∀ j, w j < 4096) (n : Nat) : sortZ ((seL w n).map fun x : Nat => (x : Int)) = (rsN w n).map fun x : Nat => (x : Int) := by
 have hv : ∀ l : List Nat, (∀ x ∈ l, x < 65536) → (l.map toK).map (·.1) = l.map fun x : Nat => (x : Int) := fun l h => by
  rw [List.map_map]
  exact List.map_congr_left fun x hx => toK_val (h x hx)
 have h1 : ∀ x ∈ seL w n, x < 4096 := fun x hx => by obtain ⟨k, _, rfl⟩ := seL_mem.1 hx; exact hw k
 have h2 : ∀ x ∈ rsN w n, x < 4096 := fun x hx => by obtain ⟨k, _, rfl⟩ := rsN_mem.1 hx; exact hw k
 rw [← hv _ fun x hx => by have := h1 x hx; omega, ← sortK_val, ← hv _ fun x hx => by have := h2 x hx; omega]
 refine congrArg _ (sortK_one ((rs_perm w n).map toK) ?_).symm
 rw [List.pairwise_map]
 have h0 : ∀ {a b : Nat}, [a, b].Sublist (rsN w n) → ltS a b = true := fun h => List.pairwise_iff_forall_sublist.1 (rsN_sorted w n) h
 refine List.pairwise_iff_forall_sublist.2 fun {a b} hab => ?_
 have hl := h0 hab
 have ha := h2 a (hab.subset (by simp))
 have hb := h2 b (hab.subset (by simp))
 rw [ltK, toK_val (by omega), toK_val (by omega), msz_eq ha, msz_eq hb]
 have h3 := ltS_as hl
 unfold ltS at h3
 simp only [decide_eq_false_iff_not] at h3 ⊢
 omega
end Go.Proofs
namespace Go.Proofs
open Go Go.Ev
def enT : List Nat → Nat → List MapEntry
 | [], _ => []
 | x :: l, b => { key := .int .u16 (x : Int), val := .bool true, born := b } :: enT l (b + 1)
theorem enT_len : ∀ (l : List Nat) (b : Nat), (enT l b).length = l.length
 | [], _ => rfl
 | _ :: l, b => by simp [enT, enT_len l]
theorem enT_app (z : Nat) : ∀ (l : List Nat) (b : Nat), enT (l ++ [z]) b = enT l b ++ [{ key := .int .u16 (z : Int), val := .bool true, born := b + l.length }]
 | [], b => by simp [enT]
 | x :: l, b => by
  simp only [List.cons_append, enT, enT_app z l (b + 1), List.length_cons]
  rw [show b + 1 + l.length = b + (l.length + 1) by omega]
theorem enT_keys : ∀ (l : List Nat) (b : Nat), keysG (enT l b) = true
 | [], _ => rfl
 | x :: l, b => by
  simp only [enT, keysG, show gnd (Value.int .u16 (x : Int)) = true from rfl, enT_keys l]
theorem enT_gnd : ∀ (l : List Nat) (b : Nat), m_gndes (enT l b) = true
 | [], _ => rfl
 | x :: l, b => by
  have ih := enT_gnd l (b + 1)
  unfold m_gndes at ih ⊢
  simp only [enT, List.all_cons, ih, show gnd (Value.int .u16 (x : Int)) = true from rfl, show gnd (Value.bool true) = true from rfl, Bool.and_self]
theorem enT_get : ∀ (l : List Nat) (b i : Nat) (h : i < l.length), (enT l b)[i]? = some { key := .int .u16 (l[i] : Nat), val := .bool true, born := b + i }
 | x :: l, b, 0, _ => rfl
 | x :: l, b, i + 1, h => by
  have := enT_get l (b + 1) i (by simpa using h)
  simp only [enT, List.getElem?_cons_succ, this, List.getElem_cons_succ]
  rw [show b + 1 + i = b + (i + 1) by omega]
theorem find_en (z : Nat) : ∀ (l : List Nat) (b i : Nat), Instr.findNow (.int .u16) (.int .u16 (z : Int)) (enT l b) i = some (bif l.contains z then some (i + l.idxOf z, .bool true) else none)
 | [], _, _ => rfl
 | x :: l, b, i => by
  have ih := find_en z l (b + 1) (i + 1)
  simp only [enT, Instr.findNow, Instr.sameNow, if_true]
  by_cases c : z = x
  ·subst c
   simp
  ·have h1 : ((z : Int) == (x : Int)) = false := eqF (by omega)
   have h2 : (x == z) = false := by simpa using fun e : x = z => c e.symm
   have h3 : (z == x) = false := by simpa using c
   simp only [h1, ih, List.contains_cons, h3, Bool.false_or, List.idxOf_cons, h2, cond_false]
   rw [show i + 1 + l.idxOf z = i + (l.idxOf z + 1) by omega]
theorem check_int {P : Program} {kt : Nat} (hU : plain? P (underlying kt) = some (.int .u16)) (em : Bool) (n : Nat) (z : Int) : plain? P (Instr.checkKey em (n + 1) kt (.int .u16 z)) = some () := by
 simp only [Instr.checkKey, plain_bind, hU, Option.bind_some, plain_pure]
theorem mapR_en {P : Program} {kt : Nat} (hU : plain? P (underlying kt) = some (.int .u16)) (em : Bool) (l : List Nat) (z : Nat) : mapR P em kt (enT l 0) (.int .u16 (z : Int)) = some (bif l.contains z then some (l.idxOf z, .bool true) else none) := by
 have h1 := check_int hU em 9999 (z : Int)
 have h2 : plain? P (Instr.findKey kt (.int .u16 (z : Int)) (enT l 0)) = some (bif l.contains z then some (l.idxOf z, .bool true) else none) := by
  simp only [Instr.findKey, plain_bind, hU, Option.bind_some, find_en, plain_pure, Nat.zero_add]
 unfold mapR
 simp only [enT_keys, show gnd (Value.int .u16 (z : Int)) = true from rfl, h2]
 rw [show Instr.checkKey em 10000 kt (.int .u16 (z : Int)) = Instr.checkKey em (9999 + 1) kt (.int .u16 (z : Int)) from rfl, h1]
theorem idx_lt {l : List Nat} {z : Nat} (h : l.contains z = true) : ∃ h : l.idxOf z < l.length, l[l.idxOf z] = z := by
 have hm : z ∈ l := by simpa using h
 exact ⟨List.idxOf_lt_length_of_mem hm, List.getElem_idxOf _⟩
theorem putG_en {P : Program} {kt : Nat} (hU : plain? P (underlying kt) = some (.int .u16)) (l : List Nat) (z : Nat) : m_putG P kt (enT l 0) (.int .u16 (z : Int)) = true := by
 unfold m_putG
 rw [mapR_en hU]
 cases h : l.contains z with
 | true =>
  obtain ⟨h1, h2⟩ := idx_lt h
  simp only [cond_true]
  rw [enT_get l 0 _ h1]
  simp only [h2]
  simp [Instr.sameBits]
 | false => rfl
theorem setE_en : ∀ (l : List Nat) (b i : Nat) (h : i < l.length), setE (.int .u16 (l[i] : Nat)) (.bool true) (enT l b) i = enT l b
 | x :: l, b, 0, _ => rfl
 | x :: l, b, i + 1, h => by
  have := setE_en l (b + 1) i (by simpa using h)
  unfold setE at this ⊢
  simp only [enT, List.modify_succ_cons, List.getElem_cons_succ, this]
theorem put_en {P : Program} {kt : Nat} (hU : plain? P (underlying kt) = some (.int .u16)) (l : List Nat) (z : Nat) : m_put P kt (enT l 0) (.int .u16 (z : Int)) (.bool true) l.length = enT (bif l.contains z then l else l ++ [z]) 0 := by
 unfold m_put
 rw [mapR_en hU]
 cases h : l.contains z with
 | true =>
  obtain ⟨h1, h2⟩ := idx_lt h
  simp only [cond_true]
  have := setE_en l 0 _ h1
  rw [h2] at this
  exact this
 | false =>
  simp only [cond_false]
  rw [enT_app, Nat.zero_add]
theorem clk_en {P : Program} {kt : Nat} (hU : plain? P (underlying kt) = some (.int .u16)) (l : List Nat) (z : Nat) : m_clk P kt (enT l 0) (.int .u16 (z : Int)) l.length = (bif l.contains z then l else l ++ [z]).length := by
 unfold m_clk
 rw [mapR_en hU]
 cases h : l.contains z with
 | true => rfl
 | false => simp
end Go.Proofs
namespace Go.Proofs
open Go Go.Ev Go.Num
noncomputable def cSt : Code := bodyOf S0 33
noncomputable def St_0 : Code := (lc cSt)
noncomputable def St_1 : Code := (lc (rc cSt))
noncomputable def St_2 : Code := (lc (lc (rc (rc cSt))))
noncomputable def St_3 : Code := (ic (ic (rc (lc (rc (rc cSt))))))
noncomputable def St_4 : Code := (rc (rc (rc cSt)))
theorem St_eq : cSt = (.seq St_0 (.seq St_1 (.seq (.seq St_2 (.block 0 (.loop St_3))) St_4))) := by kernel_rfl
noncomputable def cIs : Code := bodyOf S0 64
noncomputable def Is_0 : Code := (lc cIs)
noncomputable def Is_1 : Code := (lc (lc (rc cIs)))
noncomputable def Is_2 : Code := (ic (ic (rc (lc (rc cIs)))))
noncomputable def Is_3 : Code := (rc (rc cIs))
theorem Is_eq : cIs = (.seq Is_0 (.seq (.seq Is_1 (.block 0 (.loop Is_2))) Is_3)) := by kernel_rfl
noncomputable def cLf : Code := bodyOf S0 44
noncomputable def Lf_0 : Code := (lc cLf)
noncomputable def Lf_1 : Code := (lc (rc cLf))
noncomputable def Lf_2 : Code := (lc (rc (rc cLf)))
noncomputable def Lf_3 : Code := (lc (lc (rc (rc (rc cLf)))))
noncomputable def Lf_4 : Code := (ic (ic (rc (lc (rc (rc (rc cLf)))))))
noncomputable def Lf_5 : Code := (rc (rc (rc (rc cLf))))
theorem Lf_eq : cLf = (.seq Lf_0 (.seq Lf_1 (.seq Lf_2 (.seq (.seq Lf_3 (.block 0 (.loop Lf_4))) Lf_5)))) := by kernel_rfl
def oSs (c : List Value) (i : Nat) : Option AObj := some (.cells c 53 i 1)
def oI1 (c : List Value) (i : Nat) : Option AObj := some (.cells c 3 i 1)
def oMp (es : List MapEntry) (clock : Nat) : Option AObj := some (.map es clock)
def lvSt : List Nat := [1, 3, 7, 8]
def vSt (n k : Nat) : OV := [some (pq 0), some (.map (some 1)), some (I (n : Nat)), some (I (k : Nat))]
noncomputable def m_sfE (l : List Nat) (es : List MapEntry) (clock : Nat) : Bool := @decide (es = enT l 0 ∧ clock = l.length) (Classical.propDecidable _)
noncomputable def eSFs (l : List Nat) (k : Nat) (c : List Value) : Ent := ⟨fun args A => match sfArgs args A with
  | some (es, clock) => m_sfE l es clock
  | none => false, fun _ _ => true, fun _ A => .slice (some ⟨A.next, 0, none⟩) k unk, fun _ A => A.new (.cells c 53 A.next 1), fun _ _ => undef, fun _ A => A⟩
noncomputable def tSs (l : List Nat) (k : Nat) (c : List Value) : Tbl := tcons 47 (eSFs l k c) fun _ => none
abbrev gx (i k : Nat) : Value := .slice (some ⟨i, 0, none⟩) k unk
abbrev gy (i k : Nat) : Value := .slice (some ⟨i, 0, none⟩) k k
def lvIs : List Nat := [0, 1, 7, 8]
def vIs (b off n cap : Nat) (z : Int) (k : Nat) : OV := [some (RS b off n cap), some (V z), some (I (n : Nat)), some (I (k : Nat))]
noncomputable def eNw (a0 : List Value) (e k : Nat) (c : List Value) : Ent := ⟨fun args _ => m_svv args a0, fun _ _ => true, fun _ A => .slice (some ⟨A.next, 0, none⟩) k unk, fun _ A => A.new (.cells c e A.next 1), fun _ _ => undef, fun _ A => A⟩
noncomputable def eNy (a0 : List Value) (e k : Nat) (c : List Value) : Ent := ⟨fun args _ => m_svv args a0, fun _ _ => true, fun _ A => .slice (some ⟨A.next, 0, none⟩) k k, fun _ A => A.new (.cells c e A.next 1), fun _ _ => undef, fun _ A => A⟩
noncomputable def m_ig (k : Nat) (c : List Value) (l z : Nat) (ci : List Value) : Bool := @decide (l = k ∧ z ≠ unkE ∧ ci = c) (Classical.propDecidable _)
def m_xs (L : List Nat) (x : Int) : Int := (L.idxOf x.toNat : Nat)
def m_xi (L : List Nat) (x : Int) : Bool := decide (0 ≤ x) && L.contains x.toNat
noncomputable def eIs (L : List Nat) (c : List Value) : Ent := ent (fun args A => match args with
 | [.slice (some ⟨j, 0, none⟩) l z, .int .u16 x] => match A.heap.get j with
  | some (.cells ci _ _ _) => m_ig L.length c l z ci && m_xi L x
  | _ => false
 | _ => false) fun args _ => match args with
 | [_, .int .u16 x] => I (m_xs L x)
 | _ => undef
noncomputable def tLfA (m : Nat) (w a : Nat → Nat) (k : Nat) (c : List Value) : Tbl := tcons 33 (eNw [.agg ⟨orC m w a⟩] 53 k c) fun _ => none
noncomputable def tLfB (L : List Nat) (c : List Value) : Tbl := tcons 64 (eIs L c) fun _ => none
def lvLf : List Nat := [1, 3, 4, 12, 13]
def vLf (n q k : Nat) : OV := [some (pq 0), some (gx 1 q), some (gy 2 n), some (I (n : Nat)), some (I (k : Nat))]
theorem stA (r : Mem) (m : Nat) (w a : Nat → Nat) (fs : FnsC) (K : KO) (kx : Nat → KS) (kr : KS) : run (SC r) 415 20 1 (.seq St_0 (.seq St_1 St_2)) fs none (rbK 0 lvSt [] K) kx kr (sc0 415 [.agg ⟨orC m w a⟩]) (tr0 415 [.agg ⟨orC m w a⟩]) [] emptyA =
    K [some (pq 0), some (Value.map (some 1)), some (I (Int.ofNat m)), some (I (Int.ofNat 0))] [] [some (.cells (orC m w a) 56 0 0), some (AObj.map [] 0)] := by kernel_rfl
theorem stB (r : Mem) (m : Nat) (w a : Nat → Nat) (k : Nat) (es : List MapEntry) (clock : Nat) (fs : FnsC) (K : KO) (KX : Nat → KO) (kr : KS) : run (SC r) 415 20 1 St_3 fs none (rbK 0 lvSt [] K) (fun j => rbK 0 [3] [] (KX j)) kr [] (bT lvSt (vSt m k) .nil) [] (mkA [oOr (orC m w a) 0, oMp es clock]) =
    bif decide (Int.ofNat k < Int.ofNat m) then bif Nat.blt (Int.toNat (Int.ofNat k)) 12 then Option.casesOn (orC m w a)[Nat.add 1 (Nat.mul (Int.toNat (Int.ofNat k)) 1)]? (.fail 423) fun val => bif isI IntKind.u16 val then bif m_putG (Cfg.P (SC r)) 53 es (.int .u16 (ofI val)) then bif m_nns (orC m w a) && (m_gndes (m_put (Cfg.P (SC r)) 53 es (.int .u16 (ofI val)) (.bool true) clock) && true) then K [some (pq 0), some (Value.map (some 1)), some (I (Int.ofNat m)), some (I (IntKind.wrap .i64 (Int.ofNat k + Int.ofNat 1)))] [] [some (.cells (orC m w a) 56 0 0), some (AObj.map (m_put (Cfg.P (SC r)) 53 es (.int .u16 (ofI val)) (.bool true) clock) (m_clk (Cfg.P (SC r)) 53 es (.int .u16 (ofI val)) clock))] else F4 else F4 else F4 else F4 else bif m_gndes es && true then KX 0 [some (Value.map (some 0))] [] [some (AObj.map es clock)] else F4 := by kernel_rfl
theorem stC (r : Mem) (es : List MapEntry) (clock : Nat) (l : List Nat) (k : Nat) (c : List Value) (K KR : KO) (kx : Nat → KS) : run (SC r) 415 20 1 St_4 (lvlT (SC r) (tSs l k c) .nil 1 3) none (rbK 0 [2] [] K) kx (rbK 0 [2] [] KR) [] (bT [3] [some (.map (some 0))] .nil) [] (mkA [oMp es clock]) =
    bif m_sfE l es clock then bif m_nns c && true then KR [some (gx 0 k)] [] [some (.cells c 53 0 1)] else F4 else F4 := by kernel_rfl
theorem iqA (r : Mem) (b off n cap : Nat) (z : Int) (fs : FnsC) (K : KO) (kx : Nat → KS) (kr : KS) : run (SC r) 435 19 1 (.seq Is_0 Is_1) fs none (rbK 0 lvIs [] K) kx kr (sc0 435 [RS b off n cap, V z]) (tr0 435 [RS b off n cap, V z]) [] emptyA =
    K [some (RS b off n cap), some (.int .u16 z), some (I (Int.ofNat n)), some (I (Int.ofNat 0))] [] [] := by kernel_rfl
theorem iqB (r : Mem) (b off n cap : Nat) (z : Int) (k : Nat) (fs : FnsC) (K : KO) (KX : Nat → KO) (KR : KO) : run (SC r) 435 19 1 Is_2 fs none (rbK 0 lvIs [] K) (fun j => rbK 0 [] [] (KX j)) (rbK 0 [4] [] KR) [] (bT lvIs (vIs b off n cap z k) .nil) [] (mkA []) =
    bif decide (Int.ofNat k < Int.ofNat n) then bif Nat.blt (Int.toNat (Int.ofNat k)) n then Option.casesOn (r b (Nat.add off (Nat.mul (Int.toNat (Int.ofNat k)) 1))) (.fail 423) fun val => bif isI IntKind.u16 val then bif z == ofI val then KR [some (I (Int.ofNat k))] [] [] else K [some (RS b off n cap), some (.int .u16 z), some (I (Int.ofNat n)), some (I (IntKind.wrap .i64 (Int.ofNat k + Int.ofNat 1)))] [] [] else F4 else F4 else KX 0 [] [] [] := by kernel_rfl
theorem lfA (r : Mem) (m : Nat) (w a : Nat → Nat) (q : Nat) (c : List Value) (K : KO) (kx : Nat → KS) (kr : KS) : run (SC r) 12351 27 1 (.seq Lf_0 (.seq Lf_1 (.seq Lf_2 Lf_3))) (lvlT (SC r) (tLfA m w a q c) .nil 1 1) none (rbK 0 lvLf [] K) kx kr (sc0 12351 [.agg ⟨orC m w a⟩]) (tr0 12351 [.agg ⟨orC m w a⟩]) [] emptyA =
    bif m_svv [.agg ⟨(orC m w a)⟩] [.agg ⟨(orC m w a)⟩] then bif Nat.ble (Int.toNat (Int.ofNat m)) (Int.toNat (Int.ofNat m)) then bif Nat.ble (Int.toNat (Int.ofNat m)) 1000000 then bif m_nns (orC m w a) && (m_nns c && (m_nns (zerosL (Nat.mul (Int.toNat (Int.ofNat m)) 1) [I (Int.ofNat 0)]) && true)) then K [some (pq 0), some (gx 1 q), some (.slice (some ⟨2, 0, none⟩) (Int.toNat (Int.ofNat m)) (Int.toNat (Int.ofNat m))), some (I (Int.ofNat (Int.toNat (Int.ofNat m)))), some (I (Int.ofNat 0))] [] [some (.cells (orC m w a) 56 0 0), some (.cells c 53 1 1), some (.cells (zerosL (Nat.mul (Int.toNat (Int.ofNat m)) 1) [I (Int.ofNat 0)]) 3 2 1)] else F4 else F4 else F4 else F4 := by kernel_rfl
theorem lfB (r : Mem) (m : Nat) (w a : Nat → Nat) (L : List Nat) (q k : Nat) (c d : List Value) (K : KO) (KX : Nat → KO) (kr : KS) : run (SC r) 12351 27 1 Lf_4 (lvlT (SC r) (tLfB L c) .nil 1 1) none (rbK 0 lvLf [] K) (fun j => rbK 0 [4] [] (KX j)) kr [] (bT lvLf (vLf m q k) .nil) [] (mkA [oOr (orC m w a) 0, oSs c 1, oI1 d 2]) =
    bif decide (Int.ofNat k < Int.ofNat m) then bif Nat.blt (Int.toNat (Int.ofNat k)) 12 then Option.casesOn (orC m w a)[Nat.add 1 (Nat.mul (Int.toNat (Int.ofNat k)) 1)]? (.fail 423) fun val => bif isI IntKind.u16 val then bif m_ig (List.length L) c q unk c && m_xi L (ofI val) then bif Nat.blt (Int.toNat (Int.ofNat k)) m then bif Nat.blt (Nat.add 0 (Nat.mul (Int.toNat (Int.ofNat k)) 1)) (List.length d) then bif m_nns (orC m w a) && (m_nns c && (m_nns (List.set d (Nat.add 0 (Nat.mul (Int.toNat (Int.ofNat k)) 1)) (I (m_xs L (ofI val)))) && true)) then K [some (pq 0), some (gx 1 q), some (gy 2 m), some (I (Int.ofNat m)), some (I (IntKind.wrap .i64 (Int.ofNat k + Int.ofNat 1)))] [] [some (.cells (orC m w a) 56 0 0), some (.cells c 53 1 1), some (.cells (List.set d (Nat.add 0 (Nat.mul (Int.toNat (Int.ofNat k)) 1)) (I (m_xs L (ofI val)))) 3 2 1)] else F4 else F4 else F4 else F4 else F4 else F4 else bif m_nns d && true then KX 0 [some (gy 0 m)] [] [some (.cells d 3 0 1)] else F4 := by kernel_rfl
theorem lfC (r : Mem) (n : Nat) (d : List Value) (fs : FnsC) (K KR : KO) (kx : Nat → KS) : run (SC r) 12351 27 1 Lf_5 fs none (rbK 0 [2] [] K) kx (rbK 0 [2] [] KR) [] (bT [4] [some (gy 0 n)] .nil) [] (mkA [oI1 d 0]) =
    bif m_nns d && true then KR [some (gy 0 n)] [] [some (.cells d 3 0 1)] else F4 := by kernel_rfl
end Go.Proofs
namespace Go.Proofs
open Go Go.Ev Go.Num
def rowV (l : List Nat) : List Value := l.map fun x : Nat => V (x : Int)
theorem rowV_nn (l : List Nat) : m_nns (rowV l) = true := by
 unfold m_nns
 induction l with
 | nil => rfl
 | cons x l ih => show (true && nns (rowV l)) = true; rw [ih]; rfl
theorem rowV_gnd (l : List Nat) : gnds (rowV l) = true := by
 induction l with
 | nil => rfl
 | cons x l ih => show (true && gnds (rowV l)) = true; rw [ih]; rfl
theorem rowV_get {l : List Nat} {k : Nat} (h : k < l.length) : (rowV l)[k]? = some (V ((l[k] : Nat) : Int)) := by simp [rowV, h]
def rsV (w : Nat → Nat) (n : Nat) : List Value := rowV (rsN w n)
theorem okEs_en (c : Nat) : ∀ (l : List Nat) (b : Nat), (∀ x ∈ l, x < 65536) → b + l.length ≤ c → okEs c (enT l b) = true ∧ ∀ n, n < b → freshB n (enT l b) = true
 | [], _, _, _ => ⟨rfl, fun _ _ => rfl⟩
 | x :: l, b, hx, hc => by
  have hl : (x :: l).length = l.length + 1 := rfl
  obtain ⟨h1, h2⟩ := okEs_en c l (b + 1) (fun y hy => hx y (List.mem_cons_of_mem _ hy)) (by omega)
  have hxx := hx x (by simp)
  refine ⟨?_, fun n hn => ?_⟩
  ·have e1 : okE c { key := .int .u16 (x : Int), val := .bool true, born := b } = true := by
    show (decide (0 ≤ (x : Int)) && decide ((x : Int) < 65536) && Nat.blt b c) = true
    rw [dT (show 0 ≤ (x : Int) by omega), dT (show (x : Int) < 65536 by omega), show Nat.blt b c = true from Nat.ble_eq_true_of_le (by omega)]
    rfl
   simp only [enT, okEs, e1, h2 b (by omega), h1, Bool.and_self]
  ·have : Nat.beq b n = false := natFx (by omega)
   simp only [enT, freshB, this, h2 n (by omega), Bool.not_false, Bool.and_self]
theorem enT_z (l : List Nat) : ∀ b, (enT l b).map keyZ = l.map fun x : Nat => (x : Int) := by
 induction l with
 | nil => intro b; rfl
 | cons x l ih => intro b; simp only [enT, List.map_cons, ih]; rfl
theorem eSFs_ok {r : Mem} {w : Nat → Nat} {n : Nat} (hw : ∀ j, w j < 4096) (h1 : 1 ≤ n) (hn : n ≤ 12) : EOk (SC r) 47 (eSFs (seL w n) (rsN w n).length (rsV w n)) := fun args A hg F hF k γ W args' hwr hR ha => by
 refine ⟨fun _ => ?_, fun h => nomatch h⟩
 simp only [eSFs] at hg ⊢
 have hl : (rsN w n).length = (seL w n).length := (rs_perm w n).length_eq
 have hlen := seL_len w n
 have hall : ∀ x ∈ seL w n, x < 65536 := fun x hx => by
  obtain ⟨j, _, rfl⟩ := seL_mem.1 hx
  have := hw j
  omega
 have hne : seL w n ≠ [] := fun h => by
  have : w 0 ∈ seL w n := seL_mem.2 ⟨0, by omega, rfl⟩
  rw [h] at this
  cases this
 cases hs : sfArgs args A with
 | none => rw [hs] at hg; cases hg
 | some p =>
  obtain ⟨es, clock⟩ := p
  rw [hs] at hg
  obtain ⟨rfl, rfl⟩ := @of_decide_eq_true _ (Classical.propDecidable _) hg
  have hg2 : eSF.g args A = true := by
   simp only [eSF, hs]
   have e1 : emptyL (enT (seL w n) 0) = false := by
    generalize seL w n = l at hne
    cases l with
    | nil => exact absurd rfl hne
    | cons _ _ => rfl
   rw [e1, show Nat.blt (enT (seL w n) 0).length 1000000 = true from Nat.ble_eq_true_of_le (by rw [enT_len]; omega), (okEs_en _ _ 0 hall (by omega)).1]
   rfl
  have h := (eSF_ok r args A hg2 F hF k γ W args' hwr hR ha).1 rfl
  simp only [eSF, hs, enT_len, enT_z, rs_sort hw n, List.map_map, ← hl] at h
  exact h
theorem idx_le {x : Nat} : ∀ {L : List Nat} {k : Nat} (h : k < L.length), L[k] = x → L.idxOf x ≤ k
 | y :: L, 0, _, h => by
  have h : y = x := h
  subst h
  simp
 | y :: L, k + 1, hk, h => by
  have ih := idx_le (L := L) (k := k) (by simpa using hk) (by simpa using h)
  rw [List.idxOf_cons]
  cases y == x
  ·simp only [cond_false]; omega
  ·simp only [cond_true]; omega
section
variable {r : Mem} {m : Nat} {w a : Nat → Nat}
theorem sets_S (hw : ∀ j, w j < 4096) (h1 : 1 ≤ m) (hm : m ≤ 12) : SOk (SC r) 33 [.agg ⟨orC m w a⟩] emptyA fun v A => v = gx 0 (rsN w m).length ∧ A = mkA [oSs (rsV w m) 0] := by
 have hU : plain? (Cfg.P (SC r)) (underlying 53) = some (.int .u16) := by kernel_rfl
 refine callL (SC_ok r) (by kernel_rfl) ((bodySC r _).trans St_eq) (nt := 20) (by kernel_rfl) (rs := [.tmp 2]) (by kernel_rfl) 415 rfl (.step (.step .base)) TOk.nil (tm := .nil) (L := 1) (d := 1) lvSt []
  (fun j vs ms os => ∃ k, k ≤ m ∧ j = m - k ∧ vs = vSt m k ∧ ms = [] ∧ os = [oOr (orC m w a) 0, oMp (enT (seL w k) 0) (seL w k).length])
  ⟨[3], [], fun vs ms os => vs = [some (.map (some 0))] ∧ ms = [] ∧ os = [oMp (enT (seL w m) 0) (seL w m).length]⟩
  ⟨[2], [], fun vs ms os => vs = [some (gx 0 (rsN w m).length)] ∧ ms = [] ∧ os = [oSs (rsV w m) 0]⟩ ?_ ?_ ?_ ?_
 ·exact (stA r m w a _ _ _ _).trans (qq_ok ⟨m, 0, Nat.zero_le _, rfl, rfl, rfl, rfl⟩)
 ·rintro j vs ms os ⟨k, hk, rfl, rfl, rfl, rfl⟩
  refine ⟨_, TOk.nil, .nil, 1, 1, 1, ?_⟩
  have hn' := stB r m w a k (enT (seL w k) 0) (seL w k).length
  by_cases c : k < m
  ·have b1 : Nat.blt k 12 = true := Nat.ble_eq_true_of_le (by omega)
   have g1 : (orC m w a)[Nat.add 1 (Nat.mul k 1)]? = some (V ((w k : Nat) : Int)) := by
    rw [show Nat.add 1 (Nat.mul k 1) = 1 + k by simp]; exact orC_w (by omega)
   have e1 := putG_en hU (seL w k) (w k)
   have e2 := put_en hU (seL w k) (w k)
   have e3 := clk_en hU (seL w k) (w k)
   simp only [tnO, dT (show Int.ofNat k < Int.ofNat m by simp; omega), b1, g1, isV_V, ofI_V, cond_true] at hn'
   simp only [e1, e2, e3, orC_nn, enT_gnd, Bool.and_true, Bool.and_self, cond_true] at hn'
   rw [show IntKind.wrap .i64 (Int.ofNat k + Int.ofNat 1) = ((k + 1 : Nat) : Int) from inc1 (by omega)] at hn'
   exact (hn' _ _ _ _).trans (qq_ok ⟨m - (k + 1), by omega, k + 1, c, rfl, rfl, rfl, rfl⟩)
  ·obtain rfl : k = m := by omega
   simp only [dF (show ¬ Int.ofNat k < Int.ofNat k by simp), cond_false, enT_gnd, Bool.and_true, cond_true] at hn'
   exact (hn' _ _ _ _).trans (qq_ok ⟨rfl, rfl, rfl⟩)
 ·rintro vs ms os ⟨rfl, rfl, rfl⟩
  have hn' := stC r (enT (seL w m) 0) (seL w m).length (seL w m) (rsN w m).length (rsV w m)
  have e1 : m_sfE (seL w m) (enT (seL w m) 0) (seL w m).length = true := @decide_eq_true _ (Classical.propDecidable _) ⟨rfl, rfl⟩
  simp only [e1, show m_nns (rsV w m) = true from rowV_nn _, Bool.and_true, cond_true] at hn'
  exact ⟨_, TOk.nil.cons (eSFs_ok hw h1 hm), .nil, 1, 1, 3, (hn' _ _ _).trans (qq_ok ⟨rfl, rfl, rfl⟩)⟩
 ·rintro vs ms os ⟨rfl, rfl, rfl⟩
  exact ⟨_, mkA [oSs (rsV w m) 0], by kernel_rfl, rfl, rfl⟩
theorem eNw_ok {f e k : Nat} {a0 : List Value} {c : List Value} {A1 : AW} (ha0 : roVs a0 = true) (hgc : gnds c = true) (h : SOk (SC r) f a0 emptyA fun v A => v = gx 0 k ∧ A = mkA [some (.cells c e 0 1)]) : EOk (SC r) f (eNw a0 e k c) := fun args A hgd F hF kk γ W args' hw hR ha => by
 refine ⟨fun hcc => ?_, fun h => nomatch h⟩
 have hs := @of_decide_eq_true _ (Classical.propDecidable _) hgd
 subst hs
 have hg : GrM Tryd.prog r f args (gx 0 k) (rowA c e 1) := GrM.ofS (C := SC r) rfl rfl h
 have hof : ofV 0 (gx 0 k) = true := by simp [ofV, of1]
 exact hg.ends (γ := γ) (A := A) hof hgc hF hw (hR.noG noG fun _ => rfl) (ha.of_ros ha0) ha
theorem eNy_ok {f e k : Nat} {a0 : List Value} {c : List Value} (ha0 : roVs a0 = true) (hgc : gnds c = true) (h : SOk (SC r) f a0 emptyA fun v A => v = gy 0 k ∧ A = mkA [some (.cells c e 0 1)]) : EOk (SC r) f (eNy a0 e k c) := fun args A hgd F hF kk γ W args' hw hR ha => by
 refine ⟨fun hcc => ?_, fun h => nomatch h⟩
 have hs := @of_decide_eq_true _ (Classical.propDecidable _) hgd
 subst hs
 have hg : GrM Tryd.prog r f args (gy 0 k) (rowA c e 1) := GrM.ofS (C := SC r) rfl rfl h
 have hof : ofV 0 (gy 0 k) = true := by simp [ofV, of1]
 exact hg.ends (γ := γ) (A := A) hof hgc hF hw (hR.noG noG fun _ => rfl) (ha.of_ros ha0) ha
theorem is_ok {b off cap : Nat} {L : List Nat} (hr : ∀ j, (h : j < L.length) → r b (off + j) = some (V ((L[j] : Nat) : Int))) (hl : L.length ≤ 1000000) {x : Nat} (hx : L.contains x = true) : GrT Tryd.prog r 64 [RS b off L.length cap, V (x : Nat)] (I (L.idxOf x : Nat)) := by
 obtain ⟨hi1, hi2⟩ := idx_lt hx
 refine GrT.ofS (C := SC r) rfl rfl rfl (callL (SC_ok r) (by kernel_rfl) ((bodySC r _).trans Is_eq) (nt := 19) (by kernel_rfl) (rs := [.tmp 4]) (by kernel_rfl) 435 rfl (.step .base) TOk.nil (tm := .nil) (L := 1) (d := 1) lvIs []
  (fun j vs ms os => ∃ k, k ≤ L.idxOf x ∧ j = L.length - k ∧ vs = vIs b off L.length cap (x : Nat) k ∧ ms = [] ∧ os = [])
  Outs.no
  ⟨[4], [], fun vs ms os => vs = [some (I (L.idxOf x : Nat))] ∧ ms = [] ∧ os = []⟩ ?_ ?_ ?_ ?_)
 ·exact (iqA r b off L.length cap (x : Nat) _ _ _ _).trans (qq_ok ⟨L.length, 0, Nat.zero_le _, rfl, rfl, rfl, rfl⟩)
 ·rintro j vs ms os ⟨k, hk, rfl, rfl, rfl, rfl⟩
  refine ⟨_, TOk.nil, .nil, 1, 1, 1, ?_⟩
  have hn' := iqB r b off L.length cap (x : Nat) k
  have hkl : k < L.length := by omega
  have b1 : Nat.blt k L.length = true := Nat.ble_eq_true_of_le hkl
  have g1 : r b (Nat.add off (Nat.mul k 1)) = some (V ((L[k] : Nat) : Int)) := by
   rw [show Nat.add off (Nat.mul k 1) = off + k by simp]; exact hr k hkl
  simp only [tnO, dT (show Int.ofNat k < Int.ofNat L.length by simp; omega), b1, g1, isV_V, ofI_V, cond_true] at hn'
  by_cases c : L[k] = x
  ·have hk2 : k = L.idxOf x := by
    have h3 : L.idxOf x ≤ k := idx_le hkl c
    omega
   rw [c] at hn'
   simp only [eqT (show (x : Int) = (x : Int) from rfl), cond_true] at hn'
   refine (hn' _ _ _ _).trans (qq_ok ⟨?_, rfl, rfl⟩)
   rw [← hk2]; rfl
  ·have hk2 : k ≠ L.idxOf x := fun e => c (by subst e; exact hi2)
   simp only [eqF (show (x : Int) ≠ ((L[k] : Nat) : Int) by omega), cond_false] at hn'
   rw [show IntKind.wrap .i64 (Int.ofNat k + Int.ofNat 1) = ((k + 1 : Nat) : Int) from inc1 (by omega)] at hn'
   exact (hn' _ _ _ _).trans (qq_ok ⟨L.length - (k + 1), by omega, k + 1, by omega, rfl, rfl, rfl, rfl⟩)
 ·intro vs ms os h
  exact h.elim
 ·rintro vs ms os ⟨rfl, rfl, rfl⟩
  exact ⟨_, mkA [], by kernel_rfl, rfl⟩
theorem eIs_ok {L : List Nat} (hl : L.length ≤ 1000000) : EOk (SC r) 64 (eIs L (rowV L)) := EOk.ent fun args A hgd => by
 split at hgd
 ·rename_i j l z x
  split at hgd
  ·rename_i ci e f sz hget
   rw [Bool.and_eq_true] at hgd
   obtain ⟨hg1, hg2⟩ := hgd
   obtain ⟨rfl, hz, rfl⟩ := @of_decide_eq_true _ (Classical.propDecidable _) hg1
   unfold m_xi at hg2
   rw [Bool.and_eq_true, decide_eq_true_eq] at hg2
   have hcap : Nat.beq z unkE = false := natFx hz
   refine POk.of rfl fun γ W args' hw hR ha => ?_
   obtain ⟨la⟩ := args'
   cases ha with
   | cons h1 h2 =>
   cases h2 with
   | cons h2 h3 =>
   cases h3
   cases h2
   obtain ⟨b, k', p1, p2⟩ := own_row hw hR hcap hget h1
   refine ⟨memW W, [RS b k' L.length 0, V x], memW_ro W, .cons p1 (.cons (.int _ _) .nil), ?_⟩
   have := is_ok (r := memW W) (b := b) (off := k') (cap := 0) (L := L) (fun j hj => p2 j _ (rowV_get hj) rfl) hl (x := x.toNat) hg2.2
   rw [show ((x.toNat : Nat) : Int) = x by omega] at this
   exact this
  ·cases hgd
 ·cases hgd
end
end Go.Proofs
namespace Go.Proofs
open Go Go.Ev Go.Num
def lfZ (w : Nat → Nat) (m j : Nat) : Int := ((rsN w m).idxOf (w j) : Nat)
def lfK (w : Nat → Nat) (m k j : Nat) : Int := if j < k then lfZ w m j else 0
theorem rs_has {w : Nat → Nat} {m j : Nat} (h : j < m) : (rsN w m).contains (w j) = true := by
 have : w j ∈ rsN w m := rsN_mem.2 ⟨j, h, rfl⟩
 simpa using this
theorem rs_len (w : Nat → Nat) (m : Nat) : (rsN w m).length ≤ m := by rw [(rs_perm w m).length_eq]; exact seL_len w m
section
variable {r : Mem} {m : Nat} {w a : Nat → Nat}
theorem lf_S (hw : ∀ j, w j < 4096) (h1 : 1 ≤ m) (hm : m ≤ 12) : SOk (SC r) 44 [.agg ⟨orC m w a⟩] emptyA fun v A => v = gy 0 m ∧ A = mkA [oI1 (ixN (lfZ w m) m) 0] := by
 have hrl := rs_len w m
 have hnn : m_nns (rsV w m) = true := rowV_nn _
 refine callL (SC_ok r) (by kernel_rfl) ((bodySC r _).trans Lf_eq) (nt := 27) (by kernel_rfl) (rs := [.tmp 2]) (by kernel_rfl) 12351 rfl (.step (.step (.step .base))) (t := tLfA m w a (rsN w m).length (rsV w m)) (TOk.nil.cons (eNw_ok (e := 53) (A1 := emptyA) rfl (rowV_gnd _) (sets_S hw h1 hm))) (tm := .nil) (L := 1) (d := 1) lvLf []
  (fun j vs ms os => ∃ k, k ≤ m ∧ j = m - k ∧ vs = vLf m (rsN w m).length k ∧ ms = [] ∧ os = [oOr (orC m w a) 0, oSs (rsV w m) 1, oI1 (ixN (lfK w m k) m) 2])
  ⟨[4], [], fun vs ms os => vs = [some (gy 0 m)] ∧ ms = [] ∧ os = [oI1 (ixN (lfZ w m) m) 0]⟩
  ⟨[2], [], fun vs ms os => vs = [some (gy 0 m)] ∧ ms = [] ∧ os = [oI1 (ixN (lfZ w m) m) 0]⟩ ?_ ?_ ?_ ?_
 ·have hn' := lfA r m w a (rsN w m).length (rsV w m)
  have e0 := ix_zero1 m
  simp only [tnO, svv_rfl, Nat.ble_eq_true_of_le (show m ≤ 1000000 by omega), Nat.ble_eq_true_of_le (Nat.le_refl m), e0, ix_nn, orC_nn, hnn, Bool.and_true, Bool.and_self, cond_true] at hn'
  exact (hn' _ _ _).trans (qq_ok ⟨m, 0, Nat.zero_le _, rfl, rfl, rfl, by rw [ix_ext (f := lfK w m 0) (g := fun _ => 0) fun j _ => if_neg (by omega)]; rfl⟩)
 ·rintro j vs ms os ⟨k, hk, rfl, rfl, rfl, rfl⟩
  refine ⟨_, TOk.nil.cons (eIs_ok (L := rsN w m) (by omega)), .nil, 1, 1, 1, ?_⟩
  have hn' := lfB r m w a (rsN w m) (rsN w m).length k (rowV (rsN w m)) (ixN (lfK w m k) m)
  by_cases c : k < m
  ·have b1 : Nat.blt k 12 = true := Nat.ble_eq_true_of_le (by omega)
   have b2 : Nat.blt k m = true := Nat.ble_eq_true_of_le (by omega)
   have g1 : (orC m w a)[Nat.add 1 (Nat.mul k 1)]? = some (V ((w k : Nat) : Int)) := by
    rw [show Nat.add 1 (Nat.mul k 1) = 1 + k by simp]; exact orC_w (by omega)
   have e1 : m_ig (rsN w m).length (rowV (rsN w m)) (rsN w m).length unk (rowV (rsN w m)) = true := @decide_eq_true _ (Classical.propDecidable _) ⟨rfl, by decide, rfl⟩
   have e2 : m_xi (rsN w m) ((w k : Nat) : Int) = true := by
    unfold m_xi
    rw [Int.toNat_natCast, rs_has c, dT (by omega)]; rfl
   have e3 : m_xs (rsN w m) ((w k : Nat) : Int) = lfZ w m k := by
    unfold m_xs lfZ
    rw [Int.toNat_natCast]
   have e4 : Nat.add 0 (Nat.mul k 1) = k := by simp
   have e5 : (ixN (lfK w m k) m).set k (I (lfZ w m k)) = ixN (lfK w m (k + 1)) m := by
    rw [ix_set]
    refine ix_ext fun j hj => ?_
    unfold lfK
    by_cases d : j = k
    ·subst d; rw [if_pos rfl, if_pos (by omega)]
    ·rw [if_neg d]
     by_cases d2 : j < k
     ·rw [if_pos d2, if_pos (by omega)]
     ·rw [if_neg d2, if_neg (by omega)]
   simp only [tnO, dT (show Int.ofNat k < Int.ofNat m by simp; omega), b1, b2, g1, isV_V, ofI_V, e1, e2, e3, e4, e5, ix_len, Bool.and_self, cond_true] at hn'
   simp only [ix_nn, orC_nn, rowV_nn, Bool.and_true, Bool.and_self, cond_true] at hn'
   rw [show IntKind.wrap .i64 (Int.ofNat k + Int.ofNat 1) = ((k + 1 : Nat) : Int) from inc1 (by omega)] at hn'
   exact (hn' _ _ _).trans (qq_ok ⟨m - (k + 1), by omega, k + 1, c, rfl, rfl, rfl, rfl⟩)
  ·obtain rfl : k = m := by omega
   simp only [dF (show ¬ Int.ofNat k < Int.ofNat k by simp), cond_false, ix_nn, Bool.and_true, cond_true] at hn'
   exact (hn' _ _ _).trans (qq_ok ⟨rfl, rfl, by rw [ix_ext (f := lfK w k k) (g := lfZ w k) fun j hj => if_pos hj]; rfl⟩)
 ·rintro vs ms os ⟨rfl, rfl, rfl⟩
  have hn' := lfC r m (ixN (lfZ w m) m)
  simp only [ix_nn, Bool.and_true, cond_true] at hn'
  exact ⟨_, TOk.nil, .nil, 1, 1, 1, (hn' _ _ _ _).trans (qq_ok ⟨rfl, rfl, rfl⟩)⟩
 ·rintro vs ms os ⟨rfl, rfl, rfl⟩
  exact ⟨_, mkA [oI1 (ixN (lfZ w m) m) 0], by kernel_rfl, rfl, rfl⟩
end
end Go.Proofs
namespace Go.Proofs
open Go Go.Ev Go.Num
noncomputable def cIv : Code := bodyOf S0 31
noncomputable def Iv_0 : Code := (lc cIv)
noncomputable def Iv_1 : Code := (lc (rc cIv))
noncomputable def Iv_2 : Code := (lc (rc (rc cIv)))
noncomputable def Iv_3 : Code := (lc (lc (rc (rc (rc cIv)))))
noncomputable def cIw : Code := (ic (ic (rc (lc (rc (rc (rc cIv)))))))
noncomputable def Iv_4 : Code := (lc cIw)
noncomputable def Iv_5 : Code := (lc (rc cIw))
noncomputable def cIx : Code := (ic (lc (rc (rc cIw))))
noncomputable def Iv_6 : Code := (lc cIx)
noncomputable def Iv_7 : Code := (lc (rc cIx))
noncomputable def Iv_8 : Code := (lc (lc (rc (rc cIx))))
noncomputable def Iv_9 : Code := (ic (ic (rc (lc (rc (rc cIx))))))
noncomputable def Iv_10 : Code := (rc (rc (rc cIx)))
noncomputable def Iv_11 : Code := (rc (rc (rc cIw)))
noncomputable def Iv_12 : Code := (rc (rc (rc (rc cIv))))
theorem Iv_eq : cIv = (.seq Iv_0 (.seq Iv_1 (.seq Iv_2 (.seq (.seq Iv_3 (.block 0 (.loop (.seq Iv_4 (.seq Iv_5 (.seq (.block 1 (.seq Iv_6 (.seq Iv_7 (.seq (.seq Iv_8 (.block 2 (.loop Iv_9))) Iv_10)))) Iv_11)))))) Iv_12)))) := by kernel_rfl
noncomputable def cTw : Code := bodyOf S0 32
noncomputable def Tw_0 : Code := (lc cTw)
noncomputable def Tw_1 : Code := (lc (lc (rc cTw)))
noncomputable def Tw_2 : Code := (lc (ic (ic (rc (lc (rc cTw))))))
noncomputable def Tw_3 : Code := (lc (rc (ic (ic (rc (lc (rc cTw)))))))
noncomputable def Tw_4 : Code := (lc (ic (lc (rc (rc (ic (ic (rc (lc (rc cTw))))))))))
noncomputable def Tw_5 : Code := (lc (rc (ic (lc (rc (rc (ic (ic (rc (lc (rc cTw)))))))))))
noncomputable def Tw_6 : Code := (ic (ic (rc (rc (ic (lc (rc (rc (ic (ic (rc (lc (rc cTw)))))))))))))
noncomputable def Tw_7 : Code := (rc (rc (rc (ic (ic (rc (lc (rc cTw))))))))
noncomputable def Tw_8 : Code := (rc (rc cTw))
theorem Tw_eq : cTw = (.seq Tw_0 (.seq (.seq Tw_1 (.block 0 (.loop (.seq Tw_2 (.seq Tw_3 (.seq (.block 1 (.seq Tw_4 (.seq Tw_5 (.block 2 (.loop Tw_6))))) Tw_7)))))) Tw_8)) := by kernel_rfl
def mIv : Nat := 117900287
def mTw : Nat := 2 ^ 0 + 2 ^ 1 + 2 ^ 2 + 2 ^ 3 + 2 ^ 4 + 2 ^ 5 + 2 ^ 6 + 2 ^ 7 + 2 ^ 9 + 2 ^ 10 + 2 ^ 13 + 2 ^ 14
def oP2 (c : List Value) (i : Nat) : Option AObj := some (.cells c 61 i 2)
def o4 (c : List Value) (i : Nat) : Option AObj := some (.cells c 42 i 0)
noncomputable def tIv (m : Nat) (w a : Nat → Nat) (k : Nat) (c d : List Value) : Tbl := tcons 33 (eNw [.agg ⟨orC m w a⟩] 53 k c) (tcons 44 (eNy [.agg ⟨orC m w a⟩] 3 m d) fun _ => none)
def lvIv : List Nat := [3, 4, 16, 17, 18]
def vIv (n q k : Nat) : OV := [some (gx 0 q), some (gy 1 n), some (gy 2 n), some (I (n : Nat)), some (I (k : Nat))]
def lvIw : List Nat := [3, 4, 5, 6, 7, 16, 17, 18, 24, 25, 26]
def vIw (n q k : Nat) (l : Int) (t : Nat) (i : Nat) : OV := [some (gx 0 q), some (gy 1 n), some (I (k : Nat)), some (I l), some (I (t : Nat)), some (gy 2 n), some (I (n : Nat)), some (I (k : Nat)), some (gx 0 q), some (I (q : Nat)), some (I (i : Nat))]
def lvIx : List Nat := [3, 4, 5, 6, 7, 16, 17, 18]
def vIx (n q k : Nat) (l : Int) (t : Nat) : OV := [some (gx 0 q), some (gy 1 n), some (I (k : Nat)), some (I l), some (I (t : Nat)), some (gy 2 n), some (I (n : Nat)), some (I (k : Nat))]
def lvT0 : List Nat := [1, 2, 9, 10]
def vT0 (n k : Nat) : OV := [some (pq 0), some (pq 1), some (I (n : Nat)), some (I (k : Nat))]
def lvT1 : List Nat := [1, 2, 4, 9, 10, 13, 14]
def vT1 (n k d : Nat) : OV := [some (pq 0), some (pq 1), some (I (k : Nat)), some (I (n : Nat)), some (I (k : Nat)), some (I (k : Nat)), some (I (d : Nat))]
def z4 : List Value := [I 0, I 0, I 0, I 0]
theorem ivA (r : Mem) (m : Nat) (w a : Nat → Nat) (q : Nat) (c d : List Value) (K : KO) (kx : Nat → KS) (kr : KS) : run (SC r) mIv 45 1 (.seq Iv_0 (.seq Iv_1 (.seq Iv_2 Iv_3))) (lvlT (SC r) (tIv m w a q c d) .nil 1 1) none (rbK 0 lvIv [] K) kx kr (sc0 mIv [.agg ⟨orC m w a⟩]) (tr0 mIv [.agg ⟨orC m w a⟩]) [] emptyA =
    bif m_svv [.agg ⟨(orC m w a)⟩] [.agg ⟨(orC m w a)⟩] then bif Nat.ble (Int.toNat (Int.ofNat m)) (Int.toNat (Int.ofNat m)) then bif Nat.ble (Int.toNat (Int.ofNat m)) 1000000 then bif m_svv [.agg ⟨(orC m w a)⟩] [.agg ⟨(orC m w a)⟩] then bif m_nns c && (m_nns (zerosL (Nat.mul (Int.toNat (Int.ofNat m)) 2) [I (Int.ofNat 0), I (Int.ofNat 0)]) && (m_nns d && true)) then K [some (gx 0 q), some (.slice (some ⟨1, 0, none⟩) (Int.toNat (Int.ofNat m)) (Int.toNat (Int.ofNat m))), some (gy 2 m), some (I (Int.ofNat m)), some (I (Int.ofNat 0))] [] [some (.cells c 53 0 1), some (.cells (zerosL (Nat.mul (Int.toNat (Int.ofNat m)) 2) [I (Int.ofNat 0), I (Int.ofNat 0)]) 61 1 2), some (.cells d 3 2 1)] else F4 else F4 else F4 else F4 else F4 := by kernel_rfl
theorem ivB (r : Mem) (n q k : Nat) (c e d : List Value) (fs : FnsC) (K : KO) (KX : Nat → KO) (kr : KS) : run (SC r) mIv 45 1 (.seq Iv_4 Iv_5) fs none (rbK 0 lvIv [] K) (fun j => rbK 0 [4] [] (KX j)) kr [] (bT lvIv (vIv n q k) .nil) [] (mkA [oSs c 0, oP2 e 1, oI1 d 2]) =
    bif decide (Int.ofNat k < Int.ofNat n) then bif m_nns c && (m_nns e && (m_nns d && true)) then K [some (gx 0 q), some (gy 1 n), some (gy 2 n), some (I (Int.ofNat n)), some (I (Int.ofNat k))] [] [some (.cells c 53 0 1), some (.cells e 61 1 2), some (.cells d 3 2 1)] else F4 else bif m_nns e && true then KX 0 [some (gy 0 n)] [] [some (.cells e 61 0 2)] else F4 := by kernel_rfl
theorem ivC (r : Mem) (n q k : Nat) (c e d : List Value) (fs : FnsC) (K : KO) (kx : Nat → KS) (kr : KS) : run (SC r) mIv 45 1 (.seq Iv_6 (.seq Iv_7 Iv_8)) fs none (rbK 0 lvIw [] K) kx kr [] (bT lvIv (vIv n q k) .nil) [] (mkA [oSs c 0, oP2 e 1, oI1 d 2]) =
    bif Nat.blt (Int.toNat (Int.ofNat k)) n then Option.casesOn d[Nat.add 0 (Nat.mul (Int.toNat (Int.ofNat k)) 1)]? (.fail 423) fun val => bif isI IntKind.i64 val then bif m_nns c && (m_nns e && (m_nns d && true)) then K [some (gx 0 q), some (gy 1 n), some (I (Int.ofNat k)), some (I (ofI val)), some (I (ofI val)), some (gy 2 n), some (I (Int.ofNat n)), some (I (Int.ofNat k)), some (gx 0 q), some (I (Int.ofNat q)), some (I (Int.ofNat 0))] [] [some (.cells c 53 0 1), some (.cells e 61 1 2), some (.cells d 3 2 1)] else F4 else F4 else F4 := by kernel_rfl
theorem ivD (r : Mem) (n q k : Nat) (l : Int) (t i : Nat) (c e d : List Value) (K : KO) (KX : Nat → KO) (kr : KS) : run (SC r) mIv 45 1 Iv_9 (lvlT (SC r) (fun _ => none) .nil 1 2) none (rbK 0 lvIw [] K) (fun j => rbK 0 lvIx [] (KX j)) kr [] (bT lvIw (vIw n q k l t i) .nil) [] (mkA [oSs c 0, oP2 e 1, oI1 d 2]) =
    bif decide (Int.ofNat i < Int.ofNat q) then bif Nat.blt (Int.toNat (Int.ofNat i)) q then Option.casesOn c[Nat.add 0 (Nat.mul (Int.toNat (Int.ofNat i)) 1)]? (.fail 423) fun val => bif isI IntKind.u16 val then bif ibits BinOp.and IntKind.u16 (Int.fdiv (ofI val) (Int.ofNat 2 ^ min (Int.toNat (Int.ofNat k)) 16)) (Int.ofNat 1) == Int.ofNat 1 then bif m_nns c && (m_nns e && (m_nns d && true)) then K [some (gx 0 q), some (gy 1 n), some (I (Int.ofNat k)), some (I l), some (I (Int.ofNat t)), some (gy 2 n), some (I (Int.ofNat n)), some (I (Int.ofNat k)), some (gx 0 q), some (I (Int.ofNat q)), some (I (IntKind.wrap .i64 (Int.ofNat i + Int.ofNat 1)))] [] [some (.cells c 53 0 1), some (.cells e 61 1 2), some (.cells d 3 2 1)] else F4 else bif m_nns c && (m_nns e && (m_nns d && true)) then K [some (gx 0 q), some (gy 1 n), some (I (Int.ofNat k)), some (I l), some (I (Int.ofNat i)), some (gy 2 n), some (I (Int.ofNat n)), some (I (Int.ofNat k)), some (gx 0 q), some (I (Int.ofNat q)), some (I (IntKind.wrap .i64 (Int.ofNat i + Int.ofNat 1)))] [] [some (.cells c 53 0 1), some (.cells e 61 1 2), some (.cells d 3 2 1)] else F4 else F4 else F4 else bif m_nns c && (m_nns e && (m_nns d && true)) then KX 2 [some (gx 0 q), some (gy 1 n), some (I (Int.ofNat k)), some (I l), some (I (Int.ofNat t)), some (gy 2 n), some (I (Int.ofNat n)), some (I (Int.ofNat k))] [] [some (.cells c 53 0 1), some (.cells e 61 1 2), some (.cells d 3 2 1)] else F4 := by kernel_rfl
theorem ivE (r : Mem) (n q k : Nat) (l : Int) (t : Nat) (c e d : List Value) (fs : FnsC) (K : KO) (kx : Nat → KS) (kr : KS) : run (SC r) mIv 45 1 Iv_10 fs none (rbK 0 lvIv [] K) kx kr [] (bT lvIx (vIx n q k l t) .nil) [] (mkA [oSs c 0, oP2 e 1, oI1 d 2]) =
    bif Nat.blt (Int.toNat (Int.ofNat k)) n then Option.casesOn (setAt e (Nat.add 0 (Nat.mul (Int.toNat (Int.ofNat k)) 2)) [I l, I (Int.ofNat t)]) (.fail 450) fun val => bif m_nns c && (m_nns val && (m_nns d && true)) then K [some (gx 0 q), some (gy 1 n), some (gy 2 n), some (I (Int.ofNat n)), some (I (Int.ofNat k))] [] [some (.cells c 53 0 1), some (.cells val 61 1 2), some (.cells d 3 2 1)] else F4 else F4 := by kernel_rfl
theorem ivF (r : Mem) (n q k : Nat) (c e d : List Value) (fs : FnsC) (K : KO) (kx : Nat → KS) (kr : KS) : run (SC r) mIv 45 1 Iv_11 fs none (rbK 0 lvIv [] K) kx kr [] (bT lvIv (vIv n q k) .nil) [] (mkA [oSs c 0, oP2 e 1, oI1 d 2]) =
    bif m_nns c && (m_nns e && (m_nns d && true)) then K [some (gx 0 q), some (gy 1 n), some (gy 2 n), some (I (Int.ofNat n)), some (I (IntKind.wrap .i64 (Int.ofNat k + Int.ofNat 1)))] [] [some (.cells c 53 0 1), some (.cells e 61 1 2), some (.cells d 3 2 1)] else F4 := by kernel_rfl
theorem ivG (r : Mem) (n : Nat) (e : List Value) (fs : FnsC) (K KR : KO) (kx : Nat → KS) : run (SC r) mIv 45 1 Iv_12 fs none (rbK 0 [2] [] K) kx (rbK 0 [2] [] KR) [] (bT [4] [some (gy 0 n)] .nil) [] (mkA [oP2 e 0]) =
    bif m_nns e && true then KR [some (gy 0 n)] [] [some (.cells e 61 0 2)] else F4 := by kernel_rfl
theorem t4A (r : Mem) (m : Nat) (w a : Nat → Nat) (fs : FnsC) (K : KO) (kx : Nat → KS) (kr : KS) : run (SC r) mTw 51 1 (.seq Tw_0 Tw_1) fs none (rbK 0 lvT0 [] K) kx kr (sc0 mTw [.agg ⟨orC m w a⟩]) (tr0 mTw [.agg ⟨orC m w a⟩]) [] emptyA =
    K [some (pq 0), some (pq 1), some (I (Int.ofNat m)), some (I (Int.ofNat 0))] [] [some (.cells (orC m w a) 56 0 0), some (.cells [I (Int.ofNat 0), I (Int.ofNat 0), I (Int.ofNat 0), I (Int.ofNat 0)] 42 1 0)] := by kernel_rfl
theorem t4B (r : Mem) (m : Nat) (w a : Nat → Nat) (k : Nat) (fs : FnsC) (K : KO) (KX : Nat → KO) (kr : KS) : run (SC r) mTw 51 1 (.seq Tw_2 Tw_3) fs none (rbK 0 lvT0 [] K) (fun j => rbK 0 [2] [] (KX j)) kr [] (bT lvT0 (vT0 m k) .nil) [] (mkA [oOr (orC m w a) 0, o4 z4 1]) =
    bif decide (Int.ofNat k < Int.ofNat m) then K [some (pq 0), some (pq 1), some (I (Int.ofNat m)), some (I (Int.ofNat k))] [] [some (.cells (orC m w a) 56 0 0), some (.cells [I (Int.ofNat 0), I (Int.ofNat 0), I (Int.ofNat 0), I (Int.ofNat 0)] 42 1 0)] else KX 0 [some (pq 0)] [] [some (.cells [I (Int.ofNat 0), I (Int.ofNat 0), I (Int.ofNat 0), I (Int.ofNat 0)] 42 0 0)] := by kernel_rfl
theorem t4C (r : Mem) (m : Nat) (w a : Nat → Nat) (k : Nat) (fs : FnsC) (K : KO) (kx : Nat → KS) (kr : KS) : run (SC r) mTw 51 1 (.seq Tw_4 Tw_5) fs none (rbK 0 lvT1 [] K) kx kr [] (bT lvT0 (vT0 m k) .nil) [] (mkA [oOr (orC m w a) 0, o4 z4 1]) =
    K [some (pq 0), some (pq 1), some (I (Int.ofNat k)), some (I (Int.ofNat m)), some (I (Int.ofNat k)), some (I (Int.ofNat k)), some (I (Int.ofNat 0))] [] [some (.cells (orC m w a) 56 0 0), some (.cells [I (Int.ofNat 0), I (Int.ofNat 0), I (Int.ofNat 0), I (Int.ofNat 0)] 42 1 0)] := by kernel_rfl
theorem t4D (r : Mem) (m : Nat) (w a : Nat → Nat) (k d : Nat) (K : KO) (KX : Nat → KO) (KR : KO) : run (SC r) mTw 51 1 Tw_6 (lvlT (SC r) tEs .nil 1 3) none (rbK 0 lvT1 [] K) (fun j => rbK 0 lvT0 [] (KX j)) (rbK 0 [2, 3] [] KR) [] (bT lvT1 (vT1 m k d) .nil) [] (mkA [oOr (orC m w a) 0, o4 z4 1]) =
    bif decide (Int.ofNat d < Int.ofNat k) then bif Nat.blt (Int.toNat (Int.ofNat k)) 12 then Option.casesOn (orC m w a)[Nat.add 1 (Nat.mul (Int.toNat (Int.ofNat k)) 1)]? (.fail 423) fun val => bif isI IntKind.u16 val then bif Nat.blt (Int.toNat (Int.ofNat d)) 12 then Option.casesOn (orC m w a)[Nat.add 1 (Nat.mul (Int.toNat (Int.ofNat d)) 1)]? (.fail 423) fun val_1 => bif isI IntKind.u16 val_1 then bif Nat.blt (Int.toNat (Int.ofNat d)) 12 then Option.casesOn (orC m w a)[Nat.add 1 (Nat.mul (Int.toNat (Int.ofNat d)) 1)]? (.fail 423) fun val_2 => bif isI IntKind.u16 val_2 then bif Nat.blt (Int.toNat (Int.ofNat k)) 12 then Option.casesOn (orC m w a)[Nat.add 1 (Nat.mul (Int.toNat (Int.ofNat k)) 1)]? (.fail 423) fun val_3 => bif isI IntKind.u16 val_3 then bif ibits BinOp.andNot IntKind.u16 (ofI val) (ofI val_1) != Int.ofNat 0 then bif ibits BinOp.andNot IntKind.u16 (ofI val_2) (ofI val_3) != Int.ofNat 0 then bif m_tvG (ibits BinOp.andNot IntKind.u16 (ofI val) (ofI val_1)) then bif m_tvG (ibits BinOp.andNot IntKind.u16 (ofI val_2) (ofI val_3)) then KR [some (pq 0), some (.bool true)] [] [some (.cells [I (m_tv (ibits BinOp.andNot IntKind.u16 (ofI val) (ofI val_1))), I (Int.ofNat k), I (m_tv (ibits BinOp.andNot IntKind.u16 (ofI val_2) (ofI val_3))), I (Int.ofNat d)] 42 0 0)] else F4 else F4 else K [some (pq 0), some (pq 1), some (I (Int.ofNat k)), some (I (Int.ofNat m)), some (I (Int.ofNat k)), some (I (Int.ofNat k)), some (I (IntKind.wrap .i64 (Int.ofNat d + Int.ofNat 1)))] [] [some (.cells (orC m w a) 56 0 0), some (.cells [I (Int.ofNat 0), I (Int.ofNat 0), I (Int.ofNat 0), I (Int.ofNat 0)] 42 1 0)] else K [some (pq 0), some (pq 1), some (I (Int.ofNat k)), some (I (Int.ofNat m)), some (I (Int.ofNat k)), some (I (Int.ofNat k)), some (I (IntKind.wrap .i64 (Int.ofNat d + Int.ofNat 1)))] [] [some (.cells (orC m w a) 56 0 0), some (.cells [I (Int.ofNat 0), I (Int.ofNat 0), I (Int.ofNat 0), I (Int.ofNat 0)] 42 1 0)] else F4 else F4 else F4 else F4 else F4 else F4 else F4 else F4 else KX 2 [some (pq 0), some (pq 1), some (I (Int.ofNat m)), some (I (Int.ofNat k))] [] [some (.cells (orC m w a) 56 0 0), some (.cells [I (Int.ofNat 0), I (Int.ofNat 0), I (Int.ofNat 0), I (Int.ofNat 0)] 42 1 0)] := by kernel_rfl
theorem t4E (r : Mem) (m : Nat) (w a : Nat → Nat) (k : Nat) (fs : FnsC) (K : KO) (kx : Nat → KS) (kr : KS) : run (SC r) mTw 51 1 Tw_7 fs none (rbK 0 lvT0 [] K) kx kr [] (bT lvT0 (vT0 m k) .nil) [] (mkA [oOr (orC m w a) 0, o4 z4 1]) =
    K [some (pq 0), some (pq 1), some (I (Int.ofNat m)), some (I (IntKind.wrap .i64 (Int.ofNat k + Int.ofNat 1)))] [] [some (.cells (orC m w a) 56 0 0), some (.cells [I (Int.ofNat 0), I (Int.ofNat 0), I (Int.ofNat 0), I (Int.ofNat 0)] 42 1 0)] := by kernel_rfl
theorem t4F (r : Mem) (fs : FnsC) (K KR : KO) (kx : Nat → KS) : run (SC r) mTw 51 1 Tw_8 fs none (rbK 0 [2, 3] [] K) kx (rbK 0 [2, 3] [] KR) [] (bT [2] [some (pq 0)] .nil) [] (mkA [o4 z4 0]) =
    KR [some (pq 0), some (.bool false)] [] [some (.cells [I (Int.ofNat 0), I (Int.ofNat 0), I (Int.ofNat 0), I (Int.ofNat 0)] 42 0 0)] := by kernel_rfl
end Go.Proofs
namespace Go.Proofs
open Go Go.Ev Go.Num
def rtK (L : List Nat) (x i0 : Nat) : Nat → Nat
 | 0 => i0
 | k + 1 => bif (L.getD k 0).testBit x then rtK L x i0 k else k
def rtZ (w : Nat → Nat) (m x : Nat) : Nat := rtK (rsN w m) x ((rsN w m).idxOf (w x)) (rsN w m).length
def ciZ (w : Nat → Nat) (m j : Nat) : Int := if j % 2 = 0 then lfZ w m (j / 2) else (rtZ w m (j / 2) : Nat)
def ciK (w : Nat → Nat) (m k j : Nat) : Int := if j < 2 * k then ciZ w m j else 0
def twI (w : Nat → Nat) (b d : Nat) : Bool := !Nat.beq (anN (w b) (w d)) 0 && !Nat.beq (anN (w d) (w b)) 0
def twJ (w : Nat → Nat) (b : Nat) : Nat → Option Nat
 | 0 => none
 | d + 1 => match twJ w b d with
  | some e => some e
  | none => bif twI w b d then some d else none
def twO (w : Nat → Nat) : Nat → Option (Nat × Nat)
 | 0 => none
 | b + 1 => match twO w b with
  | some p => some p
  | none => match twJ w b b with
   | some d => some (b, d)
   | none => none
def twV (w : Nat → Nat) (n i : Nat) : Int := match twO w n with
 | none => 0
 | some (b, d) => match i with
  | 0 => (tzN 16 (anN (w b) (w d)) : Nat)
  | 1 => (b : Nat)
  | 2 => (tzN 16 (anN (w d) (w b)) : Nat)
  | _ => (d : Nat)
theorem twJ_none {w : Nat → Nat} {b : Nat} : ∀ {k : Nat}, (∀ d, d < k → twI w b d = false) → twJ w b k = none
 | 0, _ => rfl
 | k + 1, h => by rw [twJ, twJ_none fun d hd => h d (by omega), h k (by omega)]; rfl
theorem twJ_some {w : Nat → Nat} {b d : Nat} (h : ∀ e, e < d → twI w b e = false) (hd : twI w b d = true) : ∀ k, d < k → twJ w b k = some d
 | k + 1, hk => by
  by_cases c : d = k
  ·subst c
   rw [twJ, twJ_none h, hd]; rfl
  ·rw [twJ, twJ_some h hd k (by omega)]
theorem twO_next {w : Nat → Nat} {b : Nat} (h : twO w b = none) (h2 : twJ w b b = none) : twO w (b + 1) = none := by rw [twO, h, h2]
theorem twO_some {w : Nat → Nat} {b d : Nat} (h : twO w b = none) (hd : twJ w b b = some d) : ∀ k, b < k → twO w k = some (b, d)
 | k + 1, hk => by
  by_cases c : b = k
  ·subst c
   rw [twO, h, hd]
  ·rw [twO, twO_some h hd k (by omega)]
theorem beq_ne {a : Nat} : (!Nat.beq a 0) = decide (a ≠ 0) := by
 by_cases h : a = 0
 ·subst h; rfl
 ·rw [natFx h, dT h]; rfl
section
variable {r : Mem} {m : Nat} {w a : Nat → Nat}
theorem iv_S (hw : ∀ j, w j < 4096) (h1 : 1 ≤ m) (hm : m ≤ 12) : SOk (SC r) 31 [.agg ⟨orC m w a⟩] emptyA fun v A => v = gy 0 m ∧ A = mkA [oP2 (ixN (ciZ w m) (2 * m)) 0] := by
 have hrl := rs_len w m
 obtain ⟨c, hcV⟩ : ∃ c, c = rsV w m := ⟨_, rfl⟩
 obtain ⟨d, hdV⟩ : ∃ d, d = ixN (lfZ w m) m := ⟨_, rfl⟩
 have hcn : m_nns c = true := by rw [hcV]; exact rowV_nn _
 have hdn : m_nns d = true := by rw [hdV]; exact ix_nn _ _
 refine callO (SC_ok r) (by kernel_rfl) ((bodySC r _).trans Iv_eq) (nt := 45) (by kernel_rfl) (rs := [.tmp 2]) (by kernel_rfl) mIv rfl ⟨[2], [], fun vs ms os => vs = [some (gy 0 m)] ∧ ms = [] ∧ os = [oP2 (ixN (ciZ w m) (2 * m)) 0]⟩ ?_ fun γ W F kk hwr hF hro h0' => ?_
 ·rintro vs ms os ⟨rfl, rfl, rfl⟩
  exact ⟨_, mkA [oP2 (ixN (ciZ w m) (2 * m)) 0], by kernel_rfl, rfl, rfl⟩
 have h0' : ∀ i, 0 ≤ i → γ i = none := h0'
 have ht : TOk (SC r) (tIv m w a (rsN w m).length c d) := by
  rw [hcV, hdV]
  exact (TOk.nil.cons (eNy_ok rfl (ix_gnd _ _) (lf_S hw h1 hm))).cons (eNw_ok (A1 := emptyA) rfl (rowV_gnd _) (sets_S hw h1 hm))
 refine Go.Ev.Reach.after3R (SC_ok r) ht (tm := .nil) (L := 1) (L' := 1) (d := 1) hF hro h0' (.step (.step (.step .base))) (o1 := ⟨lvIv, [], fun vs ms os => vs = vIv m (rsN w m).length 0 ∧ ms = [] ∧ os = [oSs c 0, oP2 (ixN (ciK w m 0) (2 * m)) 1, oI1 d 2]⟩) (o2 := ⟨[4], [], fun vs ms os => vs = [some (gy 0 m)] ∧ ms = [] ∧ os = [oP2 (ixN (ciZ w m) (2 * m)) 0]⟩) [] (fun p hp => nomatch hp) ?_ ?_ ?_
 ·rintro vs ms os ⟨rfl, rfl, rfl⟩
  refine Go.Ev.Reach.blockC (Go.Ev.Reach.loopC (j := m) (lv := lvIv) (fl := []) (I := fun j vs ms os => ∃ k : Nat, k ≤ m ∧ j = m - k ∧ vs = vIv m (rsN w m).length k ∧ ms = [] ∧ os = [oSs c 0, oP2 (ixN (ciK w m k) (2 * m)) 1, oI1 d 2]) (fun j vs ms os hI => ?_) ⟨0, by omega, rfl, rfl, rfl, rfl⟩)
  obtain ⟨k, hk, rfl, rfl, rfl, rfl⟩ := hI
  refine Go.Ev.Reach.afterR (SC_ok r) TOk.nil (tm := .nil) (L := 1) (L' := 1) (d := 1) hF hro h0' (.step .base) (o1 := ⟨lvIv, [], fun vs ms os => k < m ∧ vs = vIv m (rsN w m).length k ∧ ms = [] ∧ os = [oSs c 0, oP2 (ixN (ciK w m k) (2 * m)) 1, oI1 d 2]⟩) [(0, ⟨[4], [], fun vs ms os => vs = [some (gy 0 m)] ∧ ms = [] ∧ os = [oP2 (ixN (ciZ w m) (2 * m)) 0]⟩)] (fun p hp => by simp only [List.mem_cons, List.not_mem_nil, or_false] at hp; subst hp; rfl) (fun vs ms os hq => ?_) ?_
  ·obtain ⟨ck, rfl, rfl, rfl⟩ := hq
   refine Go.Ev.Reach.seqC (o1 := ⟨lvIv, [], fun vs ms os => vs = vIv m (rsN w m).length k ∧ ms = [] ∧ os = [oSs c 0, oP2 (ixN (ciK w m (k + 1)) (2 * m)) 1, oI1 d 2]⟩) (Go.Ev.Reach.blockC ?_) ?_
   ·refine Go.Ev.Reach.after3R (SC_ok r) TOk.nil (tm := .nil) (L := 1) (L' := 1) (d := 1) hF hro h0' (.step (.step .base)) (o1 := ⟨lvIw, [], fun vs ms os => vs = vIw m (rsN w m).length k (lfZ w m k) ((rsN w m).idxOf (w k)) 0 ∧ ms = [] ∧ os = [oSs c 0, oP2 (ixN (ciK w m k) (2 * m)) 1, oI1 d 2]⟩) (o2 := ⟨lvIx, [], fun vs ms os => vs = vIx m (rsN w m).length k (lfZ w m k) (rtZ w m k) ∧ ms = [] ∧ os = [oSs c 0, oP2 (ixN (ciK w m k) (2 * m)) 1, oI1 d 2]⟩) [] (fun p hp => nomatch hp) ?_ ?_ ?_
    ·rintro vs ms os ⟨rfl, rfl, rfl⟩
     refine Go.Ev.Reach.blockC (Go.Ev.Reach.loopC (j := (rsN w m).length) (lv := lvIw) (fl := []) (I := fun j vs ms os => ∃ i : Nat, i ≤ (rsN w m).length ∧ j = (rsN w m).length - i ∧ vs = vIw m (rsN w m).length k (lfZ w m k) (rtK (rsN w m) k ((rsN w m).idxOf (w k)) i) i ∧ ms = [] ∧ os = [oSs c 0, oP2 (ixN (ciK w m k) (2 * m)) 1, oI1 d 2]) (fun j vs ms os hI => ?_) ⟨0, by omega, rfl, rfl, rfl, rfl⟩)
     obtain ⟨i, hi, rfl, rfl, rfl, rfl⟩ := hI
     refine Go.Ev.Reach.segR (SC_ok r) TOk.nil (tm := .nil) (L := 1) (L' := 1) (d := 2) hF hro h0' [(2, ⟨lvIx, [], fun vs ms os => vs = vIx m (rsN w m).length k (lfZ w m k) (rtZ w m k) ∧ ms = [] ∧ os = [oSs c 0, oP2 (ixN (ciK w m k) (2 * m)) 1, oI1 d 2]⟩)] (fun p hp => by simp only [List.mem_cons, List.not_mem_nil, or_false] at hp; subst hp; rfl) ?_
     have hn' := ivD r m (rsN w m).length k (lfZ w m k) (rtK (rsN w m) k ((rsN w m).idxOf (w k)) i) i c (ixN (ciK w m k) (2 * m)) d
     simp only [tnO, hcn, hdn, ix_nn, Bool.and_true, Bool.and_self, cond_true] at hn'
     by_cases ci : i < (rsN w m).length
     ·have q1 : Nat.blt i (rsN w m).length = true := Nat.ble_eq_true_of_le ci
      have q2 : c[Nat.add 0 (Nat.mul i 1)]? = some (V (((rsN w m)[i] : Nat) : Int)) := by
       rw [show Nat.add 0 (Nat.mul i 1) = i by simp, hcV]; exact rowV_get ci
      have q3 : (rsN w m)[i] < 65536 := by
       obtain ⟨j, _, e⟩ := rsN_mem.1 (List.getElem_mem ci)
       have := hw j
       omega
      have q4 : (rsN w m).getD i 0 = (rsN w m)[i] := by simp [ci]
      have q5 : rtK (rsN w m) k ((rsN w m).idxOf (w k)) (i + 1) = bif ((rsN w m)[i]).testBit k then rtK (rsN w m) k ((rsN w m).idxOf (w k)) i else i := by rw [rtK, q4]
      simp only [dT (show Int.ofNat i < Int.ofNat (rsN w m).length by simp; omega), q1, q2, isV_V, ofI_V, has_v q3 (show k ≤ 16 by omega), cond_true] at hn'
      rw [show IntKind.wrap .i64 (Int.ofNat i + Int.ofNat 1) = ((i + 1 : Nat) : Int) from inc1 (by omega)] at hn'
      cases hb : ((rsN w m)[i]).testBit k with
      | true =>
       simp only [hb, cond_true] at hn'
       rw [hb, cond_true] at q5
       exact (hn' _ _ _).trans (qq_ok ⟨(rsN w m).length - (i + 1), by omega, i + 1, ci, rfl, by rw [q5]; rfl, rfl, rfl⟩)
      | false =>
       simp only [hb, cond_false] at hn'
       rw [hb, cond_false] at q5
       exact (hn' _ _ _).trans (qq_ok ⟨(rsN w m).length - (i + 1), by omega, i + 1, ci, rfl, by rw [q5]; rfl, rfl, rfl⟩)
     ·obtain rfl : i = (rsN w m).length := by omega
      simp only [dF (show ¬ Int.ofNat (rsN w m).length < Int.ofNat (rsN w m).length by simp), cond_false] at hn'
      exact (hn' _ _ _).trans (qq_ok ⟨rfl, rfl, rfl⟩)
    ·rintro vs ms os ⟨rfl, rfl, rfl⟩
     refine Go.Ev.Reach.segR (SC_ok r) TOk.nil (tm := .nil) (L := 1) (L' := 1) (d := 1) hF hro h0' [] (fun p hp => nomatch hp) ?_
     have hn' := ivE r m (rsN w m).length k (lfZ w m k) (rtZ w m k) c (ixN (ciK w m k) (2 * m)) d
     have q1 : Nat.blt k m = true := Nat.ble_eq_true_of_le ck
     have e5 : setAt (ixN (ciK w m k) (2 * m)) (Nat.add 0 (Nat.mul k 2)) [I (lfZ w m k), I (Int.ofNat (rtZ w m k))] = some (ixN (ciK w m (k + 1)) (2 * m)) := by
      rw [Nat.add_eq, Nat.mul_eq, Nat.zero_add, ix_set2 (by omega)]
      refine congrArg some (ix_ext fun j hj => ?_)
      unfold ciK ciZ
      by_cases e : j < 2 * k
      ·rw [if_neg (show ¬ j = k * 2 + 1 by omega), if_neg (show ¬ j = k * 2 by omega), if_pos e, if_pos (show j < 2 * (k + 1) by omega)]
      ·by_cases d1 : j = k * 2 + 1
       ·rw [if_pos d1, if_pos (show j < 2 * (k + 1) by omega), if_neg (show ¬ j % 2 = 0 by omega), show j / 2 = k by omega]; rfl
       ·by_cases d2 : j = k * 2
        ·rw [if_neg d1, if_pos d2, if_pos (show j < 2 * (k + 1) by omega), if_pos (show j % 2 = 0 by omega), show j / 2 = k by omega]
        ·rw [if_neg d1, if_neg d2, if_neg e, if_neg (show ¬ j < 2 * (k + 1) by omega)]
     simp only [tnO, q1, e5, hcn, hdn, ix_nn, Bool.and_true, Bool.and_self, cond_true] at hn'
     exact (hn' _ _ _ _).trans (qq_ok ⟨rfl, rfl, rfl⟩)
    ·have hn' := ivC r m (rsN w m).length k c (ixN (ciK w m k) (2 * m)) d
     have q1 : Nat.blt k m = true := Nat.ble_eq_true_of_le ck
     have q2 : d[Nat.add 0 (Nat.mul k 1)]? = some (I (lfZ w m k)) := by
      rw [show Nat.add 0 (Nat.mul k 1) = k by simp, hdV]; exact ix_get ck
     simp only [tnO, q1, q2, isI_I, hcn, hdn, ix_nn, Bool.and_true, Bool.and_self, cond_true] at hn'
     dsimp +instances only [ofI_I] at hn'
     exact (hn' _ _ _ _).trans (qq_ok ⟨rfl, rfl, rfl⟩)
   ·rintro vs ms os ⟨rfl, rfl, rfl⟩
    refine Go.Ev.Reach.segR (SC_ok r) TOk.nil (tm := .nil) (L := 1) (L' := 1) (d := 1) hF hro h0' [] (fun p hp => nomatch hp) ?_
    have hn' := ivF r m (rsN w m).length k c (ixN (ciK w m (k + 1)) (2 * m)) d
    simp only [hcn, hdn, ix_nn, Bool.and_true, Bool.and_self, cond_true] at hn'
    rw [show IntKind.wrap .i64 (Int.ofNat k + Int.ofNat 1) = ((k + 1 : Nat) : Int) from inc1 (by omega)] at hn'
    exact (hn' _ _ _ _).trans (qq_ok ⟨m - (k + 1), by omega, k + 1, ck, rfl, rfl, rfl, rfl⟩)
  ·have hn' := ivB r m (rsN w m).length k c (ixN (ciK w m k) (2 * m)) d
   simp only [hcn, hdn, ix_nn, Bool.and_true, Bool.and_self, cond_true] at hn'
   by_cases ck : k < m
   ·simp only [dT (show Int.ofNat k < Int.ofNat m by simp; omega), cond_true] at hn'
    exact (hn' _ _ _ _).trans (qq_ok ⟨ck, rfl, rfl, rfl⟩)
   ·obtain rfl : k = m := by omega
    simp only [dF (show ¬ Int.ofNat k < Int.ofNat k by simp), cond_false] at hn'
    exact (hn' _ _ _ _).trans (qq_ok ⟨rfl, rfl, by rw [ix_ext (f := ciK w k k) (g := ciZ w k) fun j hj => if_pos hj]; rfl⟩)
 ·rintro vs ms os ⟨rfl, rfl, rfl⟩
  have hn' := ivG r m (ixN (ciZ w m) (2 * m))
  simp only [ix_nn, Bool.and_true, cond_true] at hn'
  exact Go.Ev.Reach.segR (SC_ok r) TOk.nil (tm := .nil) (L := 1) (L' := 1) (d := 1) hF hro h0' [] (fun p hp => nomatch hp) ((hn' _ _ _ _).trans (qq_ok ⟨rfl, rfl, rfl⟩))
 ·have hn' := ivA r m w a (rsN w m).length c d
  have e0 := ix_zero2 m
  simp only [tnO, svv_rfl, Nat.ble_eq_true_of_le (show m ≤ 1000000 by omega), Nat.ble_eq_true_of_le (Nat.le_refl m), e0, ix_nn, hcn, hdn, Bool.and_true, Bool.and_self, cond_true] at hn'
  exact (hn' _ _ _).trans (qq_ok ⟨rfl, rfl, by rw [ix_ext (f := ciK w m 0) (g := fun _ => 0) fun j _ => if_neg (by omega)]; rfl⟩)
theorem tw_okS (hmt : ∀ b j u, tabM b j = some u → r b j = some u) (hw : ∀ j, w j < 4096) (h1 : 1 ≤ m) (hm : m ≤ 12) : GrT Tryd.prog r 32 [.agg ⟨orC m w a⟩] (.tuple ⟨[x4 (twV w m), .bool (twO w m).isSome]⟩) := by
 obtain ⟨v, hv⟩ : ∃ v, v = twV w m := ⟨_, rfl⟩
 obtain ⟨bb, hb⟩ : ∃ bb, bb = (twO w m).isSome := ⟨_, rfl⟩
 rw [← hv, ← hb]
 refine GrT.ofS (C := SC r) rfl rfl rfl (callO (SC_ok r) (by kernel_rfl) ((bodySC r _).trans Tw_eq) (nt := 51) (by kernel_rfl) (rs := [.cell 2 42, .tmp 3]) (by kernel_rfl) mTw rfl ⟨[2, 3], [], fun vs ms os => vs = [some (pq 0), some (.bool bb)] ∧ ms = [] ∧ os = [o4 [I (v 0), I (v 1), I (v 2), I (v 3)] 0]⟩ ?_ fun γ W F kk hwr hF hro h0' => ?_)
 ·rintro vs ms os ⟨rfl, rfl, rfl⟩
  exact ⟨_, mkA [o4 [I (v 0), I (v 1), I (v 2), I (v 3)] 0], by kernel_rfl, rfl⟩
 have h0' : ∀ i, 0 ≤ i → γ i = none := h0'
 have hnn : ∀ m w a, m_nns (orC m w a) = true := orC_nn
 refine Go.Ev.Reach.after3R (SC_ok r) TOk.nil (tm := .nil) (L := 1) (L' := 1) (d := 1) hF hro h0' (.step .base) (o1 := ⟨lvT0, [], fun vs ms os => vs = vT0 m 0 ∧ ms = [] ∧ os = [oOr (orC m w a) 0, o4 z4 1]⟩) (o2 := ⟨[2], [], fun vs ms os => twO w m = none ∧ vs = [some (pq 0)] ∧ ms = [] ∧ os = [o4 z4 0]⟩) [] (fun p hp => nomatch hp) ?_ ?_ ((t4A r m w a _ _ _ _).trans (qq_ok ⟨rfl, rfl, rfl⟩))
 ·rintro vs ms os ⟨rfl, rfl, rfl⟩
  refine Go.Ev.Reach.blockC (Go.Ev.Reach.loopC (j := m) (lv := lvT0) (fl := []) (I := fun j vs ms os => ∃ k : Nat, k ≤ m ∧ j = m - k ∧ twO w k = none ∧ vs = vT0 m k ∧ ms = [] ∧ os = [oOr (orC m w a) 0, o4 z4 1]) (fun j vs ms os hI => ?_) ⟨0, by omega, rfl, rfl, rfl, rfl, rfl⟩)
  obtain ⟨k, hk, rfl, hO, rfl, rfl, rfl⟩ := hI
  refine Go.Ev.Reach.afterR (SC_ok r) TOk.nil (tm := .nil) (L := 1) (L' := 1) (d := 1) hF hro h0' (.step .base) (o1 := ⟨lvT0, [], fun vs ms os => k < m ∧ vs = vT0 m k ∧ ms = [] ∧ os = [oOr (orC m w a) 0, o4 z4 1]⟩) [(0, ⟨[2], [], fun vs ms os => twO w m = none ∧ vs = [some (pq 0)] ∧ ms = [] ∧ os = [o4 z4 0]⟩)] (fun p hp => by simp only [List.mem_cons, List.not_mem_nil, or_false] at hp; subst hp; rfl) (fun vs ms os hq => ?_) ?_
  ·obtain ⟨ck, rfl, rfl, rfl⟩ := hq
   refine Go.Ev.Reach.seqC (o1 := ⟨lvT0, [], fun vs ms os => twJ w k k = none ∧ vs = vT0 m k ∧ ms = [] ∧ os = [oOr (orC m w a) 0, o4 z4 1]⟩) (Go.Ev.Reach.blockC ?_) ?_
   ·refine Go.Ev.Reach.afterR (SC_ok r) TOk.nil (tm := .nil) (L := 1) (L' := 1) (d := 1) hF hro h0' (.step .base) (o1 := ⟨lvT1, [], fun vs ms os => vs = vT1 m k 0 ∧ ms = [] ∧ os = [oOr (orC m w a) 0, o4 z4 1]⟩) [] (fun p hp => nomatch hp) (fun vs ms os hq => ?_) ((t4C r m w a k _ _ _ _).trans (qq_ok ⟨rfl, rfl, rfl⟩))
    obtain ⟨rfl, rfl, rfl⟩ := hq
    refine Go.Ev.Reach.blockC (Go.Ev.Reach.loopC (j := k) (lv := lvT1) (fl := []) (I := fun j vs ms os => ∃ d : Nat, d ≤ k ∧ j = k - d ∧ (∀ e, e < d → twI w k e = false) ∧ vs = vT1 m k d ∧ ms = [] ∧ os = [oOr (orC m w a) 0, o4 z4 1]) (fun j vs ms os hI => ?_) ⟨0, by omega, rfl, fun _ h => absurd h (by omega), rfl, rfl, rfl⟩)
    obtain ⟨d, hd, rfl, hno, rfl, rfl, rfl⟩ := hI
    refine Go.Ev.Reach.segR (SC_ok r) (tEs_ok r hmt) (tm := .nil) (L := 1) (L' := 1) (d := 3) hF hro h0' [(2, ⟨lvT0, [], fun vs ms os => twJ w k k = none ∧ vs = vT0 m k ∧ ms = [] ∧ os = [oOr (orC m w a) 0, o4 z4 1]⟩)] (fun p hp => by simp only [List.mem_cons, List.not_mem_nil, or_false] at hp; subst hp; rfl) ?_
    have hn' := t4D r m w a k d
    simp only [tnO] at hn'
    by_cases c : d < k
    ·have b1 : Nat.blt k 12 = true := Nat.ble_eq_true_of_le (by omega)
     have b2 : Nat.blt d 12 = true := Nat.ble_eq_true_of_le (by omega)
     have g1 : (orC m w a)[Nat.add 1 (Nat.mul k 1)]? = some (V ((w k : Nat) : Int)) := by
      rw [show Nat.add 1 (Nat.mul k 1) = 1 + k by simp]; exact orC_w (by omega)
     have g2 : (orC m w a)[Nat.add 1 (Nat.mul d 1)]? = some (V ((w d : Nat) : Int)) := by
      rw [show Nat.add 1 (Nat.mul d 1) = 1 + d by simp]; exact orC_w (by omega)
     have hk1 := hw k
     have hd1 := hw d
     have u1 := (uV (show w k < 65536 by omega) (show w d < 65536 by omega)).2.2
     have u2 := (uV (show w d < 65536 by omega) (show w k < 65536 by omega)).2.2
     have l1 : anN (w k) (w d) < 65536 := an_lt (k := 16) (by omega)
     have l2 : anN (w d) (w k) < 65536 := an_lt (k := 16) (by omega)
     have hI : twI w k d = (decide (anN (w k) (w d) ≠ 0) && decide (anN (w d) (w k) ≠ 0)) := by unfold twI; rw [beq_ne, beq_ne]
     simp only [dT (show Int.ofNat d < Int.ofNat k by simp; omega), b1, b2, g1, g2, isV_V, ofI_V, u1, u2, cond_true] at hn'
     rw [show IntKind.wrap .i64 (Int.ofNat d + Int.ofNat 1) = ((d + 1 : Nat) : Int) from inc1 (by omega)] at hn'
     have nx : twI w k d = false → ∀ e, e < d + 1 → twI w k e = false := fun h e he => by
      by_cases q : e = d
      ·subst q; exact h
      ·exact hno e (by omega)
     by_cases c1 : anN (w k) (w d) = 0
     ·simp only [neF (show ((anN (w k) (w d) : Nat) : Int) = Int.ofNat 0 by rw [c1]; rfl), cond_false] at hn'
      exact (hn' _ _ _).trans (qq_ok ⟨k - (d + 1), by omega, d + 1, c, rfl, nx (by rw [hI, dF (by simpa using c1)]; rfl), rfl, rfl, rfl⟩)
     ·simp only [neT (show ((anN (w k) (w d) : Nat) : Int) ≠ Int.ofNat 0 by simp; omega), cond_true] at hn'
      by_cases c2 : anN (w d) (w k) = 0
      ·simp only [neF (show ((anN (w d) (w k) : Nat) : Int) = Int.ofNat 0 by rw [c2]; rfl), cond_false] at hn'
       exact (hn' _ _ _).trans (qq_ok ⟨k - (d + 1), by omega, d + 1, c, rfl, nx (by rw [hI, dF (show ¬ anN (w d) (w k) ≠ 0 by simpa using c2), Bool.and_false]), rfl, rfl, rfl⟩)
      ·have t1 : m_tvG ((anN (w k) (w d) : Nat) : Int) = true := dT (by omega)
       have t2 : m_tvG ((anN (w d) (w k) : Nat) : Int) = true := dT (by omega)
       have t3 : m_tv ((anN (w k) (w d) : Nat) : Int) = (tzN 16 (anN (w k) (w d)) : Nat) := by unfold m_tv; rw [Int.toNat_natCast]
       have t4 : m_tv ((anN (w d) (w k) : Nat) : Int) = (tzN 16 (anN (w d) (w k)) : Nat) := by unfold m_tv; rw [Int.toNat_natCast]
       simp only [neT (show ((anN (w d) (w k) : Nat) : Int) ≠ Int.ofNat 0 by simp; omega), t1, t2, t3, t4, cond_true] at hn'
       have hI2 : twI w k d = true := by rw [hI, dT c1, dT c2]; rfl
       have hO2 := twO_some hO (twJ_some hno hI2 k c) m ck
       refine (hn' _ _ _).trans (qq_ok ⟨by rw [hb, hO2]; rfl, rfl, ?_⟩)
       rw [hv]
       unfold twV
       rw [hO2]
       rfl
    ·obtain rfl : d = k := by omega
     simp only [dF (show ¬ Int.ofNat d < Int.ofNat d by simp), cond_false] at hn'
     exact (hn' _ _ _).trans (qq_ok ⟨twJ_none hno, rfl, rfl, rfl⟩)
   ·rintro vs ms os ⟨hJ, rfl, rfl, rfl⟩
    refine Go.Ev.Reach.segR (SC_ok r) TOk.nil (tm := .nil) (L := 1) (L' := 1) (d := 1) hF hro h0' [] (fun p hp => nomatch hp) ?_
    have hn' := t4E r m w a k
    rw [show IntKind.wrap .i64 (Int.ofNat k + Int.ofNat 1) = ((k + 1 : Nat) : Int) from inc1 (by omega)] at hn'
    exact (hn' _ _ _ _).trans (qq_ok ⟨m - (k + 1), by omega, k + 1, ck, rfl, twO_next hO hJ, rfl, rfl, rfl⟩)
  ·have hn' := t4B r m w a k
   by_cases ck : k < m
   ·simp only [dT (show Int.ofNat k < Int.ofNat m by simp; omega), cond_true] at hn'
    exact (hn' _ _ _ _).trans (qq_ok ⟨ck, rfl, rfl, rfl⟩)
   ·obtain rfl : k = m := by omega
    simp only [dF (show ¬ Int.ofNat k < Int.ofNat k by simp), cond_false] at hn'
    exact (hn' _ _ _ _).trans (qq_ok ⟨hO, rfl, rfl, rfl⟩)
 ·rintro vs ms os ⟨hO, rfl, rfl, rfl⟩
  refine Go.Ev.Reach.segR (SC_ok r) TOk.nil (tm := .nil) (L := 1) (L' := 1) (d := 1) hF hro h0' [] (fun p hp => nomatch hp) ((t4F r _ _ _ _).trans (qq_ok ⟨by rw [hb, hO]; rfl, rfl, ?_⟩))
  rw [hv]
  unfold twV
  rw [hO]
  rfl
end
end Go.Proofs
namespace Go.Proofs
open Go Go.Ev Go.Num
noncomputable def tMg (s : Value) (m : Nat) (w a : Nat → Nat) (k : Nat) (c : List Value) : Tbl := tcons 29 (eRd s m w a) (tcons 33 (eNw [.agg ⟨orC m w a⟩] 53 k c) fun _ => none)
theorem mgA (r : Mem) (b off n cap m : Nat) (w a : Nat → Nat) (k : Nat) (c : List Value) : (lvlT (SC r) (tMg (RS b off n cap) m w a k c) .nil 1 2).call 17 [RS b off n cap] emptyA fin =
    bif m_svv [.slice (some ⟨b, off, some 0⟩) n cap] [.slice (some ⟨b, off, some 0⟩) n cap] then bif m_svv [.agg ⟨(orC m w a)⟩] [.agg ⟨(orC m w a)⟩] then .ret (.tuple ⟨[I (Int.ofNat k), I (Int.ofNat 0)]⟩) (AW.mk 0 .nil .nil) else F4 else F4 := by kernel_rfl
section
variable {r : Mem} {b off n cap : Nat} {T : List (List Bool)}
theorem eRd_okS (hmt : ∀ b j u, tabM b j = some u → r b j = some u) (hM : TabM r b off T) (hn : T.length = n) (hc : ckO T = true) : EOk (SC r) 29 (eRd (RS b off n cap) n (clW T) (wA T n 0)) := EOk.ent fun args A hgd => by
 have hs := @of_decide_eq_true _ (Classical.propDecidable _) hgd
 subst hs
 have hl := ck_len hc
 subst hn
 have h := ro_ok (cap := cap) hmt hM rfl (by omega)
 unfold roC at h
 rw [hc, if_pos rfl, if_pos rfl, wB_cl] at h
 exact h.ro rfl A
theorem mg_ok (hmt : ∀ b j u, tabM b j = some u → r b j = some u) (hM : TabM r b off T) (hn : T.length = n) (hc : ckO T = true) : GrT Tryd.prog r 17 [RS b off n cap] (.tuple ⟨[I ((rsN (clW T) n).length : Nat), I 0]⟩) := by
 have hl := ck_len hc
 have hw : ∀ j, clW T j < 4096 := fun j => lt12 (show T.length ≤ 12 by omega) (clO_lt T j T.length)
 refine GrT.of (SC_ok r) (t := tMg (RS b off n cap) n (clW T) (wA T n 0) (rsN (clW T) n).length (rsV (clW T) n)) ((TOk.nil.cons (eNw_ok (A1 := emptyA) rfl (rowV_gnd _) (sets_S hw (by omega) (by omega)))).cons (eRd_okS hmt hM hn hc)) .nil rfl ⟨1, 2, ?_⟩
 have hn' := mgA r b off n cap n (clW T) (wA T n 0) (rsN (clW T) n).length (rsV (clW T) n)
 simp only [svv_rfl, cond_true] at hn'
 exact hn'.trans rfl
end
end Go.Proofs
namespace Go.Proofs
open Go Go.Ev Go.Num
noncomputable def cZt : Code := bodyOf S0 14
noncomputable def Zt_0 : Code := (lc cZt)
noncomputable def Zt_1 : Code := (lc (rc cZt))
noncomputable def Zt_2 : Code := (lc (rc (rc cZt)))
noncomputable def Zt_3 : Code := (lc (rc (rc (rc cZt))))
noncomputable def Zt_4 : Code := (lc (rc (rc (rc (rc cZt)))))
noncomputable def Zt_5 : Code := (lc (lc (rc (rc (rc (rc (rc cZt)))))))
noncomputable def Zt_6 : Code := (ic (ic (rc (lc (rc (rc (rc (rc (rc cZt)))))))))
noncomputable def Zt_7 : Code := (lc (lc (rc (rc (rc (rc (rc (rc cZt))))))))
noncomputable def Zt_8 : Code := (lc (ic (ic (rc (lc (rc (rc (rc (rc (rc (rc cZt)))))))))))
noncomputable def Zt_9 : Code := (lc (ic (lc (rc (ic (ic (rc (lc (rc (rc (rc (rc (rc (rc cZt))))))))))))))
noncomputable def Zt_10 : Code := (ic (ic (rc (ic (lc (rc (ic (ic (rc (lc (rc (rc (rc (rc (rc (rc cZt))))))))))))))))
noncomputable def Zt_11 : Code := (rc (rc (ic (ic (rc (lc (rc (rc (rc (rc (rc (rc cZt))))))))))))
noncomputable def Zt_12 : Code := (lc (lc (rc (rc (rc (rc (rc (rc (rc cZt)))))))))
noncomputable def Zt_13 : Code := (lc (ic (ic (rc (lc (rc (rc (rc (rc (rc (rc (rc cZt))))))))))))
noncomputable def Zt_14 : Code := (lc (ic (lc (rc (ic (ic (rc (lc (rc (rc (rc (rc (rc (rc (rc cZt)))))))))))))))
noncomputable def Zt_15 : Code := (lc (ic (ic (rc (ic (lc (rc (ic (ic (rc (lc (rc (rc (rc (rc (rc (rc (rc cZt))))))))))))))))))
noncomputable def Zt_16 : Code := (lc (ic (lc (rc (ic (ic (rc (ic (lc (rc (ic (ic (rc (lc (rc (rc (rc (rc (rc (rc (rc cZt)))))))))))))))))))))
noncomputable def Zt_17 : Code := (ic (ic (rc (ic (lc (rc (ic (ic (rc (ic (lc (rc (ic (ic (rc (lc (rc (rc (rc (rc (rc (rc (rc cZt)))))))))))))))))))))))
noncomputable def Zt_18 : Code := (rc (rc (ic (ic (rc (ic (lc (rc (ic (ic (rc (lc (rc (rc (rc (rc (rc (rc (rc cZt)))))))))))))))))))
noncomputable def Zt_19 : Code := (rc (rc (ic (ic (rc (lc (rc (rc (rc (rc (rc (rc (rc cZt)))))))))))))
noncomputable def Zt_20 : Code := (rc (rc (rc (rc (rc (rc (rc (rc cZt))))))))
theorem Zt_eq : cZt = (.seq Zt_0 (.seq Zt_1 (.seq Zt_2 (.seq Zt_3 (.seq Zt_4 (.seq (.seq Zt_5 (.block 0 (.loop Zt_6))) (.seq (.seq Zt_7 (.block 2 (.loop (.seq Zt_8 (.seq (.block 3 (.seq Zt_9 (.block 4 (.loop Zt_10)))) Zt_11))))) (.seq (.seq Zt_12 (.block 6 (.loop (.seq Zt_13 (.seq (.block 7 (.seq Zt_14 (.block 8 (.loop (.seq Zt_15 (.seq (.block 9 (.seq Zt_16 (.block 10 (.loop Zt_17)))) Zt_18)))))) Zt_19))))) Zt_20)))))))) := by kernel_rfl
noncomputable def Za : Code := lc Zt_10
noncomputable def Zb : Code := ic (lc (rc Zt_10))
noncomputable def Zb0 : Code := lc Zb
noncomputable def Zb1 : Code := lc (rc Zb)
noncomputable def Zb2 : Code := lc (lc (rc (rc Zb)))
noncomputable def Zb3 : Code := rc (lc (rc (rc Zb)))
noncomputable def Zc : Code := rc (rc Zt_10)
theorem Zt10_eq : Zt_10 = .seq Za (.seq (.block 5 (.seq Zb0 (.seq Zb1 (.cond (.tmp 89) (.seq Zb2 Zb3) .skip)))) Zc) := by kernel_rfl
noncomputable def Zd : Code := lc Zt_17
noncomputable def Ze : Code := ic (lc (rc Zt_17))
noncomputable def Ze0 : Code := lc Ze
noncomputable def Ze1 : Code := lc (lc (rc Ze))
noncomputable def Ze2 : Code := rc (lc (rc Ze))
noncomputable def Zf : Code := rc (rc Zt_17)
theorem Zt17_eq : Zt_17 = .seq Zd (.seq (.block 11 (.seq Ze0 (.cond (.tmp 127) (.seq Ze1 Ze2) .skip))) Zf) := by kernel_rfl
def mZt : Nat := 170141183461088201751329993853333733373
noncomputable def eZ (a0 : List Value) (v : Value) : Ent := ent (fun args _ => m_svv args a0) fun _ _ => v
noncomputable def tZc (sl : Value) (e : Int) : Tbl := tcons 28 (eZ [sl] (I e)) fun _ => none
def enZ (sl : Value) : List (Nat × Value) × Tr Value := ([(16, sl)], bT [0] [some sl] .nil)
def lvZ0 : List Nat := [3, 4, 5, 6]
def vZ0 (p E : Value) (n x : Nat) : OV := [some p, some (I (n : Nat)), some E, some (I (x : Nat))]
def lvZ2 : List Nat := [3, 4, 5, 7]
def lvZ3 : List Nat := [3, 4, 5, 7, 8]
def lvZ4 : List Nat := [3, 4, 5, 7, 8, 9, 10]
def lvZ5 : List Nat := [3, 4, 5, 7, 8, 9, 10, 89]
def vZ3 (p o : Value) (n x y : Nat) : OV := [some p, some (I (n : Nat)), some o, some (I (x : Nat)), some (I (y : Nat))]
def vZ4 (p o : Value) (n x y a b : Nat) : OV := [some p, some (I (n : Nat)), some o, some (I (x : Nat)), some (I (y : Nat)), some (I (a : Nat)), some (I (b : Nat))]
def lvZ6 : List Nat := [4, 5, 12]
def lvZ7 : List Nat := [4, 5, 12, 13]
def lvZ8 : List Nat := [4, 5, 12, 13, 14]
def vZ6 (o : Value) (n z : Nat) : OV := [some (I (n : Nat)), some o, some (I (z : Nat))]
def vZ7 (o : Value) (n z x : Nat) : OV := [some (I (n : Nat)), some o, some (I (z : Nat)), some (I (x : Nat))]
def vZ8 (o : Value) (n z x y : Nat) : OV := [some (I (n : Nat)), some o, some (I (z : Nat)), some (I (x : Nat)), some (I (y : Nat))]
theorem ztA (r : Mem) (b off n cap : Nat) (fs : FnsC) (K : KO) (kx : Nat → KS) (kr : KS) : run (SC r) mZt 136 1 Zt_0 fs none (rbK 0 [0] [] K) kx kr (sc0 mZt [RS b off n cap]) (tr0 mZt [RS b off n cap]) [] emptyA =
    K [some (.slice (some ⟨b, off, some 0⟩) n cap)] [] [] := by kernel_rfl
theorem ztB (r : Mem) (b off n cap : Nat) (fs : FnsC) (K : KS) : preK (SC r) mZt 136 Zt_1 1 fs K [] (bT [0] [some (RS b off n cap)] .nil) [] (mkA []) =
    K [(16, .slice (some ⟨b, off, some 0⟩) n cap)] (.node .nil (some (.slice (some ⟨b, off, some 0⟩) n cap)) .nil) [] (AW.mk 0 .nil .nil) := by kernel_rfl
theorem ztC (r : Mem) (b off n cap : Nat) (m : Nat) (c : List Value) (fs : FnsC) (K : KO) : tailK (SC r) mZt 136 Zt_1 1 fs (rbK 0 [3] [] K) (gwT 0 m) (enZ (RS b off n cap)).1 (enZ (RS b off n cap)).2 [] (mkA [oTb c 0]) =
    bif m_nns c && true then K [some (.slice (some ⟨0, 0, none⟩) m unk)] [] [some (.cells c 64 0 1)] else F4 := by kernel_rfl
theorem ztD0 (r : Mem) (bp op m : Nat) (K : KO) (kx : Nat → KS) (KR : KO) : run (SC r) mZt 136 1 Zt_2 (lvlT (SC r) (tZc (RS bp op m 0) 0) .nil 1 1) none (rbK 0 [3] [] K) kx (rbK 0 [2] [] KR) [] (bT [3] [some (RS bp op m 0)] .nil) [] (mkA []) =
    bif m_svv [.slice (some ⟨bp, op, some 0⟩) m 0] [.slice (some ⟨bp, op, some 0⟩) m 0] then KR [some (.slice (some ⟨bp, op, some 0⟩) m 0)] [] [] else F4 := by kernel_rfl
theorem ztD100 (r : Mem) (bp op m : Nat) (K : KO) (kx : Nat → KS) (KR : KO) : run (SC r) mZt 136 1 Zt_2 (lvlT (SC r) (tZc (RS bp op m 0) 100) .nil 1 1) none (rbK 0 [3] [] K) kx (rbK 0 [2] [] KR) [] (bT [3] [some (RS bp op m 0)] .nil) [] (mkA []) =
    bif m_svv [.slice (some ⟨bp, op, some 0⟩) m 0] [.slice (some ⟨bp, op, some 0⟩) m 0] then K [some (.slice (some ⟨bp, op, some 0⟩) m 0)] [] [] else F4 := by kernel_rfl
theorem ztE (r : Mem) (bp op m : Nat) (fs : FnsC) (K : KO) (kx : Nat → KS) (kr : KS) : run (SC r) mZt 136 1 Zt_3 fs none (rbK 0 [3, 4] [] K) kx kr [] (bT [3] [some (RS bp op m 0)] .nil) [] (mkA []) =
    K [some (.slice (some ⟨bp, op, some 0⟩) m 0), some (I (IntKind.wrap .i64 (Int.ofNat 1 + Int.tmod (Int.ofNat m) (Int.ofNat 12))))] [] [] := by kernel_rfl
theorem ztF (r : Mem) (bp op m n : Nat) (fs : FnsC) (K : KO) (kx : Nat → KS) (kr : KS) : run (SC r) mZt 136 1 Zt_4 fs none (rbK 0 [3, 4, 5] [] K) kx kr [] (bT [3, 4] [some (RS bp op m 0), some (I (n : Nat))] .nil) [] (mkA []) =
    K [some (.slice (some ⟨bp, op, some 0⟩) m 0), some (I (Int.ofNat n)), some (.slice none 0 0)] [] [] := by kernel_rfl
theorem ztG (r : Mem) (bp op m n : Nat) (fs : FnsC) (K : KO) (kx : Nat → KS) (kr : KS) : run (SC r) mZt 136 1 Zt_5 fs none (rbK 0 lvZ0 [] K) kx kr [] (bT [3, 4, 5] [some (RS bp op m 0), some (I (n : Nat)), some nilT] .nil) [] (mkA []) =
    K [some (.slice (some ⟨bp, op, some 0⟩) m 0), some (I (Int.ofNat n)), some (.slice none 0 0), some (I (Int.ofNat 0))] [] [] := by kernel_rfl
theorem ztHn (r : Mem) (bp op m n : Nat) (x : Nat) (fs : FnsC) (K : KO) (KX : Nat → KO) (kr : KS) : run (SC r) mZt 136 1 Zt_6 fs none (rbK 0 lvZ0 [.t, .g] K) (fun j => rbK 0 [3, 4, 5] [] (KX j)) kr [] (bT lvZ0 (vZ0 (RS bp op m 0) nilT n x) .nil) [] (mkA []) =
    bif decide (Int.ofNat x < Int.ofNat n) then bif Nat.ble (Int.toNat (Int.ofNat n)) (Int.toNat (Int.ofNat n)) then bif Nat.ble (Int.toNat (Int.ofNat n)) 1000000 then bif true && (m_nns (zerosL (Nat.mul (Int.toNat (Int.ofNat n)) 1) [.bool false]) && true) then K [some (.slice (some ⟨bp, op, some 0⟩) m 0), some (I (Int.ofNat n)), some (.slice (some ⟨0, 0, none⟩) 1 unk), some (I (IntKind.wrap .i64 (Int.ofNat x + Int.ofNat 1)))] [] [some (.cells [.slice (some ⟨1, 0, none⟩) (Int.toNat (Int.ofNat n)) (Int.toNat (Int.ofNat n))] 64 0 1), some (.cells (zerosL (Nat.mul (Int.toNat (Int.ofNat n)) 1) [.bool false]) 4 1 1)] else F4 else F4 else F4 else KX 0 [some (.slice (some ⟨bp, op, some 0⟩) m 0), some (I (Int.ofNat n)), some (.slice none 0 0)] [] [] := by kernel_rfl
theorem ztHo (r : Mem) (bp op m n : Nat) (x k : Nat) (c : List Value) (fs : FnsC) (K : KO) (KX : Nat → KO) (kr : KS) : run (SC r) mZt 136 1 Zt_6 fs none (rbK 0 lvZ0 [.q [1], .g] K) (fun j => rbK 0 [3, 4, 5] [.g] (KX j)) kr [] (bT lvZ0 (vZ0 (RS bp op m 0) (gwT 0 k) n x) .nil) [] (mkA [oTb c 0]) =
    bif decide (Int.ofNat x < Int.ofNat n) then bif Nat.ble (Int.toNat (Int.ofNat n)) (Int.toNat (Int.ofNat n)) then bif Nat.ble (Int.toNat (Int.ofNat n)) 1000000 then bif Nat.ble (Nat.add k 1) 1000000 then Option.casesOn (takeAt c 0 (Nat.mul k 1)) (.fail 439) fun val => bif m_nopo (m_mvq [3, 1] (val ++ [.slice (some ⟨1, 0, none⟩) (Int.toNat (Int.ofNat n)) (Int.toNat (Int.ofNat n))])) && (m_nns (zerosL (Nat.mul (Int.toNat (Int.ofNat n)) 1) [.bool false]) && true) then K [some (.slice (some ⟨bp, op, some 0⟩) m 0), some (I (Int.ofNat n)), some (.slice (some ⟨0, 0, none⟩) (Nat.add k 1) unk), some (I (IntKind.wrap .i64 (Int.ofNat x + Int.ofNat 1)))] [] [some (.cells (m_mvq [3, 1] (val ++ [.slice (some ⟨1, 0, none⟩) (Int.toNat (Int.ofNat n)) (Int.toNat (Int.ofNat n))])) 64 0 1), some (.cells (zerosL (Nat.mul (Int.toNat (Int.ofNat n)) 1) [.bool false]) 4 1 1)] else F4 else F4 else F4 else F4 else bif m_nns c && true then KX 0 [some (.slice (some ⟨bp, op, some 0⟩) m 0), some (I (Int.ofNat n)), some (.slice (some ⟨0, 0, none⟩) k unk)] [] [some (.cells c 64 0 1)] else F4 := by kernel_rfl
theorem ztI (r : Mem) (bp op m n : Nat) (bo oo : Nat) (fs : FnsC) (K : KO) (kx : Nat → KS) (kr : KS) : run (SC r) mZt 136 1 Zt_7 fs none (rbK 0 lvZ2 [] K) kx kr [] (bT [3, 4, 5] [some (RS bp op m 0), some (I (n : Nat)), some (RS bo oo n 0)] .nil) [] (mkA []) =
    K [some (.slice (some ⟨bp, op, some 0⟩) m 0), some (I (Int.ofNat n)), some (.slice (some ⟨bo, oo, some 0⟩) n 0), some (I (Int.ofNat 0))] [] [] := by kernel_rfl
theorem ztJ (r : Mem) (bp op m n : Nat) (bo oo : Nat) (x : Nat) (fs : FnsC) (K : KO) (KX : Nat → KO) (kr : KS) : run (SC r) mZt 136 1 Zt_8 fs none (rbK 0 lvZ2 [] K) (fun j => rbK 0 [4, 5] [] (KX j)) kr [] (bT lvZ2 [some (RS bp op m 0), some (I (n : Nat)), some (RS bo oo n 0), some (I (x : Nat))] .nil) [] (mkA []) =
    bif decide (Int.ofNat x < Int.ofNat n) then K [some (.slice (some ⟨bp, op, some 0⟩) m 0), some (I (Int.ofNat n)), some (.slice (some ⟨bo, oo, some 0⟩) n 0), some (I (Int.ofNat x))] [] [] else KX 2 [some (I (Int.ofNat n)), some (.slice (some ⟨bo, oo, some 0⟩) n 0)] [] [] := by kernel_rfl
theorem ztK (r : Mem) (bp op m n : Nat) (bo oo : Nat) (x : Nat) (fs : FnsC) (K : KO) (kx : Nat → KS) (kr : KS) : run (SC r) mZt 136 1 Zt_9 fs none (rbK 0 lvZ3 [] K) kx kr [] (bT lvZ2 [some (RS bp op m 0), some (I (n : Nat)), some (RS bo oo n 0), some (I (x : Nat))] .nil) [] (mkA []) =
    K [some (.slice (some ⟨bp, op, some 0⟩) m 0), some (I (Int.ofNat n)), some (.slice (some ⟨bo, oo, some 0⟩) n 0), some (I (Int.ofNat x)), some (I (IntKind.wrap .i64 (Int.ofNat x + Int.ofNat 1)))] [] [] := by kernel_rfl
theorem zaA (r : Mem) (bp op m n : Nat) (bo oo : Nat) (x y : Nat) (fs : FnsC) (K : KO) (KX : Nat → KO) (kr : KS) : run (SC r) mZt 136 1 Za fs none (rbK 0 lvZ3 [] K) (fun j => rbK 0 lvZ2 [] (KX j)) kr [] (bT lvZ3 (vZ3 (RS bp op m 0) (RS bo oo n 0) n x y) .nil) [] (mkA []) =
    bif decide (Int.ofNat y < Int.ofNat n) then K [some (.slice (some ⟨bp, op, some 0⟩) m 0), some (I (Int.ofNat n)), some (.slice (some ⟨bo, oo, some 0⟩) n 0), some (I (Int.ofNat x)), some (I (Int.ofNat y))] [] [] else KX 4 [some (.slice (some ⟨bp, op, some 0⟩) m 0), some (I (Int.ofNat n)), some (.slice (some ⟨bo, oo, some 0⟩) n 0), some (I (Int.ofNat x))] [] [] := by kernel_rfl
theorem zbA (r : Mem) (bp op m n : Nat) (bo oo : Nat) (x y : Nat) (fs : FnsC) (K : KO) (kx : Nat → KS) (kr : KS) : run (SC r) mZt 136 1 Zb0 fs none (rbK 0 lvZ4 [] K) kx kr [] (bT lvZ3 (vZ3 (RS bp op m 0) (RS bo oo n 0) n x y) .nil) [] (mkA []) =
    bif !decide (Int.ofNat n = 0) then bif !decide (Int.ofNat n = 0) then K [some (.slice (some ⟨bp, op, some 0⟩) m 0), some (I (Int.ofNat n)), some (.slice (some ⟨bo, oo, some 0⟩) n 0), some (I (Int.ofNat x)), some (I (Int.ofNat y)), some (I (Int.tmod (IntKind.wrap .i64 (IntKind.wrap .i64 (Int.ofNat 5 * Int.ofNat x) + Int.ofNat 1)) (Int.ofNat n))), some (I (Int.tmod (IntKind.wrap .i64 (IntKind.wrap .i64 (Int.ofNat 5 * Int.ofNat y) + Int.ofNat 1)) (Int.ofNat n)))] [] [] else F4 else F4 := by kernel_rfl
theorem zbBN (r : Mem) (bp op m n : Nat) (bo oo : Nat) (x y a b : Nat) (fs : FnsC) (K : KO) (kx : Nat → KS) (kr : KS) : run (SS r 1) mZt 136 1 Zb1 fs none (rbK 0 lvZ5 [] K) kx kr [] (bT lvZ4 (vZ4 (RS bp op m 0) (RS bo oo n 0) n x y a b) .nil) [] (mkA []) =
    bif Int.ofNat a != Int.ofNat b then bif decide (Int.ofNat x < Int.ofNat m) then bif Nat.blt (Int.toNat (Int.ofNat x)) m then Option.casesOn (r bp (Nat.add op (Nat.mul (Int.toNat (Int.ofNat x)) 1))) (.fail 423) fun val => bif isNilS val then K [some (.slice (some ⟨bp, op, some 0⟩) m 0), some (I (Int.ofNat n)), some (.slice (some ⟨bo, oo, some 0⟩) n 0), some (I (Int.ofNat x)), some (I (Int.ofNat y)), some (I (Int.ofNat a)), some (I (Int.ofNat b)), some (.bool false)] [] [] else F4 else F4 else K [some (.slice (some ⟨bp, op, some 0⟩) m 0), some (I (Int.ofNat n)), some (.slice (some ⟨bo, oo, some 0⟩) n 0), some (I (Int.ofNat x)), some (I (Int.ofNat y)), some (I (Int.ofNat a)), some (I (Int.ofNat b)), some (.bool false)] [] [] else K [some (.slice (some ⟨bp, op, some 0⟩) m 0), some (I (Int.ofNat n)), some (.slice (some ⟨bo, oo, some 0⟩) n 0), some (I (Int.ofNat x)), some (I (Int.ofNat y)), some (I (Int.ofNat a)), some (I (Int.ofNat b)), some (.bool false)] [] [] := by kernel_rfl
theorem zbBR (r : Mem) (bp op m n : Nat) (bo oo : Nat) (x y a b : Nat) (fs : FnsC) (K : KO) (kx : Nat → KS) (kr : KS) : run (SS r 2) mZt 136 1 Zb1 fs none (rbK 0 lvZ5 [] K) kx kr [] (bT lvZ4 (vZ4 (RS bp op m 0) (RS bo oo n 0) n x y a b) .nil) [] (mkA []) =
    bif Int.ofNat a != Int.ofNat b then bif decide (Int.ofNat x < Int.ofNat m) then bif Nat.blt (Int.toNat (Int.ofNat x)) m then Option.casesOn (r bp (Nat.add op (Nat.mul (Int.toNat (Int.ofNat x)) 1))) (.fail 423) fun val => bif isRoS val then bif decide (Int.ofNat y < Int.ofNat (lnOf val)) then bif Nat.blt (Int.toNat (Int.ofNat x)) m then Option.casesOn (r bp (Nat.add op (Nat.mul (Int.toNat (Int.ofNat x)) 1))) (.fail 423) fun val => bif isRoS val then bif Nat.blt (Int.toNat (Int.ofNat y)) (lnOf val) then Option.casesOn (r (blkOf val) (Nat.add (offOf val) (Nat.mul (Int.toNat (Int.ofNat y)) 1))) (.fail 423) fun val => bif isB val then bif ofB val then bif Int.tmod (Int.ofNat n) (Int.ofNat 5) != Int.ofNat 0 then K [some (.slice (some ⟨bp, op, some 0⟩) m 0), some (I (Int.ofNat n)), some (.slice (some ⟨bo, oo, some 0⟩) n 0), some (I (Int.ofNat x)), some (I (Int.ofNat y)), some (I (Int.ofNat a)), some (I (Int.ofNat b)), some (.bool true)] [] [] else K [some (.slice (some ⟨bp, op, some 0⟩) m 0), some (I (Int.ofNat n)), some (.slice (some ⟨bo, oo, some 0⟩) n 0), some (I (Int.ofNat x)), some (I (Int.ofNat y)), some (I (Int.ofNat a)), some (I (Int.ofNat b)), some (.bool false)] [] [] else K [some (.slice (some ⟨bp, op, some 0⟩) m 0), some (I (Int.ofNat n)), some (.slice (some ⟨bo, oo, some 0⟩) n 0), some (I (Int.ofNat x)), some (I (Int.ofNat y)), some (I (Int.ofNat a)), some (I (Int.ofNat b)), some (.bool false)] [] [] else F4 else F4 else F4 else F4 else K [some (.slice (some ⟨bp, op, some 0⟩) m 0), some (I (Int.ofNat n)), some (.slice (some ⟨bo, oo, some 0⟩) n 0), some (I (Int.ofNat x)), some (I (Int.ofNat y)), some (I (Int.ofNat a)), some (I (Int.ofNat b)), some (.bool false)] [] [] else F4 else F4 else K [some (.slice (some ⟨bp, op, some 0⟩) m 0), some (I (Int.ofNat n)), some (.slice (some ⟨bo, oo, some 0⟩) n 0), some (I (Int.ofNat x)), some (I (Int.ofNat y)), some (I (Int.ofNat a)), some (I (Int.ofNat b)), some (.bool false)] [] [] else K [some (.slice (some ⟨bp, op, some 0⟩) m 0), some (I (Int.ofNat n)), some (.slice (some ⟨bo, oo, some 0⟩) n 0), some (I (Int.ofNat x)), some (I (Int.ofNat y)), some (I (Int.ofNat a)), some (I (Int.ofNat b)), some (.bool false)] [] [] := by kernel_rfl
theorem zbC (r : Mem) (bp op m n : Nat) (bo oo : Nat) (x y a b : Nat) (fs : FnsC) (K : KO) (kx : Nat → KS) (kr : KS) : run (SS r 2) mZt 136 1 Zb2 fs none (rbK 0 [3, 4, 5, 7, 8, 10, 11] [] K) kx kr [] (bT lvZ5 ((vZ4 (RS bp op m 0) (RS bo oo n 0) n x y a b) ++ [some (.bool true)]) .nil) [] (mkA []) =
    bif Nat.blt (Int.toNat (Int.ofNat a)) n then Option.casesOn (r bo (Nat.add oo (Nat.mul (Int.toNat (Int.ofNat a)) 1))) (.fail 423) fun val => bif isRoS val then K [some (.slice (some ⟨bp, op, some 0⟩) m 0), some (I (Int.ofNat n)), some (.slice (some ⟨bo, oo, some 0⟩) n 0), some (I (Int.ofNat x)), some (I (Int.ofNat y)), some (I (Int.ofNat b)), some (.slice (some ⟨(blkOf val), (offOf val), some 0⟩) (lnOf val) (cpOf val))] [] [] else F4 else F4 := by kernel_rfl
theorem zbD (r : Mem) (bp op m n : Nat) (bo oo : Nat) (x y b b1 o1 : Nat) (fs : FnsC) (K : KS) : preK (SC r) mZt 136 Zb3 3 fs K [] (bT [3, 4, 5, 7, 8, 10, 11] [some (RS bp op m 0), some (I (n : Nat)), some (RS bo oo n 0), some (I (x : Nat)), some (I (y : Nat)), some (I (b : Nat)), some (RS b1 o1 n n)] .nil) [] (mkA []) =
    bif Nat.blt (Int.toNat (Int.ofNat b)) n then K [(96, .pointer (some ⟨b1, (Nat.add o1 (Nat.mul (Int.toNat (Int.ofNat b)) 1)), some 0⟩)), (95, I (Int.ofNat b)), (94, .slice (some ⟨b1, o1, some 0⟩) n n)] (.node (.node (.node (.node .nil (some (I (Int.ofNat x))) .nil) (some (.slice (some ⟨bp, op, some 0⟩) m 0)) (.node .nil (some (.slice (some ⟨b1, o1, some 0⟩) n n)) .nil)) none (.node .nil (some (.slice (some ⟨bo, oo, some 0⟩) n 0)) .nil)) none (.node (.node (.node .nil (some (I (Int.ofNat y))) .nil) (some (I (Int.ofNat n))) .nil) none (.node (.node .nil (some (I (Int.ofNat b))) .nil) none .nil))) [] (AW.mk 0 .nil .nil) else F4 := by kernel_rfl
theorem zcA (r : Mem) (bp op m n : Nat) (bo oo : Nat) (x y : Nat) (fs : FnsC) (K : KO) (kx : Nat → KS) (kr : KS) : run (SC r) mZt 136 1 Zc fs none (rbK 0 lvZ3 [] K) kx kr [] (bT lvZ3 (vZ3 (RS bp op m 0) (RS bo oo n 0) n x y) .nil) [] (mkA []) =
    K [some (.slice (some ⟨bp, op, some 0⟩) m 0), some (I (Int.ofNat n)), some (.slice (some ⟨bo, oo, some 0⟩) n 0), some (I (Int.ofNat x)), some (I (IntKind.wrap .i64 (Int.ofNat y + Int.ofNat 1)))] [] [] := by kernel_rfl
theorem ztL (r : Mem) (bp op m n : Nat) (bo oo : Nat) (x : Nat) (fs : FnsC) (K : KO) (kx : Nat → KS) (kr : KS) : run (SC r) mZt 136 1 Zt_11 fs none (rbK 0 lvZ2 [] K) kx kr [] (bT lvZ2 [some (RS bp op m 0), some (I (n : Nat)), some (RS bo oo n 0), some (I (x : Nat))] .nil) [] (mkA []) =
    K [some (.slice (some ⟨bp, op, some 0⟩) m 0), some (I (Int.ofNat n)), some (.slice (some ⟨bo, oo, some 0⟩) n 0), some (I (IntKind.wrap .i64 (Int.ofNat x + Int.ofNat 1)))] [] [] := by kernel_rfl
theorem ztM (r : Mem) (bo oo n : Nat) (fs : FnsC) (K : KO) (kx : Nat → KS) (kr : KS) : run (SC r) mZt 136 1 Zt_12 fs none (rbK 0 lvZ6 [] K) kx kr [] (bT [4, 5] [some (I (n : Nat)), some (RS bo oo n 0)] .nil) [] (mkA []) =
    K [some (I (Int.ofNat n)), some (.slice (some ⟨bo, oo, some 0⟩) n 0), some (I (Int.ofNat 0))] [] [] := by kernel_rfl
theorem ztN (r : Mem) (bo oo n : Nat) (z : Nat) (fs : FnsC) (K : KO) (KX : Nat → KO) (kr : KS) : run (SC r) mZt 136 1 Zt_13 fs none (rbK 0 lvZ6 [] K) (fun j => rbK 0 [5] [] (KX j)) kr [] (bT lvZ6 (vZ6 (RS bo oo n 0) n z) .nil) [] (mkA []) =
    bif decide (Int.ofNat z < Int.ofNat n) then K [some (I (Int.ofNat n)), some (.slice (some ⟨bo, oo, some 0⟩) n 0), some (I (Int.ofNat z))] [] [] else KX 6 [some (.slice (some ⟨bo, oo, some 0⟩) n 0)] [] [] := by kernel_rfl
theorem ztO (r : Mem) (bo oo n : Nat) (z : Nat) (fs : FnsC) (K : KO) (kx : Nat → KS) (kr : KS) : run (SC r) mZt 136 1 Zt_14 fs none (rbK 0 lvZ7 [] K) kx kr [] (bT lvZ6 (vZ6 (RS bo oo n 0) n z) .nil) [] (mkA []) =
    K [some (I (Int.ofNat n)), some (.slice (some ⟨bo, oo, some 0⟩) n 0), some (I (Int.ofNat z)), some (I (Int.ofNat 0))] [] [] := by kernel_rfl
theorem ztP (r : Mem) (bo oo n : Nat) (z x : Nat) (fs : FnsC) (K : KO) (KX : Nat → KO) (kr : KS) : run (SC r) mZt 136 1 Zt_15 fs none (rbK 0 lvZ7 [] K) (fun j => rbK 0 lvZ6 [] (KX j)) kr [] (bT lvZ7 (vZ7 (RS bo oo n 0) n z x) .nil) [] (mkA []) =
    bif decide (Int.ofNat x < Int.ofNat n) then K [some (I (Int.ofNat n)), some (.slice (some ⟨bo, oo, some 0⟩) n 0), some (I (Int.ofNat z)), some (I (Int.ofNat x))] [] [] else KX 8 [some (I (Int.ofNat n)), some (.slice (some ⟨bo, oo, some 0⟩) n 0), some (I (Int.ofNat z))] [] [] := by kernel_rfl
theorem ztQ (r : Mem) (bo oo n : Nat) (z x : Nat) (fs : FnsC) (K : KO) (kx : Nat → KS) (kr : KS) : run (SC r) mZt 136 1 Zt_16 fs none (rbK 0 lvZ8 [] K) kx kr [] (bT lvZ7 (vZ7 (RS bo oo n 0) n z x) .nil) [] (mkA []) =
    K [some (I (Int.ofNat n)), some (.slice (some ⟨bo, oo, some 0⟩) n 0), some (I (Int.ofNat z)), some (I (Int.ofNat x)), some (I (Int.ofNat 0))] [] [] := by kernel_rfl
theorem zdA (r : Mem) (bo oo n : Nat) (z x y : Nat) (fs : FnsC) (K : KO) (KX : Nat → KO) (kr : KS) : run (SC r) mZt 136 1 Zd fs none (rbK 0 lvZ8 [] K) (fun j => rbK 0 lvZ7 [] (KX j)) kr [] (bT lvZ8 (vZ8 (RS bo oo n 0) n z x y) .nil) [] (mkA []) =
    bif decide (Int.ofNat y < Int.ofNat n) then K [some (I (Int.ofNat n)), some (.slice (some ⟨bo, oo, some 0⟩) n 0), some (I (Int.ofNat z)), some (I (Int.ofNat x)), some (I (Int.ofNat y))] [] [] else KX 10 [some (I (Int.ofNat n)), some (.slice (some ⟨bo, oo, some 0⟩) n 0), some (I (Int.ofNat z)), some (I (Int.ofNat x))] [] [] := by kernel_rfl
theorem zeA (r : Mem) (bo oo n : Nat) (z x y : Nat) (fs : FnsC) (K : KO) (kx : Nat → KS) (kr : KS) : run (SS r 2) mZt 136 1 Ze0 fs none (rbK 0 (lvZ8 ++ [127]) [] K) kx kr [] (bT lvZ8 (vZ8 (RS bo oo n 0) n z x y) .nil) [] (mkA []) =
    bif Nat.blt (Int.toNat (Int.ofNat x)) n then Option.casesOn (r bo (Nat.add oo (Nat.mul (Int.toNat (Int.ofNat x)) 1))) (.fail 423) fun val => bif isRoS val then bif Nat.blt (Int.toNat (Int.ofNat z)) (lnOf val) then Option.casesOn (r (blkOf val) (Nat.add (offOf val) (Nat.mul (Int.toNat (Int.ofNat z)) 1))) (.fail 423) fun val => bif isB val then bif ofB val then bif Nat.blt (Int.toNat (Int.ofNat z)) n then Option.casesOn (r bo (Nat.add oo (Nat.mul (Int.toNat (Int.ofNat z)) 1))) (.fail 423) fun val => bif isRoS val then bif Nat.blt (Int.toNat (Int.ofNat y)) (lnOf val) then Option.casesOn (r (blkOf val) (Nat.add (offOf val) (Nat.mul (Int.toNat (Int.ofNat y)) 1))) (.fail 423) fun val => bif isB val then bif ofB val then K [some (I (Int.ofNat n)), some (.slice (some ⟨bo, oo, some 0⟩) n 0), some (I (Int.ofNat z)), some (I (Int.ofNat x)), some (I (Int.ofNat y)), some (.bool true)] [] [] else K [some (I (Int.ofNat n)), some (.slice (some ⟨bo, oo, some 0⟩) n 0), some (I (Int.ofNat z)), some (I (Int.ofNat x)), some (I (Int.ofNat y)), some (.bool false)] [] [] else F4 else F4 else F4 else F4 else K [some (I (Int.ofNat n)), some (.slice (some ⟨bo, oo, some 0⟩) n 0), some (I (Int.ofNat z)), some (I (Int.ofNat x)), some (I (Int.ofNat y)), some (.bool false)] [] [] else F4 else F4 else F4 else F4 := by kernel_rfl
theorem zeB (r : Mem) (bo oo n : Nat) (z x y : Nat) (fs : FnsC) (K : KO) (kx : Nat → KS) (kr : KS) : run (SS r 2) mZt 136 1 Ze1 fs none (rbK 0 (lvZ8 ++ [15]) [] K) kx kr [] (bT (lvZ8 ++ [127]) ((vZ8 (RS bo oo n 0) n z x y) ++ [some (.bool true)]) .nil) [] (mkA []) =
    bif Nat.blt (Int.toNat (Int.ofNat x)) n then Option.casesOn (r bo (Nat.add oo (Nat.mul (Int.toNat (Int.ofNat x)) 1))) (.fail 423) fun val => bif isRoS val then K [some (I (Int.ofNat n)), some (.slice (some ⟨bo, oo, some 0⟩) n 0), some (I (Int.ofNat z)), some (I (Int.ofNat x)), some (I (Int.ofNat y)), some (.slice (some ⟨(blkOf val), (offOf val), some 0⟩) (lnOf val) (cpOf val))] [] [] else F4 else F4 := by kernel_rfl
theorem zeC (r : Mem) (bo oo n : Nat) (z x y b1 o1 : Nat) (fs : FnsC) (K : KS) : preK (SC r) mZt 136 Ze2 3 fs K [] (bT (lvZ8 ++ [15]) ((vZ8 (RS bo oo n 0) n z x y) ++ [some (RS b1 o1 n n)]) .nil) [] (mkA []) =
    bif Nat.blt (Int.toNat (Int.ofNat y)) n then K [(134, .pointer (some ⟨b1, (Nat.add o1 (Nat.mul (Int.toNat (Int.ofNat y)) 1)), some 0⟩)), (133, I (Int.ofNat y)), (132, .slice (some ⟨b1, o1, some 0⟩) n n)] (.node (.node (.node (.node (.node .nil (some (.slice (some ⟨b1, o1, some 0⟩) n n)) .nil) none .nil) none .nil) none (.node .nil (some (.slice (some ⟨bo, oo, some 0⟩) n 0)) (.node .nil (some (I (Int.ofNat x))) .nil))) none (.node (.node .nil (some (I (Int.ofNat n))) (.node .nil (some (I (Int.ofNat z))) .nil)) none (.node .nil none (.node .nil (some (I (Int.ofNat y))) .nil)))) [] (AW.mk 0 .nil .nil) else F4 := by kernel_rfl
theorem zfA (r : Mem) (bo oo n : Nat) (z x y : Nat) (fs : FnsC) (K : KO) (kx : Nat → KS) (kr : KS) : run (SC r) mZt 136 1 Zf fs none (rbK 0 lvZ8 [] K) kx kr [] (bT lvZ8 (vZ8 (RS bo oo n 0) n z x y) .nil) [] (mkA []) =
    K [some (I (Int.ofNat n)), some (.slice (some ⟨bo, oo, some 0⟩) n 0), some (I (Int.ofNat z)), some (I (Int.ofNat x)), some (I (IntKind.wrap .i64 (Int.ofNat y + Int.ofNat 1)))] [] [] := by kernel_rfl
theorem ztR (r : Mem) (bo oo n : Nat) (z x : Nat) (fs : FnsC) (K : KO) (kx : Nat → KS) (kr : KS) : run (SC r) mZt 136 1 Zt_18 fs none (rbK 0 lvZ7 [] K) kx kr [] (bT lvZ7 (vZ7 (RS bo oo n 0) n z x) .nil) [] (mkA []) =
    K [some (I (Int.ofNat n)), some (.slice (some ⟨bo, oo, some 0⟩) n 0), some (I (Int.ofNat z)), some (I (IntKind.wrap .i64 (Int.ofNat x + Int.ofNat 1)))] [] [] := by kernel_rfl
theorem ztS (r : Mem) (bo oo n : Nat) (z : Nat) (fs : FnsC) (K : KO) (kx : Nat → KS) (kr : KS) : run (SC r) mZt 136 1 Zt_19 fs none (rbK 0 lvZ6 [] K) kx kr [] (bT lvZ6 (vZ6 (RS bo oo n 0) n z) .nil) [] (mkA []) =
    K [some (I (Int.ofNat n)), some (.slice (some ⟨bo, oo, some 0⟩) n 0), some (I (IntKind.wrap .i64 (Int.ofNat z + Int.ofNat 1)))] [] [] := by kernel_rfl
theorem ztT (r : Mem) (bo oo n : Nat) (fs : FnsC) (K : KO) (KR : KO) (kx : Nat → KS) : run (SC r) mZt 136 1 Zt_20 fs none (rbK 0 [2] [] K) kx (rbK 0 [2] [] KR) [] (bT [5] [some (RS bo oo n 0)] .nil) [] (mkA []) =
    KR [some (.slice (some ⟨bo, oo, some 0⟩) n 0)] [] [] := by kernel_rfl
theorem zbE (r : Mem) (bp op m n : Nat) (bo oo : Nat) (x y b b1 o1 : Nat) (fs : FnsC) (K : KO) : tailK (SC r) mZt 136 Zb3 3 fs (rbK 0 lvZ3 [] K) undef [(96, .pointer (some ⟨b1, o1 + b, some 0⟩)), (95, I (b : Nat)), (94, RS b1 o1 n n)] (bT [3, 4, 5, 7, 8, 10, 11] [some (RS bp op m 0), some (I (n : Nat)), some (RS bo oo n 0), some (I (x : Nat)), some (I (y : Nat)), some (I (b : Nat)), some (RS b1 o1 n n)] .nil) [] (mkA []) =
    K [some (.slice (some ⟨bp, op, some 0⟩) m 0), some (I (Int.ofNat n)), some (.slice (some ⟨bo, oo, some 0⟩) n 0), some (I (Int.ofNat x)), some (I (Int.ofNat y))] [] [] := by kernel_rfl
theorem zeD (r : Mem) (bo oo n : Nat) (z x y b1 o1 : Nat) (fs : FnsC) (K : KO) : tailK (SC r) mZt 136 Ze2 3 fs (rbK 0 lvZ8 [] K) undef [(134, .pointer (some ⟨b1, o1 + y, some 0⟩)), (133, I (y : Nat)), (132, RS b1 o1 n n)] (bT (lvZ8 ++ [15]) ((vZ8 (RS bo oo n 0) n z x y) ++ [some (RS b1 o1 n n)]) .nil) [] (mkA []) =
    K [some (I (Int.ofNat n)), some (.slice (some ⟨bo, oo, some 0⟩) n 0), some (I (Int.ofNat z)), some (I (Int.ofNat x)), some (I (Int.ofNat y))] [] [] := by kernel_rfl
theorem zbS (r : Mem) (bp op m n : Nat) (bo oo : Nat) (x y a b : Nat) (fs : FnsC) (K : KO) (kx : Nat → KS) (kr : KS) : run (SC r) mZt 136 1 .skip fs none (rbK 0 lvZ3 [] K) kx kr [] (bT lvZ5 ((vZ4 (RS bp op m 0) (RS bo oo n 0) n x y a b) ++ [some (.bool false)]) .nil) [] (mkA []) =
    K [some (.slice (some ⟨bp, op, some 0⟩) m 0), some (I (Int.ofNat n)), some (.slice (some ⟨bo, oo, some 0⟩) n 0), some (I (Int.ofNat x)), some (I (Int.ofNat y))] [] [] := by kernel_rfl
theorem zeS (r : Mem) (bo oo n : Nat) (z x y : Nat) (fs : FnsC) (K : KO) (kx : Nat → KS) (kr : KS) : run (SC r) mZt 136 1 .skip fs none (rbK 0 lvZ8 [] K) kx kr [] (bT (lvZ8 ++ [127]) ((vZ8 (RS bo oo n 0) n z x y) ++ [some (.bool false)]) .nil) [] (mkA []) =
    K [some (I (Int.ofNat n)), some (.slice (some ⟨bo, oo, some 0⟩) n 0), some (I (Int.ofNat z)), some (I (Int.ofNat x)), some (I (Int.ofNat y))] [] [] := by kernel_rfl
theorem ztX (r : Mem) (kn : KS) (kx : Nat → KS) (KR : KO) : run (SC r) mZt 136 3 cZt (lvlT (SC r) (fun _ => none) .nil 3 8) none kn kx (rbK 0 [2] [.t, .t] KR) (sc0 mZt [nilT]) (tr0 mZt [nilT]) [] emptyA =
    KR [some (.slice (some ⟨0, 0, none⟩) 1 unk)] [] [some (.cells [.slice (some ⟨1, 0, none⟩) 1 1] 64 0 1), some (.cells [.bool false] 4 1 1)] := by kernel_rfl
theorem ztY (r : Mem) (b off cap : Nat) (kn : KS) (kx : Nat → KS) (KR : KO) : run (SC r) mZt 136 3 cZt (lvlT (SC r) (fun _ => none) .nil 3 8) none kn kx (rbK 0 [2] [.t, .t] KR) (sc0 mZt [RS b off 0 cap]) (tr0 mZt [RS b off 0 cap]) [] emptyA =
    KR [some (.slice (some ⟨0, 0, none⟩) 1 unk)] [] [some (.cells [.slice (some ⟨1, 0, none⟩) 1 1] 64 0 1), some (.cells [.bool false] 4 1 1)] := by kernel_rfl
end Go.Proofs
namespace Go.Num
def rhoN (n a : Nat) : Nat := ((List.range n).find? fun x => (5 * x + 1) % n == a).getD 0
theorem rho_all : ∀ n : Fin 13, n.val % 5 ≠ 0 → ∀ x : Fin 12, x.val < n.val → rhoN n.val ((5 * x.val + 1) % n.val) = x.val := by decide +kernel
theorem rho_at {n x : Nat} (hn : n ≤ 12) (h5 : n % 5 ≠ 0) (hx : x < n) : rhoN n ((5 * x + 1) % n) = x := rho_all ⟨n, by omega⟩ h5 ⟨x, by omega⟩ hx
def RankOk (n : Nat) (M : Nat → Nat → Bool) : Prop := ∀ i j, M i j = true → i < n ∧ j < n ∧ rhoN n i < rhoN n j
theorem RankOk.irr {n : Nat} {M : Nat → Nat → Bool} (h : RankOk n M) (i : Nat) : M i i = false := by
 cases q : M i i with
 | false => rfl
 | true => have := (h i i q).2.2; omega
def setM (M : Nat → Nat → Bool) (x y : Nat) : Nat → Nat → Bool := fun i j => if i = x ∧ j = y then true else M i j
theorem RankOk.none (n : Nat) : RankOk n fun _ _ => false := fun _ _ h => by cases h
theorem RankOk.set {n : Nat} {M : Nat → Nat → Bool} (h : RankOk n M) (hn : n ≤ 12) (h5 : n % 5 ≠ 0) {x y : Nat} (hxy : x < y) (hy : y < n) : RankOk n (setM M ((5 * x + 1) % n) ((5 * y + 1) % n)) := fun i j hij => by
 unfold setM at hij
 split at hij
 ·rename_i c
  obtain ⟨rfl, rfl⟩ := c
  refine ⟨Nat.mod_lt _ (by omega), Nat.mod_lt _ (by omega), ?_⟩
  rw [rho_at hn h5 (by omega), rho_at hn h5 hy]
  exact hxy
 ·exact h i j hij
def fwM (M : Nat → Nat → Bool) (z x y : Nat) : Nat → Nat → Bool := fun i j => M i j || (M i z && (M z j && (decide (i < x) || (decide (i = x) && decide (j < y)))))
theorem fw_zero (M : Nat → Nat → Bool) (z : Nat) : fwM M z 0 0 = M := by
 funext i j
 unfold fwM
 simp
section
variable {n z x y : Nat} {M : Nat → Nat → Bool} (h : RankOk n M)
include h
theorem fw_col (i : Nat) : fwM M z x y i z = M i z := by
 unfold fwM
 rw [h.irr z, Bool.false_and, Bool.and_false, Bool.or_false]
theorem fw_row (j : Nat) : fwM M z x y z j = M z j := by
 unfold fwM
 rw [h.irr z, Bool.false_and, Bool.or_false]
theorem fw_set (hc : (M x z && M z y) = true) : setM (fwM M z x y) x y = fwM M z x (y + 1) := by
 have _ := h
 rw [Bool.and_eq_true] at hc
 funext i j
 unfold setM fwM
 by_cases c : i = x ∧ j = y
 ·obtain ⟨rfl, rfl⟩ := c
  simp [hc.1, hc.2]
 ·rw [if_neg c]
  by_cases d : i = x
  ·subst d
   have hj : j ≠ y := fun e => c ⟨rfl, e⟩
   have : decide (j < y + 1) = decide (j < y) := by rw [decide_eq_decide]; omega
   rw [this]
  ·simp [d]
theorem fw_skip (hc : (M x z && M z y) = false) : fwM M z x y = fwM M z x (y + 1) := by
 have _ := h
 funext i j
 unfold fwM
 by_cases d : i = x
 ·subst d
  by_cases e : j = y
  ·subst e
   cases q1 : M i z with
   | false => simp
   | true =>
    rw [q1, Bool.true_and] at hc
    simp [hc]
  ·have : decide (j < y + 1) = decide (j < y) := by rw [decide_eq_decide]; omega
   rw [this]
 ·simp [d]
theorem fw_next : fwM M z x n = fwM M z (x + 1) 0 := by
 funext i j
 unfold fwM
 cases q : M z j with
 | false => simp
 | true =>
  have hj := (h z j q).2.1
  by_cases d : i = x
  ·subst d; simp [hj]
  ·by_cases e : i < x
   ·simp [e, show i < x + 1 by omega]
   ·simp [d, e, show ¬ i < x + 1 by omega]
theorem fw_end (i j : Nat) : fwM M z n 0 i j = (M i j || (M i z && M z j)) := by
 unfold fwM
 cases q : M i z with
 | false => simp
 | true => simp [(h i z q).1]
theorem fw_rank : RankOk n (fwM M z n 0) := fun i j hij => by
 rw [fw_end h, Bool.or_eq_true, Bool.and_eq_true] at hij
 rcases hij with q | ⟨q1, q2⟩
 ·exact h i j q
 ·have a := h i z q1
  have b := h z j q2
  exact ⟨a.1, b.2.1, by omega⟩
end
def TrP (z : Nat) (M : Nat → Nat → Bool) : Prop := ∀ k, k < z → ∀ i j, M i k = true → M k j = true → M i j = true
theorem fw_tr {n z : Nat} {M : Nat → Nat → Bool} (h : RankOk n M) (ht : TrP z M) : TrP (z + 1) (fwM M z n 0) := fun k hk i j h1 h2 => by
 rw [fw_end h, Bool.or_eq_true, Bool.and_eq_true] at h1 h2 ⊢
 by_cases e : k = z
 ·subst e
  have a1 : M i k = true := by
   rcases h1 with q | ⟨q, _⟩
   ·exact q
   ·exact q
  have a2 : M k j = true := by
   rcases h2 with q | ⟨_, q⟩
   ·exact q
   ·exact q
  exact .inr ⟨a1, a2⟩
 ·have hk' : k < z := by omega
  rcases h1 with a | ⟨a1, a2⟩
  ·rcases h2 with b | ⟨b1, b2⟩
   ·exact .inl (ht k hk' i j a b)
   ·exact .inr ⟨ht k hk' i z a b1, b2⟩
  ·rcases h2 with b | ⟨b1, b2⟩
   ·exact .inr ⟨a1, ht k hk' z j a2 b⟩
   ·exact .inr ⟨a1, b2⟩
end Go.Num
namespace Go.Proofs
open Go Go.Ev Go.Num
def tbM (M : Nat → Nat → Bool) (n : Nat) : List (List Bool) := (List.range n).map fun i => (List.range n).map fun j => M i j
theorem tbM_len (M : Nat → Nat → Bool) (n : Nat) : (tbM M n).length = n := by simp [tbM]
theorem tbM_get {M : Nat → Nat → Bool} {n i : Nat} (h : i < n) : (tbM M n)[i]? = some ((List.range n).map fun j => M i j) := by
 unfold tbM
 rw [List.getElem?_map, List.getElem?_range h]
 rfl
theorem tbM_row {M : Nat → Nat → Bool} {n i : Nat} (h : i < n) : (tbM M n).getD i [] = (List.range n).map fun j => M i j := by
 rw [List.getD_eq_getElem?_getD, tbM_get h]; rfl
theorem tbM_rl {M : Nat → Nat → Bool} {n i : Nat} (h : i < n) : ((tbM M n).getD i []).length = n := by rw [tbM_row h]; simp
theorem tbM_at {M : Nat → Nat → Bool} {n i j : Nat} (h : i < n) (hj : j < n) : gT (tbM M n) i j = M i j := by
 unfold gT
 rw [tbM_row h, List.getD_eq_getElem?_getD, List.getElem?_map, List.getElem?_range hj]
 rfl
theorem tbM_ck {M : Nat → Nat → Bool} {n : Nat} (h1 : 1 ≤ n) (hn : n ≤ 12) (h : RankOk n M) (ht : TrP n M) : ckO (tbM M n) = true := by
 unfold ckO
 have hl := tbM_len M n
 rw [hl, decide_eq_true ⟨h1, hn⟩, Bool.true_and, Bool.and_eq_true]
 constructor
 ·have hlen : ∀ m, m ≤ n → lenO (tbM M n) m = true := fun m => by
   induction m with
   | zero => exact fun _ => rfl
   | succ m ih =>
    intro hm
    rw [lenO, ih (by omega), tbM_rl (show m < n by omega), hl]
    simp
  exact lenI_all.2 ⟨hlen n (Nat.le_refl _), fun i hi => by rw [tbM_at hi hi]; exact h.irr i⟩
 ·refine trI_all.2 fun i hi => trJ_all.2 fun k hk => trK_all.2 fun m hm => ?_
  rw [hl] at hk hm
  unfold badO
  rw [tbM_at hi hk, tbM_at hk hm, tbM_at hi hm]
  cases q1 : M i k with
  | false => rfl
  | true =>
   cases q2 : M k m with
   | false => rfl
   | true => rw [ht k hk i m q1 q2]; rfl
end Go.Proofs
namespace Go.Proofs
open Go Go.Ev Go.Num
structure MatM (γ0 : Gam) (W0 : World) (r0 r : Mem) (bo oo n : Nat) (bk ok : Nat → Nat) (M : Nat → Nat → Bool) : Prop where
 le : Mem.le r0 r
 row : ∀ x, x < n → r bo (oo + x) = some (RS (bk x) (ok x) n n)
 ne : ∀ x, x < n → bk x ≠ bo
 own : ∀ x, x < n → r.own (bk x) = true
 may : ∀ x, x < n → bk x < W0.heap.size → ∃ i g, γ0 i = some g ∧ g.blk = bk x
 new : ∀ x, x < n → ∀ k, r0 (bk x) k = none
 cell : ∀ x y, x < n → y < n → r (bk x) (ok x + y) = some (.bool (M x y))
 inj : ∀ x y, x < n → y < n → bk x = bk y → x = y
theorem MatM.set {γ0 : Gam} {W0 : World} {r0 r : Mem} {bo oo n : Nat} {bk ok : Nat → Nat} {M : Nat → Nat → Bool} (h : MatM γ0 W0 r0 r bo oo n bk ok M) {x y : Nat} (hx : x < n) (hy : y < n) : MatM γ0 W0 r0 (r.upd (bk x) (ok x + y) (.bool true)) bo oo n bk ok (setM M x y) := by
 refine ⟨⟨fun b k u hu => ?_, fun b k u hu => ?_, h.le.own⟩, fun i hi => ?_, h.ne, h.own, h.may, h.new, fun i j hi hj => ?_, h.inj⟩
 ·rw [Mem.upd_other _ _ (.inl fun e => by subst e; rw [h.new x hx k] at hu; cases hu)]
  exact h.le b k u hu
 ·by_cases e : b = bk x
  ·exact .inr fun k' => by rw [e]; exact h.new x hx k'
  ·rw [Mem.upd_other _ _ (.inl e)] at hu
   exact h.le.new b k u hu
 ·rw [Mem.upd_other _ _ (.inl fun e => h.ne x hx e.symm)]
  exact h.row i hi
 ·by_cases c : i = x ∧ j = y
  ·obtain ⟨rfl, rfl⟩ := c
   rw [Mem.upd_same]
   unfold setM
   rw [if_pos ⟨rfl, rfl⟩]
  ·rw [Mem.upd_other _ _ (if d : i = x then .inr fun e => c ⟨d, by subst d; omega⟩ else .inl fun e => d (h.inj i x hi hx e))]
   unfold setM
   rw [if_neg c]
   exact h.cell i j hi hj
theorem MatM.tab {γ0 : Gam} {W0 : World} {r0 r : Mem} {bo oo n : Nat} {bk ok : Nat → Nat} {M : Nat → Nat → Bool} (h : MatM γ0 W0 r0 r bo oo n bk ok M) (h1 : 1 ≤ n) : TabM r bo oo (tbM M n) := fun i l hl => by
 have hi : i < n := by have := (List.getElem?_eq_some_iff.1 hl).1; rwa [tbM_len] at this
 rw [tbM_get hi] at hl
 cases hl
 refine ⟨_, h.row i hi, .inr ⟨fun e => by have := congrArg List.length e; simp at this; omega, bk i, ok i, n, by simp, fun j x hj => ?_⟩⟩
 rw [List.getElem?_map] at hj
 by_cases c : j < n
 ·rw [List.getElem?_range c] at hj
  cases hj
  exact h.cell i j hi c
 ·rw [List.getElem?_eq_none (by simp; omega)] at hj
  cases hj
end Go.Proofs
namespace Go.Proofs
open Go Go.Ev Go.Num
theorem w1z (k : Nat) (hk : k ≤ 1000) : IntKind.wrap IntKind.i64 ((k : Int) + ((1 : Nat) : Int)) = ((k + 1 : Nat) : Int) := inc1' (by omega)
theorem e0z (o k : Nat) : Nat.add o (Nat.mul k 1) = o + k := by simp
section
variable {r0 : Mem} {bo oo n : Nat} {bk ok : Nat → Nat} {M : Nat → Nat → Bool} {F : Fence} {kk : Nat} {γ : Gam} {W : World}
theorem zt_rnd (hn : n ≤ 12) (hR : RankOk n M) (hF : Wide F) (hro : RoRel γ none F.round) (h0' : ∀ i, 0 ≤ i → γ i = none) {z x y : Nat} (hz : z < n) (hx : x < n) (hy : y < n) {r : Mem} (hM : MatM γ W r0 r bo oo n bk ok (fwM M z x y)) {ox : Nat → OutsG} {orr : OutsG} :
  ReachG Tryd.prog mZt 136 F kk γ W (.block 11 (.seq Ze0 (.cond (.tmp 127) (.seq Ze1 Ze2) .skip))) r (St.of lvZ8 (vZ8 (RS bo oo n 0) n z x y) [] []) (CanG Tryd.prog mZt 136 γ W ⟨lvZ8, fun r1 vs ms os => MatM γ W r0 r1 bo oo n bk ok (fwM M z x (y + 1)) ∧ vs = vZ8 (RS bo oo n 0) n z x y ∧ ms = [] ∧ os = []⟩ ox orr) := by
 have bx : Nat.blt x n = true := Nat.ble_eq_true_of_le (by omega)
 have by' : Nat.blt y n = true := Nat.ble_eq_true_of_le (by omega)
 have bz : Nat.blt z n = true := Nat.ble_eq_true_of_le (by omega)
 have cx := hM.cell x z hx hz
 have cz := hM.cell z y hz hy
 rw [fw_col hR] at cx
 rw [fw_row hR] at cz
 refine ReachG.blockC (ReachG.seqC (o1 := ⟨lvZ8 ++ [127], fun r1 vs ms os => r1 = r ∧ vs = vZ8 (RS bo oo n 0) n z x y ++ [some (.bool (M x z && M z y))] ∧ ms = [] ∧ os = []⟩) (ReachG.segS (C := SS r 2) rfl rfl (SS_ok r 2) (t := fun _ => none) TOk.nil (tm := .nil) (L' := 1) (d := 1) (L := 1) (n0 := 0) hF hro h0' [] (on := ⟨lvZ8 ++ [127], [], fun vs ms os => vs = vZ8 (RS bo oo n 0) n z x y ++ [some (.bool (M x z && M z y))] ∧ ms = [] ∧ os = []⟩) (ox := fun _ => Outs.no) (orr := Outs.no) (fun p hp => nomatch hp) ?_ (fun vs ms os h => IsG.here ⟨rfl, h⟩) (fun _ _ _ _ h => h.elim) (fun _ _ _ h => h.elim)) fun r1 vs ms os hq => ?_)
 ·have hn' := zeA r bo oo n z x y
  simp only [tnO, bx, bz, by', e0z, hM.row x hx, hM.row z hz, ro_RS, ln_RS, bk_RS, of_RS, cx, cz, b_bl, o_bl, cond_true] at hn'
  cases q1 : M x z with
  | false =>
   simp only [q1, cond_false] at hn'
   exact (hn' _ _ _ _).trans (qq_ok ⟨rfl, rfl, rfl⟩)
  | true =>
   simp only [q1, cond_true] at hn'
   cases q2 : M z y with
   | false =>
    simp only [q2, cond_false] at hn'
    exact (hn' _ _ _ _).trans (qq_ok ⟨rfl, rfl, rfl⟩)
   | true =>
    simp only [q2, cond_true] at hn'
    exact (hn' _ _ _ _).trans (qq_ok ⟨rfl, rfl, rfl⟩)
 obtain ⟨rfl, rfl, rfl, rfl⟩ := hq
 refine ReachG.cond (v := (M x z && M z y)) (by kernel_rfl) (fun hv => ?_) fun hv => ?_
 ·rw [hv]
  refine ReachG.seqC (o1 := ⟨lvZ8 ++ [15], fun r2 vs ms os => r2 = r1 ∧ vs = vZ8 (RS bo oo n 0) n z x y ++ [some (RS (bk x) (ok x) n n)] ∧ ms = [] ∧ os = []⟩) (ReachG.segS (C := SS r1 2) rfl rfl (SS_ok r1 2) (t := fun _ => none) TOk.nil (tm := .nil) (L' := 1) (d := 1) (L := 1) (n0 := 0) hF hro h0' [] (on := ⟨lvZ8 ++ [15], [], fun vs ms os => vs = vZ8 (RS bo oo n 0) n z x y ++ [some (RS (bk x) (ok x) n n)] ∧ ms = [] ∧ os = []⟩) (ox := fun _ => Outs.no) (orr := Outs.no) (fun p hp => nomatch hp) ?_ (fun vs ms os h => IsG.here ⟨rfl, h⟩) (fun _ _ _ _ h => h.elim) (fun _ _ _ h => h.elim)) fun r2 vs ms os hq => ?_
  ·have hn' := zeB r1 bo oo n z x y
   simp only [tnO, bx, e0z, hM.row x hx, ro_RS, ln_RS, bk_RS, of_RS, cp_RS, cond_true] at hn'
   exact (hn' _ _ _ _).trans (qq_ok ⟨rfl, rfl, rfl⟩)
  obtain ⟨rfl, rfl, rfl, rfl⟩ := hq
  refine ReachG.storeC (fl := []) SC_ok hF h0' TOk.nil (tm := .nil) (L := 1) (d := 1) 3 (s1 := [(134, .pointer (some ⟨bk x, ok x + y, some 0⟩)), (133, I (y : Nat)), (132, RS (bk x) (ok x) n n)]) (b1 := bT (lvZ8 ++ [15]) (vZ8 (RS bo oo n 0) n z x y ++ [some (RS (bk x) (ok x) n n)]) .nil) (ms1 := []) (A1 := mkA []) (bb := bk x) (j := ok x + y) (v := .bool true) ?_ (by kernel_rfl) (hM.own x hx) (hM.cell x y hx hy) rfl rfl rfl (hM.may x hx) ?_
  ·have hn' := zeC r2 bo oo n z x y (bk x) (ok x)
   simp only [tnO, by', e0z, cond_true] at hn'
   exact (hn' _ _).trans (qn_ok rfl)
  ·refine ⟨fun _ => none, TOk.nil, .nil, 1, 1, ?_⟩
   have hM2 := hM.set hx hy
   rw [fw_set hR hv] at hM2
   exact (zeD _ bo oo n z x y (bk x) (ok x) _ _).trans (qq_ok ⟨hM2, rfl, rfl, rfl⟩)
 ·rw [hv]
  refine ReachG.segR (SC_ok r1) TOk.nil (tm := .nil) (L := 1) (L' := 1) (d := 1) (n0 := 0) hF hro h0' [] (on := ⟨lvZ8, [], fun vs ms os => vs = vZ8 (RS bo oo n 0) n z x y ∧ ms = [] ∧ os = []⟩) (ox := fun _ => Outs.no) (orr := Outs.no) (fun p hp => nomatch hp) ((zeS r1 bo oo n z x y _ _ _ _).trans (qq_ok ⟨rfl, rfl, rfl⟩)) (fun vs ms os h => IsG.here ⟨?_, h⟩) (fun _ _ _ _ h => h.elim) (fun _ _ _ h => h.elim)
  rw [← fw_skip hR hv]
  exact hM
theorem zt_y (hn : n ≤ 12) (hR : RankOk n M) (hF : Wide F) (hro : RoRel γ none F.round) (h0' : ∀ i, 0 ≤ i → γ i = none) {z x : Nat} (hz : z < n) (hx : x < n) {r : Mem} (hM : MatM γ W r0 r bo oo n bk ok (fwM M z x 0)) {ox : Nat → OutsG} {orr : OutsG} :
  ReachG Tryd.prog mZt 136 F kk γ W (.block 10 (.loop Zt_17)) r (St.of lvZ8 (vZ8 (RS bo oo n 0) n z x 0) [] []) (CanG Tryd.prog mZt 136 γ W ⟨lvZ7, fun r1 vs ms os => MatM γ W r0 r1 bo oo n bk ok (fwM M z (x + 1) 0) ∧ vs = vZ7 (RS bo oo n 0) n z x ∧ ms = [] ∧ os = []⟩ ox orr) := by
 refine ReachG.blockC (ReachG.loopC (j := n) (lv := lvZ8) (I := fun j r1 vs ms os => ∃ y : Nat, y ≤ n ∧ j = n - y ∧ MatM γ W r0 r1 bo oo n bk ok (fwM M z x y) ∧ vs = vZ8 (RS bo oo n 0) n z x y ∧ ms = [] ∧ os = []) (fun j r1 vs ms os hI => ?_) ⟨0, by omega, rfl, hM, rfl, rfl, rfl⟩)
 obtain ⟨y, hy, rfl, hM1, rfl, rfl, rfl⟩ := hI
 rw [Zt17_eq]
 refine ReachG.seqC (o1 := ⟨lvZ8, fun r2 vs ms os => r2 = r1 ∧ y < n ∧ vs = vZ8 (RS bo oo n 0) n z x y ∧ ms = [] ∧ os = []⟩) (ReachG.segR (SC_ok r1) TOk.nil (tm := .nil) (L := 1) (L' := 1) (d := 1) (n0 := 0) hF hro h0' [(10, ⟨lvZ7, [], fun vs ms os => y = n ∧ vs = vZ7 (RS bo oo n 0) n z x ∧ ms = [] ∧ os = []⟩)] (on := ⟨lvZ8, [], fun vs ms os => y < n ∧ vs = vZ8 (RS bo oo n 0) n z x y ∧ ms = [] ∧ os = []⟩) (ox := fun j => if j = 10 then ⟨lvZ7, [], fun vs ms os => y = n ∧ vs = vZ7 (RS bo oo n 0) n z x ∧ ms = [] ∧ os = []⟩ else Outs.no) (orr := Outs.no) (fun p hp => by simp only [List.mem_cons, List.not_mem_nil, or_false] at hp; subst hp; rfl) ?_ (fun vs ms os h => IsG.here ⟨rfl, h⟩) (fun id vs ms os h => ?_) (fun _ _ _ h => h.elim)) fun r2 vs ms os hq => ?_
 ·have hn' := zdA r1 bo oo n z x y
  simp only [Int.ofNat_eq_natCast] at hn'
  by_cases c : y < n
  ·simp only [dT (show (y : Int) < (n : Int) by omega), cond_true] at hn'
   exact (hn' _ _ _ _).trans (qq_ok ⟨c, rfl, rfl, rfl⟩)
  ·simp only [dF (show ¬ (y : Int) < (n : Int) by omega), cond_false] at hn'
   exact (hn' _ _ _ _).trans (qq_ok ⟨by omega, rfl, rfl, rfl⟩)
 ·by_cases e : id = 10
  ·subst e
   obtain ⟨rfl, rfl, rfl, rfl⟩ := h
   rw [fw_next hR] at hM1
   exact IsG.here ⟨hM1, rfl, rfl, rfl⟩
  ·simp only [if_neg e] at h; exact h.elim
 obtain ⟨rfl, c, rfl, rfl, rfl⟩ := hq
 refine ReachG.seqC (zt_rnd hn hR hF hro h0' hz hx c hM1) fun r3 vs ms os hq => ?_
 obtain ⟨hM3, rfl, rfl, rfl⟩ := hq
 refine ReachG.segR (SC_ok r3) TOk.nil (tm := .nil) (L := 1) (L' := 1) (d := 1) (n0 := 0) hF hro h0' [] (on := ⟨lvZ8, [], fun vs ms os => vs = vZ8 (RS bo oo n 0) n z x (y + 1) ∧ ms = [] ∧ os = []⟩) (ox := fun _ => Outs.no) (orr := Outs.no) (fun p hp => nomatch hp) ?_ (fun vs ms os h => IsG.here ⟨n - (y + 1), by omega, y + 1, c, rfl, hM3, h⟩) (fun _ _ _ _ h => h.elim) (fun _ _ _ h => h.elim)
 have hn' := zfA r3 bo oo n z x y
 simp only [Int.ofNat_eq_natCast] at hn'
 rw [w1z y (by omega)] at hn'
 exact (hn' _ _ _ _).trans (qq_ok ⟨rfl, rfl, rfl⟩)
theorem zt_x (hn : n ≤ 12) (hR : RankOk n M) (hF : Wide F) (hro : RoRel γ none F.round) (h0' : ∀ i, 0 ≤ i → γ i = none) {z : Nat} (hz : z < n) {r : Mem} (hM : MatM γ W r0 r bo oo n bk ok M) {ox : Nat → OutsG} {orr : OutsG} :
  ReachG Tryd.prog mZt 136 F kk γ W (.block 8 (.loop (.seq Zt_15 (.seq (.block 9 (.seq Zt_16 (.block 10 (.loop Zt_17)))) Zt_18)))) r (St.of lvZ7 (vZ7 (RS bo oo n 0) n z 0) [] []) (CanG Tryd.prog mZt 136 γ W ⟨lvZ6, fun r1 vs ms os => MatM γ W r0 r1 bo oo n bk ok (fwM M z n 0) ∧ vs = vZ6 (RS bo oo n 0) n z ∧ ms = [] ∧ os = []⟩ ox orr) := by
 refine ReachG.blockC (ReachG.loopC (j := n) (lv := lvZ7) (I := fun j r1 vs ms os => ∃ x : Nat, x ≤ n ∧ j = n - x ∧ MatM γ W r0 r1 bo oo n bk ok (fwM M z x 0) ∧ vs = vZ7 (RS bo oo n 0) n z x ∧ ms = [] ∧ os = []) (fun j r1 vs ms os hI => ?_) ⟨0, by omega, rfl, by rw [fw_zero]; exact hM, rfl, rfl, rfl⟩)
 obtain ⟨x, hx, rfl, hM1, rfl, rfl, rfl⟩ := hI
 refine ReachG.seqC (o1 := ⟨lvZ7, fun r2 vs ms os => r2 = r1 ∧ x < n ∧ vs = vZ7 (RS bo oo n 0) n z x ∧ ms = [] ∧ os = []⟩) (ReachG.segR (SC_ok r1) TOk.nil (tm := .nil) (L := 1) (L' := 1) (d := 1) (n0 := 0) hF hro h0' [(8, ⟨lvZ6, [], fun vs ms os => x = n ∧ vs = vZ6 (RS bo oo n 0) n z ∧ ms = [] ∧ os = []⟩)] (on := ⟨lvZ7, [], fun vs ms os => x < n ∧ vs = vZ7 (RS bo oo n 0) n z x ∧ ms = [] ∧ os = []⟩) (ox := fun j => if j = 8 then ⟨lvZ6, [], fun vs ms os => x = n ∧ vs = vZ6 (RS bo oo n 0) n z ∧ ms = [] ∧ os = []⟩ else Outs.no) (orr := Outs.no) (fun p hp => by simp only [List.mem_cons, List.not_mem_nil, or_false] at hp; subst hp; rfl) ?_ (fun vs ms os h => IsG.here ⟨rfl, h⟩) (fun id vs ms os h => ?_) (fun _ _ _ h => h.elim)) fun r2 vs ms os hq => ?_
 ·have hn' := ztP r1 bo oo n z x
  simp only [Int.ofNat_eq_natCast] at hn'
  by_cases c : x < n
  ·simp only [dT (show (x : Int) < (n : Int) by omega), cond_true] at hn'
   exact (hn' _ _ _ _).trans (qq_ok ⟨c, rfl, rfl, rfl⟩)
  ·simp only [dF (show ¬ (x : Int) < (n : Int) by omega), cond_false] at hn'
   exact (hn' _ _ _ _).trans (qq_ok ⟨by omega, rfl, rfl, rfl⟩)
 ·by_cases e : id = 8
  ·subst e
   obtain ⟨rfl, rfl, rfl, rfl⟩ := h
   exact IsG.here ⟨hM1, rfl, rfl, rfl⟩
  ·simp only [if_neg e] at h; exact h.elim
 obtain ⟨rfl, c, rfl, rfl, rfl⟩ := hq
 refine ReachG.seqC (o1 := ⟨lvZ7, fun r3 vs ms os => MatM γ W r0 r3 bo oo n bk ok (fwM M z (x + 1) 0) ∧ vs = vZ7 (RS bo oo n 0) n z x ∧ ms = [] ∧ os = []⟩) (ReachG.blockC (ReachG.seqC (o1 := ⟨lvZ8, fun r3 vs ms os => r3 = r2 ∧ vs = vZ8 (RS bo oo n 0) n z x 0 ∧ ms = [] ∧ os = []⟩) (ReachG.segR (SC_ok r2) TOk.nil (tm := .nil) (L := 1) (L' := 1) (d := 1) (n0 := 0) hF hro h0' [] (on := ⟨lvZ8, [], fun vs ms os => vs = vZ8 (RS bo oo n 0) n z x 0 ∧ ms = [] ∧ os = []⟩) (ox := fun _ => Outs.no) (orr := Outs.no) (fun p hp => nomatch hp) ((ztQ r2 bo oo n z x _ _ _ _).trans (qq_ok ⟨rfl, rfl, rfl⟩)) (fun vs ms os h => IsG.here ⟨rfl, h⟩) (fun _ _ _ _ h => h.elim) (fun _ _ _ h => h.elim)) fun r3 vs ms os hq => ?_)) fun r3 vs ms os hq => ?_
 ·obtain ⟨rfl, rfl, rfl, rfl⟩ := hq
  exact zt_y hn hR hF hro h0' hz c hM1
 obtain ⟨hM3, rfl, rfl, rfl⟩ := hq
 refine ReachG.segR (SC_ok r3) TOk.nil (tm := .nil) (L := 1) (L' := 1) (d := 1) (n0 := 0) hF hro h0' [] (on := ⟨lvZ7, [], fun vs ms os => vs = vZ7 (RS bo oo n 0) n z (x + 1) ∧ ms = [] ∧ os = []⟩) (ox := fun _ => Outs.no) (orr := Outs.no) (fun p hp => nomatch hp) ?_ (fun vs ms os h => IsG.here ⟨n - (x + 1), by omega, x + 1, c, rfl, hM3, h⟩) (fun _ _ _ _ h => h.elim) (fun _ _ _ h => h.elim)
 have hn' := ztR r3 bo oo n z x
 simp only [Int.ofNat_eq_natCast] at hn'
 rw [w1z x (by omega)] at hn'
 exact (hn' _ _ _ _).trans (qq_ok ⟨rfl, rfl, rfl⟩)
theorem zt_z (hn : n ≤ 12) (hR : RankOk n M) (hF : Wide F) (hro : RoRel γ none F.round) (h0' : ∀ i, 0 ≤ i → γ i = none) {r : Mem} (hM : MatM γ W r0 r bo oo n bk ok M) {ox : Nat → OutsG} {orr : OutsG} :
  ReachG Tryd.prog mZt 136 F kk γ W (.block 6 (.loop (.seq Zt_13 (.seq (.block 7 (.seq Zt_14 (.block 8 (.loop (.seq Zt_15 (.seq (.block 9 (.seq Zt_16 (.block 10 (.loop Zt_17)))) Zt_18)))))) Zt_19)))) r (St.of lvZ6 (vZ6 (RS bo oo n 0) n 0) [] []) (CanG Tryd.prog mZt 136 γ W ⟨[5], fun r1 vs ms os => (∃ M', RankOk n M' ∧ TrP n M' ∧ MatM γ W r0 r1 bo oo n bk ok M') ∧ vs = [some (RS bo oo n 0)] ∧ ms = [] ∧ os = []⟩ ox orr) := by
 refine ReachG.blockC (ReachG.loopC (j := n) (lv := lvZ6) (I := fun j r1 vs ms os => ∃ z : Nat, z ≤ n ∧ j = n - z ∧ (∃ M', RankOk n M' ∧ TrP z M' ∧ MatM γ W r0 r1 bo oo n bk ok M') ∧ vs = vZ6 (RS bo oo n 0) n z ∧ ms = [] ∧ os = []) (fun j r1 vs ms os hI => ?_) ⟨0, by omega, rfl, ⟨M, hR, fun k hk => absurd hk (by omega), hM⟩, rfl, rfl, rfl⟩)
 obtain ⟨z, hz, rfl, ⟨M', hR', hT', hM1⟩, rfl, rfl, rfl⟩ := hI
 refine ReachG.seqC (o1 := ⟨lvZ6, fun r2 vs ms os => r2 = r1 ∧ z < n ∧ vs = vZ6 (RS bo oo n 0) n z ∧ ms = [] ∧ os = []⟩) (ReachG.segR (SC_ok r1) TOk.nil (tm := .nil) (L := 1) (L' := 1) (d := 1) (n0 := 0) hF hro h0' [(6, ⟨[5], [], fun vs ms os => z = n ∧ vs = [some (RS bo oo n 0)] ∧ ms = [] ∧ os = []⟩)] (on := ⟨lvZ6, [], fun vs ms os => z < n ∧ vs = vZ6 (RS bo oo n 0) n z ∧ ms = [] ∧ os = []⟩) (ox := fun j => if j = 6 then ⟨[5], [], fun vs ms os => z = n ∧ vs = [some (RS bo oo n 0)] ∧ ms = [] ∧ os = []⟩ else Outs.no) (orr := Outs.no) (fun p hp => by simp only [List.mem_cons, List.not_mem_nil, or_false] at hp; subst hp; rfl) ?_ (fun vs ms os h => IsG.here ⟨rfl, h⟩) (fun id vs ms os h => ?_) (fun _ _ _ h => h.elim)) fun r2 vs ms os hq => ?_
 ·have hn' := ztN r1 bo oo n z
  simp only [Int.ofNat_eq_natCast] at hn'
  by_cases c : z < n
  ·simp only [dT (show (z : Int) < (n : Int) by omega), cond_true] at hn'
   exact (hn' _ _ _ _).trans (qq_ok ⟨c, rfl, rfl, rfl⟩)
  ·simp only [dF (show ¬ (z : Int) < (n : Int) by omega), cond_false] at hn'
   exact (hn' _ _ _ _).trans (qq_ok ⟨by omega, rfl, rfl, rfl⟩)
 ·by_cases e : id = 6
  ·subst e
   obtain ⟨rfl, rfl, rfl, rfl⟩ := h
   exact IsG.here ⟨⟨M', hR', hT', hM1⟩, rfl, rfl, rfl⟩
  ·simp only [if_neg e] at h; exact h.elim
 obtain ⟨rfl, c, rfl, rfl, rfl⟩ := hq
 refine ReachG.seqC (o1 := ⟨lvZ6, fun r3 vs ms os => MatM γ W r0 r3 bo oo n bk ok (fwM M' z n 0) ∧ vs = vZ6 (RS bo oo n 0) n z ∧ ms = [] ∧ os = []⟩) (ReachG.blockC (ReachG.seqC (o1 := ⟨lvZ7, fun r3 vs ms os => r3 = r2 ∧ vs = vZ7 (RS bo oo n 0) n z 0 ∧ ms = [] ∧ os = []⟩) (ReachG.segR (SC_ok r2) TOk.nil (tm := .nil) (L := 1) (L' := 1) (d := 1) (n0 := 0) hF hro h0' [] (on := ⟨lvZ7, [], fun vs ms os => vs = vZ7 (RS bo oo n 0) n z 0 ∧ ms = [] ∧ os = []⟩) (ox := fun _ => Outs.no) (orr := Outs.no) (fun p hp => nomatch hp) ((ztO r2 bo oo n z _ _ _ _).trans (qq_ok ⟨rfl, rfl, rfl⟩)) (fun vs ms os h => IsG.here ⟨rfl, h⟩) (fun _ _ _ _ h => h.elim) (fun _ _ _ h => h.elim)) fun r3 vs ms os hq => ?_)) fun r3 vs ms os hq => ?_
 ·obtain ⟨rfl, rfl, rfl, rfl⟩ := hq
  exact zt_x hn hR' hF hro h0' c hM1
 obtain ⟨hM3, rfl, rfl, rfl⟩ := hq
 refine ReachG.segR (SC_ok r3) TOk.nil (tm := .nil) (L := 1) (L' := 1) (d := 1) (n0 := 0) hF hro h0' [] (on := ⟨lvZ6, [], fun vs ms os => vs = vZ6 (RS bo oo n 0) n (z + 1) ∧ ms = [] ∧ os = []⟩) (ox := fun _ => Outs.no) (orr := Outs.no) (fun p hp => nomatch hp) ?_ (fun vs ms os h => IsG.here ⟨n - (z + 1), by omega, z + 1, c, rfl, ⟨_, fw_rank hR', fw_tr hR' hT', hM3⟩, h⟩) (fun _ _ _ _ h => h.elim) (fun _ _ _ h => h.elim)
 have hn' := ztS r3 bo oo n z
 simp only [Int.ofNat_eq_natCast] at hn'
 rw [w1z z (by omega)] at hn'
 exact (hn' _ _ _ _).trans (qq_ok ⟨rfl, rfl, rfl⟩)
end
end Go.Proofs
namespace Go.Proofs
open Go Go.Ev Go.Num
theorem zT {p : Prop} {i : Decidable p} (h : p) {a b c : CR} (e : a = c) : (bif @decide p i then a else b) = c := by rw [@decide_eq_true _ i h]; exact e
theorem zF {p : Prop} {i : Decidable p} (h : ¬ p) {a b c : CR} (e : b = c) : (bif @decide p i then a else b) = c := by rw [@decide_eq_false _ i h]; exact e
theorem tmod5 {n x : Nat} (hn : 1 ≤ n) (hx : x ≤ 1000) : Int.tmod (IntKind.wrap IntKind.i64 (IntKind.wrap IntKind.i64 (((5 : Nat) : Int) * ((x : Nat) : Int)) + ((1 : Nat) : Int))) ((n : Nat) : Int) = (((5 * x + 1) % n : Nat) : Int) := by
 have e1 : IntKind.wrap IntKind.i64 (((5 : Nat) : Int) * ((x : Nat) : Int)) = ((5 * x : Nat) : Int) := by
  rw [← Int.natCast_mul]
  exact wrI (by omega)
 rw [e1, show IntKind.wrap IntKind.i64 (((5 * x : Nat) : Int) + ((1 : Nat) : Int)) = ((5 * x + 1 : Nat) : Int) from inc1' (by omega)]
 exact (Int.ofNat_tmod _ _).symm
section
variable {r0 : Mem} {bp op m bo oo n : Nat} {bk ok : Nat → Nat} {T : List (List Bool)} {F : Fence} {kk : Nat} {γ : Gam} {W : World}
theorem zu_rnd (h1 : 1 ≤ n) (hn : n ≤ 12) (hp : TabM r0 bp op T) (hTl : T.length = m) (hm : m ≤ 1000) (hF : Wide F) (hro : RoRel γ none F.round) (h0' : ∀ i, 0 ≤ i → γ i = none) {x y : Nat} (hxy : x < y) (hy : y < n) {r : Mem} {M : Nat → Nat → Bool} (hR : RankOk n M) (hM : MatM γ W r0 r bo oo n bk ok M) {ox : Nat → OutsG} {orr : OutsG} :
  ReachG Tryd.prog mZt 136 F kk γ W (.block 5 (.seq Zb0 (.seq Zb1 (.cond (.tmp 89) (.seq Zb2 Zb3) .skip)))) r (St.of lvZ3 (vZ3 (RS bp op m 0) (RS bo oo n 0) n x y) [] []) (CanG Tryd.prog mZt 136 γ W ⟨lvZ3, fun r1 vs ms os => (∃ M', RankOk n M' ∧ MatM γ W r0 r1 bo oo n bk ok M') ∧ vs = vZ3 (RS bp op m 0) (RS bo oo n 0) n x y ∧ ms = [] ∧ os = []⟩ ox orr) := by
 generalize ha : (5 * x + 1) % n = a
 generalize hb : (5 * y + 1) % n = b
 have han : a < n := by rw [← ha]; exact Nat.mod_lt _ (by omega)
 have hbn : b < n := by rw [← hb]; exact Nat.mod_lt _ (by omega)
 refine ReachG.blockC (ReachG.seqC (o1 := ⟨lvZ4, fun r1 vs ms os => r1 = r ∧ vs = vZ4 (RS bp op m 0) (RS bo oo n 0) n x y a b ∧ ms = [] ∧ os = []⟩) (ReachG.segR (SC_ok r) TOk.nil (tm := .nil) (L := 1) (L' := 1) (d := 1) (n0 := 0) hF hro h0' [] (on := ⟨lvZ4, [], fun vs ms os => vs = vZ4 (RS bp op m 0) (RS bo oo n 0) n x y a b ∧ ms = [] ∧ os = []⟩) (ox := fun _ => Outs.no) (orr := Outs.no) (fun p hp => nomatch hp) ?_ (fun vs ms os h => IsG.here ⟨rfl, h⟩) (fun _ _ _ _ h => h.elim) (fun _ _ _ h => h.elim)) fun r1 vs ms os hq => ?_)
 ·have hn' := zbA r bp op m n bo oo x y
  have z0 : (!decide ((n : Int) = 0)) = true := by rw [decide_eq_false (by omega)]; rfl
  simp only [Int.ofNat_eq_natCast, z0, cond_true] at hn'
  rw [tmod5 h1 (by omega), tmod5 h1 (by omega), ha, hb] at hn'
  exact (hn' _ _ _ _).trans (qq_ok ⟨rfl, rfl, rfl⟩)
 obtain ⟨rfl, rfl, rfl, rfl⟩ := hq
 have hp1 : ∀ i l, T[i]? = some l → ∃ v, r1 bp (op + i) = some v ∧ RowV r1 v l := fun i l hl => by
  obtain ⟨v, h2, h3⟩ := hp i l hl
  exact ⟨v, hM.le _ _ _ h2, h3.mono hM.le⟩
 have hp1 : TabM r1 bp op T := hp1
 refine ReachG.seqC (o1 := ⟨lvZ5, fun r2 vs ms os => r2 = r1 ∧ ∃ v : Bool, (v = true → n % 5 ≠ 0) ∧ vs = vZ4 (RS bp op m 0) (RS bo oo n 0) n x y a b ++ [some (.bool v)] ∧ ms = [] ∧ os = []⟩) ?_ fun r2 vs ms os hq => ?_
 ·have fin : ∀ {ox' : Nat → OutsG} (sh : Nat) (v : Bool), (v = true → n % 5 ≠ 0) → (∀ (fs : FnsC) (K : KO) (kx : Nat → KS) (kr : KS), run (SS r1 sh) mZt 136 1 Zb1 fs none (rbK 0 lvZ5 [] K) kx kr [] (bT lvZ4 (vZ4 (RS bp op m 0) (RS bo oo n 0) n x y a b) .nil) [] (mkA []) = K (vZ4 (RS bp op m 0) (RS bo oo n 0) n x y a b ++ [some (.bool v)]) [] []) →
    ReachG Tryd.prog mZt 136 F kk γ W Zb1 r1 (St.of lvZ4 (vZ4 (RS bp op m 0) (RS bo oo n 0) n x y a b) [] []) (CanG Tryd.prog mZt 136 γ W ⟨lvZ5, fun r2 vs ms os => r2 = r1 ∧ ∃ v : Bool, (v = true → n % 5 ≠ 0) ∧ vs = vZ4 (RS bp op m 0) (RS bo oo n 0) n x y a b ++ [some (.bool v)] ∧ ms = [] ∧ os = []⟩ ox' orr) := fun {ox'} sh v hv h =>
   ReachG.segS (C := SS r1 sh) rfl rfl (SS_ok r1 sh) (t := fun _ => none) TOk.nil (tm := .nil) (L' := 1) (d := 1) (L := 1) (n0 := 0) hF hro h0' [] (on := ⟨lvZ5, [], fun vs ms os => vs = vZ4 (RS bp op m 0) (RS bo oo n 0) n x y a b ++ [some (.bool v)] ∧ ms = [] ∧ os = []⟩) (ox := fun _ => Outs.no) (orr := Outs.no) (fun p hp => nomatch hp) ((h _ _ _ _).trans (qq_ok ⟨rfl, rfl, rfl⟩)) (fun vs ms os h => IsG.here ⟨rfl, v, hv, h⟩) (fun _ _ _ _ h => h.elim) (fun _ _ _ h => h.elim)
  by_cases cab : a = b
  ·refine fin 1 false (fun h => nomatch h) fun fs K kx kr => ?_
   have hn' := zbBN r1 bp op m n bo oo x y a b
   simp only [Int.ofNat_eq_natCast, show ((a : Int) != (b : Int)) = false from neF (by omega), cond_false] at hn'
   exact hn' _ _ _ _
  ·have cab' : ((a : Int) != (b : Int)) = true := neT (by omega)
   by_cases cx : x < m
   ·have bx : Nat.blt x m = true := Nat.ble_eq_true_of_le (by omega)
    by_cases hz : (T.getD x []).length = 0
    ·obtain ⟨u, hu, hr⟩ := tab_row hp1 (i := x) (by omega)
     have hun : u = nilT := by
      rcases hr with ⟨_, h⟩ | ⟨h, _⟩
      ·exact h
      ·exact absurd (List.length_eq_zero_iff.1 hz) h
     subst hun
     refine fin 1 false (fun h => nomatch h) fun fs K kx kr => ?_
     have hn' := zbBN r1 bp op m n bo oo x y a b
     simp only [Int.ofNat_eq_natCast, Int.toNat_natCast, cab', dT (show (x : Int) < (m : Int) by omega), bx, e0z, hu, show isNilS nilT = true from rfl, cond_true] at hn'
     exact hn' _ _ _ _
    ·obtain ⟨b2, o2, c2, hu, hr⟩ := tab_RS hp1 (i := x) (by omega) hz
     have hn' := zbBR r1 bp op m n bo oo x y a b
     simp only [Int.ofNat_eq_natCast, Int.toNat_natCast, cab', dT (show (x : Int) < (m : Int) by omega), bx, e0z, hu, ro_RS, ln_RS, bk_RS, of_RS, cond_true] at hn'
     by_cases cy : y < (T.getD x []).length
     ·have by' : Nat.blt y (T.getD x []).length = true := Nat.ble_eq_true_of_le (by omega)
      simp only [by', hr y cy, b_bl, o_bl, cond_true] at hn'
      cases hg : gT T x y with
      | false =>
       refine fin 2 false (fun h => nomatch h) fun fs K kx kr => (hn' _ _ _ _).trans (zT (by omega) ?_)
       simp only [hg, cond_false]
       rfl
      | true =>
       by_cases c5 : n % 5 = 0
       ·refine fin 2 false (fun h => nomatch h) fun fs K kx kr => (hn' _ _ _ _).trans (zT (by omega) ?_)
        have e5 : (Int.tmod ((n : Nat) : Int) ((5 : Nat) : Int) != ((0 : Nat) : Int)) = false := neF (by rw [← Int.ofNat_tmod]; omega)
        simp only [hg, cond_true, e5, cond_false]
        rfl
       ·refine fin 2 true (fun _ => c5) fun fs K kx kr => (hn' _ _ _ _).trans (zT (by omega) ?_)
        have e5 : (Int.tmod ((n : Nat) : Int) ((5 : Nat) : Int) != ((0 : Nat) : Int)) = true := neT (by rw [← Int.ofNat_tmod]; omega)
        simp only [hg, cond_true, e5]
        rfl
     ·exact fin 2 false (fun h => nomatch h) fun fs K kx kr => (hn' _ _ _ _).trans (zF (by omega) rfl)
   ·refine fin 1 false (fun h => nomatch h) fun fs K kx kr => ?_
    have hn' := zbBN r1 bp op m n bo oo x y a b
    simp only [Int.ofNat_eq_natCast, cab', dF (show ¬ (x : Int) < (m : Int) by omega), cond_true, cond_false] at hn'
    exact hn' _ _ _ _
 obtain ⟨rfl, v, hv5, rfl, rfl, rfl⟩ := hq
 refine ReachG.cond (v := v) (by kernel_rfl) (fun hv => ?_) fun hv => ?_
 ·subst hv
  have ban : Nat.blt a n = true := Nat.ble_eq_true_of_le (by omega)
  have bbn : Nat.blt b n = true := Nat.ble_eq_true_of_le (by omega)
  refine ReachG.seqC (o1 := ⟨[3, 4, 5, 7, 8, 10, 11], fun r3 vs ms os => r3 = r2 ∧ vs = [some (RS bp op m 0), some (I (n : Nat)), some (RS bo oo n 0), some (I (x : Nat)), some (I (y : Nat)), some (I (b : Nat)), some (RS (bk a) (ok a) n n)] ∧ ms = [] ∧ os = []⟩) (ReachG.segS (C := SS r2 2) rfl rfl (SS_ok r2 2) (t := fun _ => none) TOk.nil (tm := .nil) (L' := 1) (d := 1) (L := 1) (n0 := 0) hF hro h0' [] (on := ⟨[3, 4, 5, 7, 8, 10, 11], [], fun vs ms os => vs = [some (RS bp op m 0), some (I (n : Nat)), some (RS bo oo n 0), some (I (x : Nat)), some (I (y : Nat)), some (I (b : Nat)), some (RS (bk a) (ok a) n n)] ∧ ms = [] ∧ os = []⟩) (ox := fun _ => Outs.no) (orr := Outs.no) (fun p hp => nomatch hp) ?_ (fun vs ms os h => IsG.here ⟨rfl, h⟩) (fun _ _ _ _ h => h.elim) (fun _ _ _ h => h.elim)) fun r3 vs ms os hq => ?_
  ·have hn' := zbC r2 bp op m n bo oo x y a b
   simp only [tnO, ban, e0z, hM.row a han, ro_RS, ln_RS, bk_RS, of_RS, cp_RS, cond_true] at hn'
   exact (hn' _ _ _ _).trans (qq_ok ⟨rfl, rfl, rfl⟩)
  obtain ⟨rfl, rfl, rfl, rfl⟩ := hq
  refine ReachG.storeC (fl := []) SC_ok hF h0' TOk.nil (tm := .nil) (L := 1) (d := 1) 3 (s1 := [(96, .pointer (some ⟨bk a, ok a + b, some 0⟩)), (95, I (b : Nat)), (94, RS (bk a) (ok a) n n)]) (b1 := bT [3, 4, 5, 7, 8, 10, 11] [some (RS bp op m 0), some (I (n : Nat)), some (RS bo oo n 0), some (I (x : Nat)), some (I (y : Nat)), some (I (b : Nat)), some (RS (bk a) (ok a) n n)] .nil) (ms1 := []) (A1 := mkA []) (bb := bk a) (j := ok a + b) (v := .bool true) ?_ (by kernel_rfl) (hM.own a han) (hM.cell a b han hbn) rfl rfl rfl (hM.may a han) ?_
  ·have hn' := zbD r3 bp op m n bo oo x y b (bk a) (ok a)
   simp only [tnO, bbn, e0z, cond_true] at hn'
   exact (hn' _ _).trans (qn_ok rfl)
  ·refine ⟨fun _ => none, TOk.nil, .nil, 1, 1, ?_⟩
   have hR2 := hR.set hn (hv5 rfl) hxy hy
   rw [ha, hb] at hR2
   exact (zbE _ bp op m n bo oo x y b (bk a) (ok a) _ _).trans (qq_ok ⟨⟨_, hR2, hM.set han hbn⟩, rfl, rfl, rfl⟩)
 ·subst hv
  exact ReachG.segR (SC_ok r2) TOk.nil (tm := .nil) (L := 1) (L' := 1) (d := 1) (n0 := 0) hF hro h0' [] (on := ⟨lvZ3, [], fun vs ms os => vs = vZ3 (RS bp op m 0) (RS bo oo n 0) n x y ∧ ms = [] ∧ os = []⟩) (ox := fun _ => Outs.no) (orr := Outs.no) (fun p hp => nomatch hp) ((zbS r2 bp op m n bo oo x y a b _ _ _ _).trans (qq_ok ⟨rfl, rfl, rfl⟩)) (fun vs ms os h => IsG.here ⟨⟨M, hR, hM⟩, h⟩) (fun _ _ _ _ h => h.elim) (fun _ _ _ h => h.elim)
end
end Go.Proofs
namespace Go.Proofs
open Go Go.Ev Go.Num
theorem frzZ (j b o n : Nat) (h : n < unk) : frzV j b o (.slice (some ⟨j, 0, none⟩) n n) = some (RS b o n n) := by
 show (match Nat.beq j j with | true => (match (Nat.beq n 0 && Nat.beq n unkE) with | true => some (Value.slice (some ⟨j, 0, none⟩) n n) | false => some (Value.slice (some ⟨b, o + 0, some 0⟩) n (frzC n))) | false => some (Value.slice (some ⟨j, 0, none⟩) n n)) = _
 rw [Nat.beq_refl, show Nat.beq n unkE = false from natFx (by unfold unkE; unfold unk at h; omega), Bool.and_false]
 have : frzC n = n := by
  unfold frzC
  rw [show Nat.blt n unk = true from Nat.ble_eq_true_of_le h]
 rw [this]; rfl
theorem frzU (j b o n : Nat) : frzV j b o (.slice (some ⟨j, 0, none⟩) n unk) = some (RS b o n 0) := by
 show (match Nat.beq j j with | true => (match (Nat.beq n 0 && Nat.beq unk unkE) with | true => some (Value.slice (some ⟨j, 0, none⟩) n unk) | false => some (Value.slice (some ⟨b, o + 0, some 0⟩) n (frzC unk))) | false => some (Value.slice (some ⟨j, 0, none⟩) n unk)) = _
 rw [Nat.beq_refl, show Nat.beq unk unkE = false by decide, Bool.and_false]
 rfl
theorem zerB (n : Nat) : zerosL (Nat.mul n 1) [.bool false] = List.replicate n (Value.bool false) := by
 show List.replicate (Nat.mul n 1) (Value.bool false) = _
 rw [Nat.mul_eq, Nat.mul_one]
theorem nnsRep (v : Value) (hv : nn v = true) : ∀ n, m_nns (List.replicate n v) = true
 | 0 => rfl
 | n + 1 => by
  have ih := nnsRep v hv n
  show (nn v && nns (List.replicate n v)) = true
  unfold m_nns at ih
  rw [hv, ih]; rfl
theorem isG_trans {P : Program} {m n : Nat} {γ0 : Gam} {W0 : World} {o1 o2 : OutsG} {r : Mem} {st : St} (h : IsG P m n γ0 W0 o1 r st) (hq : ∀ r vs ms os, o1.Q r vs ms os → IsG P m n γ0 W0 o2 r (St.of o1.lv vs ms os)) : IsG P m n γ0 W0 o2 r st := fun γ a W hs hb => by
 obtain ⟨r1, γ1, vs, ms, os, q, s, b⟩ := h γ a W hs hb
 exact hq r1 vs ms os q γ1 a W s b
structure RowsZ (γ0 : Gam) (W0 : World) (r0 r : Mem) (c : List Value) (n x : Nat) (bk ok : Nat → Nat) : Prop where
 le : Mem.le r0 r
 nn : m_nns c = true
 len : c.length = x
 row : ∀ i, i < x → c[i]? = some (RS (bk i) (ok i) n n)
 own : ∀ i, i < x → r.own (bk i) = true
 may : ∀ i, i < x → bk i < W0.heap.size → ∃ k g, γ0 k = some g ∧ g.blk = bk i
 new : ∀ i, i < x → ∀ k, r0 (bk i) k = none
 cell : ∀ i y, i < x → y < n → r (bk i) (ok i + y) = some (.bool false)
 inj : ∀ i j, i < x → j < x → bk i = bk j → i = j
theorem RowsZ.snoc {γ0 : Gam} {W0 : World} {r0 r r1 : Mem} {c : List Value} {n x : Nat} {bk ok : Nat → Nat} (h : RowsZ γ0 W0 r0 r c n x bk ok) (h1 : 1 ≤ n) {b o : Nat} (hle : Mem.le r r1) (hF : Frz γ0 W0 r r1 b) (hc : ∀ y, y < n → r1 b (o + y) = some (.bool false)) : RowsZ γ0 W0 r0 r1 (c ++ [RS b o n n]) n (x + 1) (fun i => if i = x then b else bk i) (fun i => if i = x then o else ok i) := by
 have old : ∀ i, i < x → bk i ≠ b := fun i hi e => by
  have := h.cell i 0 hi (by omega)
  rw [e, hF.fresh] at this
  cases this
 refine ⟨Mem.le_trans h.le hle, by rw [nns_app, h.nn]; rfl, by simp [h.len], fun i hi => ?_, fun i hi => ?_, fun i hi hlt => ?_, fun i hi k => ?_, fun i y hi hy => ?_, fun i j hi hj e => ?_⟩
 ·by_cases d : i = x
  ·subst d
   rw [List.getElem?_append_right (by rw [h.len]; exact Nat.le_refl _), h.len, Nat.sub_self, if_pos rfl, if_pos rfl]
   rfl
  ·rw [List.getElem?_append_left (by rw [h.len]; omega), if_neg d, if_neg d]
   exact h.row i (by omega)
 ·by_cases d : i = x
  ·rw [if_pos d]; exact hF.own
  ·rw [if_neg d, (hF.other _ (old i (by omega))).2]; exact h.own i (by omega)
 ·by_cases d : i = x
  ·simp only [if_pos d] at hlt ⊢; exact hF.may hlt
  ·simp only [if_neg d] at hlt ⊢; exact h.may i (by omega) hlt
 ·by_cases d : i = x
  ·rw [if_pos d]
   cases q : r0 b k with
   | none => rfl
   | some u => have := h.le _ _ _ q; rw [hF.fresh] at this; cases this
  ·rw [if_neg d]; exact h.new i (by omega) k
 ·by_cases d : i = x
  ·rw [if_pos d, if_pos d]; exact hc y hy
  ·rw [if_neg d, if_neg d]; exact hle _ _ _ (h.cell i y (by omega) hy)
 ·by_cases d : i = x
  ·by_cases f : j = x
   ·omega
   ·rw [if_pos d, if_neg f] at e
    exact absurd e.symm (old j (by omega))
  ·by_cases f : j = x
   ·rw [if_neg d, if_pos f] at e
    exact absurd e (old i (by omega))
   ·rw [if_neg d, if_neg f] at e
    exact h.inj i j (by omega) (by omega) e
theorem RowsZ.mat {γ0 : Gam} {W0 : World} {r0 r r1 : Mem} {c : List Value} {n : Nat} {bk ok : Nat → Nat} (h : RowsZ γ0 W0 r0 r c n n bk ok) (h1 : 1 ≤ n) {b o : Nat} (hle : Mem.le r r1) (hF : Frz γ0 W0 r r1 b) (hc : ∀ k u, c[k]? = some u → r1 b (o + k) = some u) : MatM γ0 W0 r0 r1 b o n bk ok (fun _ _ => false) := by
 have old : ∀ i, i < n → bk i ≠ b := fun i hi e => by
  have := h.cell i 0 hi (by omega)
  rw [e, hF.fresh] at this
  cases this
 exact ⟨Mem.le_trans h.le hle, fun i hi => hc i _ (h.row i hi), old, fun i hi => by rw [(hF.other _ (old i hi)).2]; exact h.own i hi, h.may, h.new, fun i y hi hy => hle _ _ _ (h.cell i y hi hy), h.inj⟩
section
variable {r0 : Mem} {bp op m n : Nat} {T : List (List Bool)} {F : Fence} {kk : Nat} {γ : Gam} {W : World}
theorem zv_x (h1 : 1 ≤ n) (hn : n ≤ 12) (hF : Wide F) (hro : RoRel γ none F.round) (h0' : ∀ i, 0 ≤ i → γ i = none) {ox : Nat → OutsG} {orr : OutsG} :
  ReachG Tryd.prog mZt 136 F kk γ W (.block 0 (.loop Zt_6)) r0 (St.of lvZ0 (vZ0 (RS bp op m 0) nilT n 0) [] []) (CanG Tryd.prog mZt 136 γ W ⟨[3, 4, 5], fun r1 vs ms os => ∃ bo oo bk ok, MatM γ W r0 r1 bo oo n bk ok (fun _ _ => false) ∧ vs = [some (RS bp op m 0), some (I (n : Nat)), some (RS bo oo n 0)] ∧ ms = [] ∧ os = []⟩ ox orr) := by
 have hunk : n < unk := by unfold unk; omega
 have b4 : Nat.ble n n = true := Nat.ble_eq_true_of_le (Nat.le_refl _)
 have b5 : Nat.ble n 1000000 = true := Nat.ble_eq_true_of_le (by omega)
 have zc : ∀ b o (r : Mem), (∀ k u, (List.replicate n (Value.bool false))[k]? = some u → r b (o + k) = some u) → ∀ y, y < n → r b (o + y) = some (.bool false) := fun b o r h y hy => h y _ (by rw [List.getElem?_replicate, if_pos hy])
 refine ReachG.blockC (ReachG.loopC (j := n) (lv := lvZ0) (I := fun j r1 vs ms os => ∃ x : Nat, x ≤ n ∧ j = n - x ∧ ms = [] ∧ ((x = 0 ∧ r1 = r0 ∧ vs = vZ0 (RS bp op m 0) nilT n 0 ∧ os = []) ∨ (1 ≤ x ∧ ∃ c bk ok, vs = vZ0 (RS bp op m 0) (gwT 0 x) n x ∧ os = [oTb c 0] ∧ RowsZ γ W r0 r1 c n x bk ok))) (fun j r1 vs ms os hI => ?_) ⟨0, by omega, rfl, rfl, .inl ⟨rfl, rfl, rfl, rfl⟩⟩)
 obtain ⟨x, hx, rfl, rfl, hcase⟩ := hI
 rcases hcase with ⟨rfl, rfl, rfl, rfl⟩ | ⟨hx1, c, bk, ok, rfl, rfl, hZ⟩
 ·refine ReachG.segR (SC_ok r1) TOk.nil (tm := .nil) (L := 1) (L' := 1) (d := 1) (n0 := 0) hF hro h0' [(0, ⟨[3, 4, 5], [], fun _ _ _ => False⟩)] (on := ⟨lvZ0, [.t, .g], fun vs ms os => vs = vZ0 (RS bp op m 0) (gwT 0 1) n 1 ∧ ms = [] ∧ os = [oTb [.slice (some ⟨1, 0, none⟩) n n] 0, oBo (List.replicate n (.bool false)) 1]⟩) (ox := fun j => if j = 0 then ⟨[3, 4, 5], [], fun _ _ _ => False⟩ else Outs.no) (orr := Outs.no) (fun p hp => by simp only [List.mem_cons, List.not_mem_nil, or_false] at hp; subst hp; rfl) ?_ ?_ (fun id vs ms os h => ?_) (fun _ _ _ h => h.elim)
  ·have hn' := ztHn r1 bp op m n 0
   simp only [tnO] at hn'
   simp only [Int.ofNat_eq_natCast, dT (show ((0 : Nat) : Int) < (n : Int) by omega), b4, b5, zerB, nnsRep (.bool false) rfl n, Bool.and_true, Bool.true_and, cond_true] at hn'
   rw [w1z 0 (by omega)] at hn'
   exact (hn' _ _ _ _).trans (qq_ok ⟨rfl, rfl, rfl⟩)
  ·rintro vs ms os ⟨rfl, rfl, rfl⟩
   refine IsG.freezeO (os0 := [oTb [.slice (some ⟨1, 0, none⟩) n n] 0]) (j := 1) h0' rfl (Nat.zero_le _) rfl (nnsRep (.bool false) rfl n) fun b' o' r2 hle hFz hrow => ?_
   have hz0 : RowsZ γ W r1 r1 [] n 0 (fun _ => 0) (fun _ => 0) := ⟨Mem.le_refl _, rfl, rfl, fun i h => absurd h (by omega), fun i h => absurd h (by omega), fun i h => absurd h (by omega), fun i h => absurd h (by omega), fun i y h => absurd h (by omega), fun i j h => absurd h (by omega)⟩
   refine ⟨vZ0 (RS bp op m 0) (gwT 0 1) n 1, [oTb [RS b' o' n n] 0], rfl, ?_, n - 1, by omega, 1, h1, rfl, rfl, .inr ⟨Nat.le_refl _, _, _, _, rfl, rfl, hz0.snoc h1 hle hFz (zc b' o' r2 hrow)⟩⟩
   have e1 : frzVs 1 b' o' [.slice (some ⟨1, 0, none⟩) n n] = some [RS b' o' n n] := frzVs_one _ _ _ _ _ (frzZ 1 b' o' n hunk)
   unfold oTb
   simp only [frzAs, frzA, e1]
  ·by_cases e : id = 0
   ·subst e; exact h.elim
   ·simp only [if_neg e] at h; exact h.elim
 ·have hn' := ztHo r1 bp op m n x x c
  simp only [tnO] at hn'
  by_cases cx : x < n
  ·refine ReachG.segR (SC_ok r1) TOk.nil (tm := .nil) (L := 1) (L' := 1) (d := 1) (n0 := 0) hF hro h0' [(0, ⟨[3, 4, 5], [.g], fun _ _ _ => False⟩)] (on := ⟨lvZ0, [.q [1], .g], fun vs ms os => vs = vZ0 (RS bp op m 0) (gwT 0 (x + 1)) n (x + 1) ∧ ms = [] ∧ os = [oTb (c ++ [.slice (some ⟨1, 0, none⟩) n n]) 0, oBo (List.replicate n (.bool false)) 1]⟩) (ox := fun j => if j = 0 then ⟨[3, 4, 5], [.g], fun _ _ _ => False⟩ else Outs.no) (orr := Outs.no) (fun p hp => by simp only [List.mem_cons, List.not_mem_nil, or_false] at hp; subst hp; rfl) ?_ ?_ (fun id vs ms os h => ?_) (fun _ _ _ h => h.elim)
   ·have m1 : Nat.ble (Nat.add x 1) 1000000 = true := Nat.ble_eq_true_of_le (by simp only [Nat.add_eq]; omega)
    have tk : takeAt c 0 (Nat.mul x 1) = some c := takeL_row _ _ (by rw [hZ.len]; simp)
    have s2 : m_mvq [3, 1] (c ++ [.slice (some ⟨1, 0, none⟩) n n]) = c ++ [.slice (some ⟨1, 0, none⟩) n n] := by rw [mvq_app, mvq_nn hZ.nn]; rfl
    have s3 : m_nopo (c ++ [.slice (some ⟨1, 0, none⟩) n n]) = true := by rw [nopo_app, nopo_nn hZ.nn]; rfl
    simp only [Int.ofNat_eq_natCast, dT (show (x : Int) < (n : Int) by omega), b4, b5, m1, tk, s2, s3, zerB, nnsRep (.bool false) rfl n, Bool.and_true, cond_true] at hn'
    rw [w1z x (by omega)] at hn'
    exact (hn' _ _ _ _).trans (qq_ok ⟨rfl, rfl, rfl⟩)
   ·rintro vs ms os ⟨rfl, rfl, rfl⟩
    refine IsG.freezeO (os0 := [oTb (c ++ [.slice (some ⟨1, 0, none⟩) n n]) 0]) (j := 1) h0' rfl (Nat.zero_le _) rfl (nnsRep (.bool false) rfl n) fun b' o' r2 hle hFz hrow => ?_
    refine ⟨vZ0 (RS bp op m 0) (gwT 0 (x + 1)) n (x + 1), [oTb (c ++ [RS b' o' n n]) 0], rfl, ?_, n - (x + 1), by omega, x + 1, cx, rfl, rfl, .inr ⟨by omega, _, _, _, rfl, rfl, hZ.snoc h1 hle hFz (zc b' o' r2 hrow)⟩⟩
    have e1 := frzVs_app 1 b' o' c [.slice (some ⟨1, 0, none⟩) n n] c [RS b' o' n n] (frzVs_nn 1 b' o' c hZ.nn) (frzVs_one _ _ _ _ _ (frzZ 1 b' o' n hunk))
    unfold oTb
    simp only [frzAs, frzA, e1]
   ·by_cases e : id = 0
    ·subst e; exact h.elim
    ·simp only [if_neg e] at h; exact h.elim
  ·obtain rfl : x = n := by omega
   refine ReachG.segR (SC_ok r1) TOk.nil (tm := .nil) (L := 1) (L' := 1) (d := 1) (n0 := 0) hF hro h0' [(0, ⟨[3, 4, 5], [.g], fun vs ms os => vs = [some (RS bp op m 0), some (I (x : Nat)), some (gwT 0 x)] ∧ ms = [] ∧ os = [oTb c 0]⟩)] (on := ⟨lvZ0, [.q [1], .g], fun _ _ _ => False⟩) (ox := fun j => if j = 0 then ⟨[3, 4, 5], [.g], fun vs ms os => vs = [some (RS bp op m 0), some (I (x : Nat)), some (gwT 0 x)] ∧ ms = [] ∧ os = [oTb c 0]⟩ else Outs.no) (orr := Outs.no) (fun p hp => by simp only [List.mem_cons, List.not_mem_nil, or_false] at hp; subst hp; rfl) ?_ (fun _ _ _ h => h.elim) (fun id vs ms os h => ?_) (fun _ _ _ h => h.elim)
   ·simp only [Int.ofNat_eq_natCast, dF (show ¬ (x : Int) < (x : Int) by omega), hZ.nn, Bool.and_true, cond_true, cond_false] at hn'
    exact (hn' _ _ _ _).trans (qq_ok ⟨rfl, rfl, rfl⟩)
   ·by_cases e : id = 0
    ·subst e
     obtain ⟨rfl, rfl, rfl⟩ := h
     refine IsG.freezeO (os0 := []) (j := 0) h0' rfl (Nat.zero_le _) rfl hZ.nn fun b' o' r2 hle hFz hrow => ?_
     have hf := frzU 0 b' o' x
     have hf2 : frzV 0 b' o' (RS bp op m 0) = some (RS bp op m 0) := rfl
     have hf3 : frzV 0 b' o' (I (x : Nat)) = some (I (x : Nat)) := rfl
     exact ⟨[some (RS bp op m 0), some (I (x : Nat)), some (RS b' o' x 0)], [], by simp only [frzO, hf, hf2, hf3], rfl, b', o', bk, ok, hZ.mat h1 hle hFz hrow, rfl, rfl, rfl⟩
    ·simp only [if_neg e] at h; exact h.elim
theorem zu_x {bo oo : Nat} {bk ok : Nat → Nat} (h1 : 1 ≤ n) (hn : n ≤ 12) (hp : TabM r0 bp op T) (hTl : T.length = m) (hm : m ≤ 1000) (hF : Wide F) (hro : RoRel γ none F.round) (h0' : ∀ i, 0 ≤ i → γ i = none) {r : Mem} {M : Nat → Nat → Bool} (hR : RankOk n M) (hM : MatM γ W r0 r bo oo n bk ok M) {ox : Nat → OutsG} {orr : OutsG} :
  ReachG Tryd.prog mZt 136 F kk γ W (.block 2 (.loop (.seq Zt_8 (.seq (.block 3 (.seq Zt_9 (.block 4 (.loop Zt_10)))) Zt_11)))) r (St.of lvZ2 [some (RS bp op m 0), some (I (n : Nat)), some (RS bo oo n 0), some (I (0 : Nat))] [] []) (CanG Tryd.prog mZt 136 γ W ⟨[4, 5], fun r1 vs ms os => (∃ M', RankOk n M' ∧ MatM γ W r0 r1 bo oo n bk ok M') ∧ vs = [some (I (n : Nat)), some (RS bo oo n 0)] ∧ ms = [] ∧ os = []⟩ ox orr) := by
 refine ReachG.blockC (ReachG.loopC (j := n) (lv := lvZ2) (I := fun j r1 vs ms os => ∃ x : Nat, x ≤ n ∧ j = n - x ∧ (∃ M', RankOk n M' ∧ MatM γ W r0 r1 bo oo n bk ok M') ∧ vs = [some (RS bp op m 0), some (I (n : Nat)), some (RS bo oo n 0), some (I (x : Nat))] ∧ ms = [] ∧ os = []) (fun j r1 vs ms os hI => ?_) ⟨0, by omega, rfl, ⟨M, hR, hM⟩, rfl, rfl, rfl⟩)
 obtain ⟨x, hx, rfl, ⟨M1, hR1, hM1⟩, rfl, rfl, rfl⟩ := hI
 refine ReachG.seqC (o1 := ⟨lvZ2, fun r2 vs ms os => r2 = r1 ∧ x < n ∧ vs = [some (RS bp op m 0), some (I (n : Nat)), some (RS bo oo n 0), some (I (x : Nat))] ∧ ms = [] ∧ os = []⟩) (ReachG.segR (SC_ok r1) TOk.nil (tm := .nil) (L := 1) (L' := 1) (d := 1) (n0 := 0) hF hro h0' [(2, ⟨[4, 5], [], fun vs ms os => vs = [some (I (n : Nat)), some (RS bo oo n 0)] ∧ ms = [] ∧ os = []⟩)] (on := ⟨lvZ2, [], fun vs ms os => x < n ∧ vs = [some (RS bp op m 0), some (I (n : Nat)), some (RS bo oo n 0), some (I (x : Nat))] ∧ ms = [] ∧ os = []⟩) (ox := fun j => if j = 2 then ⟨[4, 5], [], fun vs ms os => vs = [some (I (n : Nat)), some (RS bo oo n 0)] ∧ ms = [] ∧ os = []⟩ else Outs.no) (orr := Outs.no) (fun p hp => by simp only [List.mem_cons, List.not_mem_nil, or_false] at hp; subst hp; rfl) ?_ (fun vs ms os h => IsG.here ⟨rfl, h⟩) (fun id vs ms os h => ?_) (fun _ _ _ h => h.elim)) fun r2 vs ms os hq => ?_
 ·have hn' := ztJ r1 bp op m n bo oo x
  simp only [Int.ofNat_eq_natCast] at hn'
  by_cases c : x < n
  ·simp only [dT (show (x : Int) < (n : Int) by omega), cond_true] at hn'
   exact (hn' _ _ _ _).trans (qq_ok ⟨c, rfl, rfl, rfl⟩)
  ·simp only [dF (show ¬ (x : Int) < (n : Int) by omega), cond_false] at hn'
   exact (hn' _ _ _ _).trans (qq_ok ⟨rfl, rfl, rfl⟩)
 ·by_cases e : id = 2
  ·subst e
   obtain ⟨rfl, rfl, rfl⟩ := h
   exact IsG.here ⟨⟨M1, hR1, hM1⟩, rfl, rfl, rfl⟩
  ·simp only [if_neg e] at h; exact h.elim
 obtain ⟨rfl, c, rfl, rfl, rfl⟩ := hq
 refine ReachG.seqC (o1 := ⟨lvZ2, fun r3 vs ms os => (∃ M', RankOk n M' ∧ MatM γ W r0 r3 bo oo n bk ok M') ∧ vs = [some (RS bp op m 0), some (I (n : Nat)), some (RS bo oo n 0), some (I (x : Nat))] ∧ ms = [] ∧ os = []⟩) (ReachG.blockC (ReachG.seqC (o1 := ⟨lvZ3, fun r3 vs ms os => r3 = r2 ∧ vs = vZ3 (RS bp op m 0) (RS bo oo n 0) n x (x + 1) ∧ ms = [] ∧ os = []⟩) (ReachG.segR (SC_ok r2) TOk.nil (tm := .nil) (L := 1) (L' := 1) (d := 1) (n0 := 0) hF hro h0' [] (on := ⟨lvZ3, [], fun vs ms os => vs = vZ3 (RS bp op m 0) (RS bo oo n 0) n x (x + 1) ∧ ms = [] ∧ os = []⟩) (ox := fun _ => Outs.no) (orr := Outs.no) (fun p hp => nomatch hp) ?_ (fun vs ms os h => IsG.here ⟨rfl, h⟩) (fun _ _ _ _ h => h.elim) (fun _ _ _ h => h.elim)) fun r3 vs ms os hq => ?_)) fun r3 vs ms os hq => ?_
 ·have hn' := ztK r2 bp op m n bo oo x
  simp only [Int.ofNat_eq_natCast] at hn'
  rw [w1z x (by omega)] at hn'
  exact (hn' _ _ _ _).trans (qq_ok ⟨rfl, rfl, rfl⟩)
 ·obtain ⟨rfl, rfl, rfl, rfl⟩ := hq
  refine ReachG.blockC (ReachG.loopC (lv := lvZ3) (I := fun j r4 vs ms os => ∃ y : Nat, x < y ∧ y ≤ n ∧ j = n - y ∧ (∃ M', RankOk n M' ∧ MatM γ W r0 r4 bo oo n bk ok M') ∧ vs = vZ3 (RS bp op m 0) (RS bo oo n 0) n x y ∧ ms = [] ∧ os = []) (fun j r4 vs ms os hI => ?_) (j := n - (x + 1)) ⟨x + 1, by omega, by omega, rfl, ⟨M1, hR1, hM1⟩, rfl, rfl, rfl⟩)
  obtain ⟨y, hxy, hy, rfl, ⟨M4, hR4, hM4⟩, rfl, rfl, rfl⟩ := hI
  rw [Zt10_eq]
  refine ReachG.seqC (o1 := ⟨lvZ3, fun r5 vs ms os => r5 = r4 ∧ y < n ∧ vs = vZ3 (RS bp op m 0) (RS bo oo n 0) n x y ∧ ms = [] ∧ os = []⟩) (ReachG.segR (SC_ok r4) TOk.nil (tm := .nil) (L := 1) (L' := 1) (d := 1) (n0 := 0) hF hro h0' [(4, ⟨lvZ2, [], fun vs ms os => vs = [some (RS bp op m 0), some (I (n : Nat)), some (RS bo oo n 0), some (I (x : Nat))] ∧ ms = [] ∧ os = []⟩)] (on := ⟨lvZ3, [], fun vs ms os => y < n ∧ vs = vZ3 (RS bp op m 0) (RS bo oo n 0) n x y ∧ ms = [] ∧ os = []⟩) (ox := fun j => if j = 4 then ⟨lvZ2, [], fun vs ms os => vs = [some (RS bp op m 0), some (I (n : Nat)), some (RS bo oo n 0), some (I (x : Nat))] ∧ ms = [] ∧ os = []⟩ else Outs.no) (orr := Outs.no) (fun p hp => by simp only [List.mem_cons, List.not_mem_nil, or_false] at hp; subst hp; rfl) ?_ (fun vs ms os h => IsG.here ⟨rfl, h⟩) (fun id vs ms os h => ?_) (fun _ _ _ h => h.elim)) fun r5 vs ms os hq => ?_
  ·have hn' := zaA r4 bp op m n bo oo x y
   simp only [Int.ofNat_eq_natCast] at hn'
   by_cases c : y < n
   ·simp only [dT (show (y : Int) < (n : Int) by omega), cond_true] at hn'
    exact (hn' _ _ _ _).trans (qq_ok ⟨c, rfl, rfl, rfl⟩)
   ·simp only [dF (show ¬ (y : Int) < (n : Int) by omega), cond_false] at hn'
    exact (hn' _ _ _ _).trans (qq_ok ⟨rfl, rfl, rfl⟩)
  ·by_cases e : id = 4
   ·subst e
    obtain ⟨rfl, rfl, rfl⟩ := h
    exact IsG.here ⟨⟨M4, hR4, hM4⟩, rfl, rfl, rfl⟩
   ·simp only [if_neg e] at h; exact h.elim
  obtain ⟨rfl, cy, rfl, rfl, rfl⟩ := hq
  refine ReachG.seqC (zu_rnd h1 hn hp hTl hm hF hro h0' hxy cy hR4 hM4) fun r6 vs ms os hq => ?_
  obtain ⟨hM6, rfl, rfl, rfl⟩ := hq
  refine ReachG.segR (SC_ok r6) TOk.nil (tm := .nil) (L := 1) (L' := 1) (d := 1) (n0 := 0) hF hro h0' [] (on := ⟨lvZ3, [], fun vs ms os => vs = vZ3 (RS bp op m 0) (RS bo oo n 0) n x (y + 1) ∧ ms = [] ∧ os = []⟩) (ox := fun _ => Outs.no) (orr := Outs.no) (fun p hp => nomatch hp) ?_ (fun vs ms os h => IsG.here ⟨n - (y + 1), by omega, y + 1, by omega, cy, rfl, hM6, h⟩) (fun _ _ _ _ h => h.elim) (fun _ _ _ h => h.elim)
  have hn' := zcA r6 bp op m n bo oo x y
  simp only [Int.ofNat_eq_natCast] at hn'
  rw [w1z y (by omega)] at hn'
  exact (hn' _ _ _ _).trans (qq_ok ⟨rfl, rfl, rfl⟩)
 obtain ⟨hM3, rfl, rfl, rfl⟩ := hq
 refine ReachG.segR (SC_ok r3) TOk.nil (tm := .nil) (L := 1) (L' := 1) (d := 1) (n0 := 0) hF hro h0' [] (on := ⟨lvZ2, [], fun vs ms os => vs = [some (RS bp op m 0), some (I (n : Nat)), some (RS bo oo n 0), some (I ((x + 1 : Nat) : Int))] ∧ ms = [] ∧ os = []⟩) (ox := fun _ => Outs.no) (orr := Outs.no) (fun p hp => nomatch hp) ?_ (fun vs ms os h => IsG.here ⟨n - (x + 1), by omega, x + 1, c, rfl, hM3, h⟩) (fun _ _ _ _ h => h.elim) (fun _ _ _ h => h.elim)
 have hn' := ztL r3 bp op m n bo oo x
 simp only [Int.ofNat_eq_natCast] at hn'
 rw [w1z x (by omega)] at hn'
 exact (hn' _ _ _ _).trans (qq_ok ⟨rfl, rfl, rfl⟩)
end
end Go.Proofs
