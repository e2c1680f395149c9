/- Calls whose arguments are not known: what the callees answer by a table; memory that came in is only read; the answer is a plain value, and what was there is as it was. -/
import Derived.Test.YtdalaifnhppidaaDoorEvEnd
namespace Go.Ev
open Go


def Cfg.sym (P : Program) (r : Mem) : Cfg := { P := P, fns := mkFrom 0 P.funcs.toList .nil, tys := mkFrom 0 P.types.toList .nil, sy := true, ro := r }

def Cfg.symS (P : Program) (r : Mem) (sh : Nat) : Cfg := { P := P, fns := mkFrom 0 P.funcs.toList .nil, tys := mkFrom 0 P.types.toList .nil, sy := true, ro := r, sh := sh }

theorem Cfg.sym_ok {P : Program} (hm : P.follows .mixedOrders = true) (hn : P.funcs.toList.all okName = true) (r : Mem) : (Cfg.sym P r).Ok :=
 let h := Cfg.of_ok hm hn
 ⟨h.fn, h.ty, h.mixed, h.named⟩

theorem Cfg.symS_ok {P : Program} (hm : P.follows .mixedOrders = true) (hn : P.funcs.toList.all okName = true) (r : Mem) (sh : Nat) : (Cfg.symS P r sh).Ok :=
 let h := Cfg.of_ok hm hn
 ⟨h.fn, h.ty, h.mixed, h.named⟩

def fin : KV := fun v _ => .ret v emptyA

def GrT (P : Program) (r : Mem) (f : Nat) (args : List Value) (v : Value) : Prop :=
 gnd v = true ∧ ∀ F, Wide F → ∀ k W args', Ro r noG W → VsRel noG args (Array.toList args') → CallsIn F k P f args' W fun e W' => e = .returned v ∧ BelowD W.heap.size W W'

structure Ent where
 g : List Value → AW → Bool
 c : List Value → AW → Bool
 v : List Value → AW → Value
 a : List Value → AW → AW
 v2 : List Value → AW → Value
 a2 : List Value → AW → AW

def Ent.run (p : Ent) (args : List Value) (A : AW) (k : KV) : CR :=
 guardK (p.g args A) (match p.c args A with
  | true => k (p.v args A) (p.a args A)
  | false => k (p.v2 args A) (p.a2 args A))

abbrev Tbl := Nat → Option Ent

def TOk (C : Cfg) (t : Tbl) : Prop := ∀ f p args A v A', t f = some p → p.run args A .ret = .ret v A' → ∀ F, Wide F → ∀ k γ W args', WRel γ A W → Ro C.ro γ W → VsRel γ args (Array.toList args') →
  CallsIn F k C.P f args' W (Ends γ W v A')

theorem Ent.run_le (p : Ent) (args : List Value) (A : AW) (k : KV) : le (p.run args A k) (bindCR (p.run args A .ret) k) := by
 intro v0 A0 h
 unfold Ent.run at h ⊢
 obtain ⟨h1, h2⟩ := guardK_use h
 rw [h1]
 cases hc : p.c args A with
 | true => rw [hc] at h2; exact h2
 | false => rw [hc] at h2; exact h2

def tblC (t : Tbl) : FnsC := ⟨fun f args A k => match t f with | some p => p.run args A k | none => .fail 400, fun _ _ _ _ => .fail 401⟩
def tblF (t : Tbl) : Fns := ⟨fun f args A => match t f with | some p => p.run args A .ret | none => .fail 400, fun _ _ _ => .fail 401⟩

def lvlT (C : Cfg) (t : Tbl) (ms : Tr Nat) (L : Nat) : Nat → FnsC
 | 0 => tblC t
 | d + 1 => ⟨fun f args A k => match t f with
   | some p => p.run args A k
   | none => match cFun C ms L f with | ⟨g⟩ => g (lvlT C t ms L d) args A k,
  fun i args A k => yieldC C L (lvlT C t ms L d) i args A k⟩

def lvlU (C : Cfg) (t : Tbl) (ms : Tr Nat) (L : Nat) : Nat → Fns
 | 0 => tblF t
 | d + 1 => ⟨fun f args A => match t f with
   | some p => p.run args A .ret
   | none => callF C ms L (lvlU C t ms L d) f args A,
  fun i args A => yieldF C L (lvlU C t ms L d) i args A⟩

theorem lvlT_le {C : Cfg} (t : Tbl) (ms : Tr Nat) (L : Nat) : ∀ d, FLe (lvlT C t ms L d) (lvlU C t ms L d)
 | 0 => by
  refine ⟨fun f args A k v0 A0 h => ?_, fun _ _ _ _ => le.fail _ _⟩
  simp only [lvlT, tblC] at h
  simp only [lvlU, tblF]
  split at h
  ·exact Ent.run_le _ _ _ _ _ _ h
  ·cases h
 | d + 1 => by
  have ih := lvlT_le (C := C) t ms L d
  refine ⟨fun f args A k v0 A0 h => ?_, fun i args A k => yieldC_le L ih i args A k⟩
  have hc := cFun_le (C := C) ms L f ih args A k
  simp only [lvlT] at h
  simp only [lvlU]
  split at h
  ·exact Ent.run_le _ _ _ _ _ _ h
  ·generalize cFun C ms L f = g at h hc
   obtain ⟨g⟩ := g
   exact hc _ _ h

theorem WRel.below {γ : Gam} {A : AW} {W W' : World} (h : WRel γ A W) (hb : BelowD W.heap.size W W') : WRel γ A W' ∧ Ext γ W γ W' := by
 have hx : Ext noG W noG W' := ⟨fun _ _ h => h, fun _ _ h => (nomatch h), hb.size, fun b hlt _ => hb.block b hlt, hb.os, hb.tape, hb.output, hb.drawn⟩
 exact ⟨(h.more hx).1, (h.more hx).2⟩

theorem lvlU_ok {C : Cfg} (hC : C.Ok) {t : Tbl} (ht : TOk C t) (ms : Tr Nat) (L : Nat) : ∀ d, (lvlU C t ms L d).Ok C := by
 intro d
 induction d with
 | zero =>
  refine ⟨fun γ A W f args args' v A' h hw hR ha F hF k => ?_, fun _ _ _ _ _ _ _ _ _ h => (nomatch h)⟩
  simp only [lvlU, tblF] at h
  split at h
  ·rename_i hp
   exact ht f _ args A v A' hp h F hF k γ W args' hw hR ha
  ·cases h
 | succ d ih =>
  refine ⟨fun γ A W f args args' v A' h hw hR ha F hF k => ?_, fun γ A W i g args args' v A' h hw hR hg ha => yieldF_ok hC L ih h hw hR hg ha⟩
  simp only [lvlU] at h
  split at h
  ·rename_i hp
   exact ht f _ args A v A' hp h F hF k γ W args' hw hR ha
  ·have hF0 : Wide { F with round := none } := ⟨hF.fn, hF.depth, hF.alive⟩
   exact callF_ok hC ms L ih h hw hR ha hF0 rfl k

theorem GrT.of {C : Cfg} (hC : C.Ok) {t : Tbl} (ht : TOk C t) (ms : Tr Nat) {f : Nat} {args : List Value} {v : Value} (hg : gnd v = true)
  (h : ∃ L d, (lvlT C t ms L d).call f args emptyA fin = .ret v emptyA) : GrT C.P C.ro f args v := by
 refine ⟨hg, fun F hF k W args' hR ha => ?_⟩
 obtain ⟨L, d, hr⟩ := h
 have h1 := (lvlT_le (C := C) t ms L d).call _ _ _ _ _ _ hr
 cases hc : (lvlU C t ms L d).call f args emptyA with
 | fail w => rw [hc] at h1; cases h1
 | ret u A' =>
  rw [hc] at h1
  simp only [bindCR, fin, CR.ret.injEq] at h1
  obtain ⟨rfl, _⟩ := h1
  refine ((lvlU_ok hC ht ms L d).call noG _ W f args args' u A' hc (WRel.empty W) hR ha F hF k).mono fun e W' he => ?_
  obtain ⟨v', γ', rfl, hv, hw', hx⟩ := he
  exact ⟨by rw [hv.eq_of_gnd hg], hx.below⟩

theorem GrT.calls {P : Program} {r : Mem} {f : Nat} {args : List Value} {v : Value} (h : GrT P r f args v) {W : World} {args' : Array Value} (hR : Ro r noG W) (ha : VsRel noG args args'.toList) :
  Calls P f args' W fun e W' => e = .returned v ∧ Go.RowKit.Below W.heap.size W W' :=
 (callsIn_wide.1 (h.2 Fence.wide ⟨fun _ => trivial, rfl, rfl⟩ 0 W args' hR ha)).mono fun _ _ ⟨he, hb⟩ => ⟨he, hb.toBelow⟩

theorem TOk.nil {C : Cfg} : TOk C (fun _ => none) := fun _ _ _ _ _ _ h => nomatch h

def tcons (f : Nat) (p : Ent) (t : Tbl) : Tbl := fun g => match Nat.beq g f with
 | true => some p
 | false => t g

def POk (C : Cfg) (f : Nat) (args : List Value) (A : AW) (v : Value) : Prop :=
 gnd v = true ∧ ∀ F, Wide F → ∀ k γ W args', WRel γ A W → Ro C.ro γ W → VsRel γ args (Array.toList args') → CallsIn F k C.P f args' W fun e W' => e = .returned v ∧ BelowD W.heap.size W W'

theorem POk.ends {C : Cfg} {f : Nat} {args : List Value} {A : AW} {v : Value} (h : POk C f args A v) {F : Fence} (hF : Wide F) {k : Nat} {γ : Gam} {W : World} {args' : Array Value} (hw : WRel γ A W) (hR : Ro C.ro γ W) (ha : VsRel γ args args'.toList) :
  CallsIn F k C.P f args' W (Ends γ W v A) := by
 refine (h.2 F hF k γ W args' hw hR ha).mono fun e W' he => ?_
 obtain ⟨rfl, hb⟩ := he
 obtain ⟨h1, h2⟩ := hw.below hb
 exact ⟨v, γ, rfl, VRel.of_gnd γ v h.1, h1, h2⟩

def ent (g : List Value → AW → Bool) (v : List Value → AW → Value) : Ent := ⟨g, fun _ _ => true, v, fun _ A => A, v, fun _ A => A⟩

def EOk (C : Cfg) (f : Nat) (p : Ent) : Prop := ∀ args A, p.g args A = true → ∀ F, Wide F → ∀ k γ W args', WRel γ A W → Ro C.ro γ W → VsRel γ args (Array.toList args') →
  (p.c args A = true → CallsIn F k C.P f args' W (Ends γ W (p.v args A) (p.a args A))) ∧ (p.c args A = false → CallsIn F k C.P f args' W (Ends γ W (p.v2 args A) (p.a2 args A)))

theorem TOk.cons {C : Cfg} {t : Tbl} (ht : TOk C t) {f : Nat} {p : Ent} (hp : EOk C f p) : TOk C (tcons f p t) := fun f' q args A v A' hq h => by
 unfold tcons at hq
 split at hq
 ·rename_i hb
  have := Nat.eq_of_beq_eq_true hb
  subst this
  cases hq
  intro F hF k γ W args' hw hR ha
  unfold Ent.run at h
  obtain ⟨h1, h2⟩ := guardK_use h
  obtain ⟨q1, q2⟩ := hp args A h1 F hF k γ W args' hw hR ha
  cases hc : p.c args A with
  | true => rw [hc] at h2; cases h2; exact q1 hc
  | false => rw [hc] at h2; cases h2; exact q2 hc
 ·exact ht f' q args A v A' hq h

theorem EOk.ent {C : Cfg} {f : Nat} {g : List Value → AW → Bool} {v : List Value → AW → Value} (hp : ∀ args A, g args A = true → POk C f args A (v args A)) : EOk C f (ent g v) :=
 fun args A hg _ hF _ _ _ _ hw hR ha => ⟨fun _ => (hp args A hg).ends hF hw hR ha, fun h => nomatch h⟩

theorem GrT.plain {C : Cfg} {f : Nat} {args : List Value} {v : Value} (h : GrT C.P Mem.no f args v) (ha : gnds args = true) (A : AW) : POk C f args A v :=
 ⟨h.1, fun F hF k γ W args' _ _ hr => h.2 F hF k W args' Ro.nought (by
  have := hr.eq_of_gnds ha
  rw [this]
  exact VsRel.of_gnds _ args ha)⟩

/- Values without a name: plain ones, and slices that came in. -/
def roV : Value → Bool
 | .slice (some ⟨_, _, some _⟩) _ _ => true
 | .slice (some ⟨_, _, none⟩) 0 9223372036854775809 => true
 | v => gnd v
def roVs : List Value → Bool
 | [] => true
 | v :: l => roV v && roVs l

theorem VRel.of_ro {γ γ' : Gam} {v v' : Value} (h : VRel γ v v') (hv : roV v = true) : VRel γ' v v' := by
 by_cases hg : gnd v = true
 ·have := h.eq_of_gnd hg
  rw [this]
  exact VRel.of_gnd γ' v hg
 ·unfold roV at hv
  split at hv
  ·cases h with
   | sliceRo _ _ _ _ _ _ h hc => exact .sliceRo _ _ _ _ _ _ h hc
   | sliceE a a' c' => exact .sliceE _ _ _
  ·cases h with
   | slice k l c c' hγ hc => exact .sliceE _ _ _
   | sliceE a a' c' => exact .sliceE _ _ _
  ·exact absurd hv hg

theorem VsRel.of_ros {γ γ' : Gam} : {l l' : List Value} → VsRel γ l l' → roVs l = true → VsRel γ' l l'
 | _, _, .nil, _ => .nil
 | _, _, .cons h hl, hv => by
  simp only [roVs, Bool.and_eq_true] at hv
  exact .cons (h.of_ro hv.1) (hl.of_ros hv.2)

theorem GrT.ro {C : Cfg} {f : Nat} {args : List Value} {v : Value} (h : GrT C.P C.ro f args v) (ha : roVs args = true) (A : AW) : POk C f args A v :=
 ⟨h.1, fun F hF k _ W args' _ hR hr => h.2 F hF k W args' (hR.noG noG fun _ => rfl) (hr.of_ros ha)⟩

theorem GrT.closed {P : Program} (hm : P.follows .mixedOrders = true) (hn : P.funcs.toList.all okName = true) (ms : Tr Nat) (L d : Nat) {f : Nat} {args : List Value} {v : Value}
  (h : gives ((lvlC (Cfg.of P) ms L d).call f args emptyA .ret) v = true) : GrT P Mem.no f args v := by
 obtain ⟨A, hr, hg⟩ := gives_of h
 refine ⟨hg, fun F hF k W args' _ hv => ?_⟩
 refine ((lvl_ok (Cfg.of_ok hm hn) ms L d).call noG emptyA W f args args' v A ((lvlC_le ms L d).ref.1 f args emptyA v A hr) (WRel.empty W) Ro.nought hv F hF k).mono fun e W' he => ?_
 obtain ⟨v', γ', rfl, hv, _, hx⟩ := he
 exact ⟨by rw [hv.eq_of_gnd hg], hx.below⟩

def Cfg.ofRo (P : Program) (r : Mem) : Cfg := { P := P, fns := mkFrom 0 P.funcs.toList .nil, tys := mkFrom 0 P.types.toList .nil, sy := false, ro := r }

theorem Cfg.ofRo_ok {P : Program} (hm : P.follows .mixedOrders = true) (hn : P.funcs.toList.all okName = true) (r : Mem) : (Cfg.ofRo P r).Ok :=
 let h := Cfg.of_ok hm hn
 ⟨h.fn, h.ty, h.mixed, h.named⟩

theorem GrT.less {P : Program} {r r' : Mem} {f : Nat} {args : List Value} {v : Value} (h : GrT P r f args v) (hle : ∀ b j u, r b j = some u → r' b j = some u) (ho : ∀ b, r.own b = true → r'.own b = true := by exact fun _ h => nomatch h) : GrT P r' f args v :=
 ⟨h.1, fun F hF k W args' hR ha => h.2 F hF k W args' ⟨fun b j u e => hR.rd b j u (hle b j u e), fun b e => hR.wr b (ho b e)⟩ ha⟩

theorem GrT.any {P : Program} {f : Nat} {args : List Value} {v : Value} (h : GrT P Mem.no f args v) (r : Mem) : GrT P r f args v :=
 ⟨h.1, fun F hF k W args' _ hv => h.2 F hF k W args' Ro.nought hv⟩

def run (C : Cfg) (m n L : Nat) (c : Code) (fs : FnsC) (ro : Option Nat) (kn : KS) (kx : Nat → KS) (kr : KS) : KS := (cCode C m n L c).f fs ro kn kx kr

section
variable {C : Cfg} {m n L : Nat} {fs : FnsC} {ro : Option Nat} {kn : KS} {kx : Nat → KS} {kr : KS}

end

def lc : Code → Code
 | .seq a _ => a
 | .cond _ a _ => a
 | c => c
def rc : Code → Code
 | .seq _ b => b
 | .cond _ _ b => b
 | c => c
def ic : Code → Code
 | .block _ c => c
 | .loop c => c
 | c => c

def bodyOf (C : Cfg) (f : Nat) : Code :=
 match C.fns.get f with
 | some fn => match fn.body with
  | some c => c
  | none => .skip
 | none => .skip

def ntm (C : Cfg) (f : Nat) : Nat :=
 match C.fns.get f with
 | some fn => fn.ntmps
 | none => 0

def resOf (C : Cfg) (f : Nat) : List ResultVar :=
 match C.fns.get f with
 | some fn => fn.results.toList
 | none => []

def kx242 : Nat → KS := fun _ _ _ _ _ => .fail 242

def sc0 (m : Nat) (args : List Value) : List (Nat × Value) := (setArgs m args 0 ⟨[], .nil⟩).scr
def tr0 (m : Nat) (args : List Value) : Tr Value := (setArgs m args 0 ⟨[], .nil⟩).base

theorem enter {C : Cfg} {t : Tbl} {ms : Tr Nat} {L d f m n : Nat} {args : List Value} {A : AW} {k : KV} {rs : List ResultVar} (hb : hasBody C f = true) (hn : ntm C f = n) (hm : maskFor ms f n = m) (hr : resOf C f = rs)
  (hl : Nat.ble args.length n = true) (ht : t f = none) :
  (lvlT C t ms L (d + 1)).call f args A k = run C m n L (bodyOf C f) (lvlT C t ms L d) none (finK C m rs k) kx242 (finK C m rs k) (sc0 m args) (tr0 m args) [] A := by
 subst hn hm hr
 simp only [lvlT, ht, sc0, tr0]
 unfold hasBody at hb
 unfold ntm at hl
 unfold cFun ntm resOf bodyOf run
 split at hb
 ·rename_i fn hfn
  simp only [hfn] at hl ⊢
  split at hb
  ·rename_i c hc
   simp only [hc, hl]
   rfl
  ·cases hb
 ·cases hb

end Go.Ev
