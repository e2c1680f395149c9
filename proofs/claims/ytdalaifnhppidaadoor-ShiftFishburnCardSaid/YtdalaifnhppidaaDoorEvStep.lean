/- Every operation together. -/
import Derived.Test.YtdalaifnhppidaaDoorEvOp2
import Derived.KernelRfl
import Derived.Lib.MakeNoZero
namespace Go.Ev
open Go

def NOk (P : Program) (γ : Gam) (W : World) (r : OR) (s : Sem Next) : Prop :=
 match r with
 | .fail _ => True
 | .val v A' => ∃ v' γ' W', (s.run P W = .ok (.value v') W' ∨ (s.run P W = .ok .skip W' ∧ v' = undef)) ∧ VRel γ' v v' ∧ WRel γ' A' W' ∧ Ext γ W γ' W'
 | .call f args A' => ∃ args' : Array Value, s.run P W = .ok (.enter f args') W ∧ VsRel γ args args'.toList ∧ WRel γ A' W
 | .yield i args A' => ∃ g, γ i = some g ∧ ∃ args' : Array Value, (∀ a w, (Instr.yield g.blk args').run P W = .ok a w → s.run P W = .ok a w) ∧ VsRel γ args args'.toList ∧ WRel γ A' W

theorem NOk.of_v {P : Program} {γ : Gam} {W : World} {r : OR} {s : Sem Value} (h : VOk P γ W r s) : NOk P γ W r (do pure (.value (← s))) := by
 unfold VOk at h
 unfold NOk
 split at h
 ·trivial
 ·obtain ⟨v', γ', W', h1, h2, h3, h4⟩ := h
  exact ⟨v', γ', W', .inl (by simp only [Sem.run_bind, h1, Result.andThen_ok, Sem.run_pure]), h2, h3, h4⟩
 ·exact h.elim
 ·exact h.elim

theorem NOk.of_u {P : Program} {γ : Gam} {W : World} {r : OR} {s : Sem Unit} (h : UOk P γ W r s) : NOk P γ W r (do s; pure .skip) := by
 unfold UOk at h
 unfold NOk
 split at h
 ·trivial
 ·obtain ⟨rfl, γ', W', h1, h2, h3⟩ := h
  exact ⟨undef, γ', W', .inr ⟨by simp only [Sem.run_bind, h1, Result.andThen_ok, Sem.run_pure], rfl⟩, .tuple .nil, h2, h3⟩
 ·exact h.elim
 ·exact h.elim

def doBuiltin (C : Cfg) (b : Builtin) (ts : Array TypeId) (ty : Nat) (args : List Value) (A : AW) : OR :=
 match b with
 | .len => doLen C ts.toList args A
 | .append => doAppendM C ts.toList args A
 | .copy => doCopy C ts.toList args A
 | .min => match gnds args with
  | true => plainV C (Builtin.min_ ts ty ⟨args⟩) A
  | false => .fail 170
 | .max => match gnds args with
  | true => plainV C (Builtin.max_ ts ty ⟨args⟩) A
  | false => .fail 171
 | .unsafeSliceData => doSliceData args A
 | .unsafeString => match Nat.blt 0 ts.size with
  | true => doUString C ts.toList args A
  | false => .fail 173
 | .delete => doDelete C ts.toList args A
 | .cap => doCap C ts.toList args A
 | _ => .fail 172

theorem doBuiltin_ok {C : Cfg} (hC : C.Ok) {γ : Gam} {A : AW} {W : World} (hw : WRel γ A W) (hR : Ro C.ro γ W) (b : Builtin) (ts : Array TypeId) (ty : Nat) (consts : Array Bool) {args : List Value} {args' : Array Value} (ha : VsRel γ args args'.toList) :
  NOk C.P γ W (doBuiltin C b ts ty args A) (builtin b ts ty consts args') := by
 unfold doBuiltin
 split
 ·exact NOk.of_v (doLen_ok hC hw ts ty ha)
 ·exact NOk.of_v (doAppendM_ok hC hw hR ts ty ha)
 ·exact NOk.of_v (doCopy_ok hC hw hR ts ty ha)
 ·split
  ·rename_i hg
   have : args' = ⟨args⟩ := by apply Array.ext'; exact VsRel.eq_of_gnds ha hg
   rw [this]
   exact NOk.of_v (plainV_ok hw _)
  ·trivial
 ·split
  ·rename_i hg
   have : args' = ⟨args⟩ := by apply Array.ext'; exact VsRel.eq_of_gnds ha hg
   rw [this]
   exact NOk.of_v (plainV_ok hw _)
  ·trivial
 ·exact NOk.of_v (doSliceData_ok hw ts ty ha)
 ·split
  ·rename_i h; exact NOk.of_v (doUString_ok hC hw ts ty ha (blt_lt h))
  ·trivial
 ·exact NOk.of_v (doDelete_ok hC hw ts ty ha)
 ·exact NOk.of_v (doCap_ok hC hw ts ty ha)
 ·trivial

def hasBody (C : Cfg) (f : Nat) : Bool :=
 match C.fns.get f with
 | some fn => match fn.body with
  | some _ => true
  | none => false
 | none => false

theorem callFunc_ok {C : Cfg} (hC : C.Ok) {f : Nat} (h : hasBody C f = true) (args : Array Value) (W : World) : (callFunc f args).run C.P W = .ok (.enter f args) W := by
 unfold hasBody at h
 split at h
 ·rename_i fn hfn
  split at h
  ·rename_i c hc
   simp [callFunc, hC.fn _ _ hfn, hC.named _ _ hfn, hc]
  ·cases h
 ·cases h

def noZeroT (C : Cfg) (fn : Func) : Option Nat := match fn.resultTypes.toList with
 | [t] => match C.under t with
  | some (.slice el) => some el
  | _ => none
 | _ => none
def doNoZero (C : Cfg) (fn : Func) (args : List Value) (A : AW) : OR := match args with
 | [.int .i64 (.ofNat n)] => match noZeroT C fn, Nat.ble n 1000000 with
  | some el, true => .val (.slice (some ⟨A.next, 0, none⟩) n unk) (A.new (.cells [] el A.next 1))
  | _, _ => .fail 188
 | _ => .fail 189

theorem find_noZero {fn : Func} (h : fn.name = "internal/bytealg.MakeNoZero") : Extern.find fn = some (Extern.BytealgMakeNoZero.makeNoZero fn.params fn.resultTypes) := by
 have h1 : Extern.allGenericRows.lookup "internal/bytealg.MakeNoZero" = none := by kernel_rfl
 have h2 : Extern.allTypedRows.lookup "internal/bytealg.MakeNoZero" = some Extern.BytealgMakeNoZero.makeNoZero := by kernel_rfl
 simp [Extern.find, h, h1, h2]

theorem doNoZero_ok {C : Cfg} (hC : C.Ok) {γ : Gam} {A : AW} {W : World} (hw : WRel γ A W) (fn : Func) {args : List Value} {args' : Array Value} (ha : VsRel γ args args'.toList) :
  VOk C.P γ W (doNoZero C fn args A) (Extern.BytealgMakeNoZero.makeNoZero fn.params fn.resultTypes args') := by
 unfold doNoZero
 split
 ·rename_i n
  split
  ·rename_i el ht hn
   have hargs : args' = #[.int .i64 (Int.ofNat n)] := by apply Array.ext'; exact VsRel.eq_of_gnds ha rfl
   subst hargs
   unfold noZeroT at ht
   split at ht
   ·rename_i t hrt
    split at ht
    ·rename_i el' hu
     cases ht
     have hres : fn.resultTypes = #[t] := by apply Array.ext'; exact hrt
     have hn' : n ≤ 1000000 := Nat.le_of_ble_eq_true hn
     rw [hres]
     obtain ⟨cs, hrun, hsz, _⟩ := Lib.run_makeNoZero (P := C.P) W fn.params t el (hC.under hu) n (by omega)
     obtain ⟨q1, q2⟩ := hw.drew.drew.alloc (.cells [] el A.next 1) (.cells cs el) cs.size 1 (.cells (heap_alloc_new _ _) (free_zero _) rfl rfl fun k v hk => by simp at hk) (fun _ _ _ _ he => by cases he; rfl)
     refine ⟨.slice (some ⟨W.heap.size, 0, none⟩) n cs.size, _, _, hrun, ?_, q1, ((Ext.drew γ W).trans (Ext.drew γ W.drew)).trans q2⟩
     exact .slice 0 n unk cs.size (Gam.set_same _ _ _) (.inr ⟨rfl, hsz, by show 0 + cs.size * 1 ≤ cs.size; omega⟩)
    ·cases ht
   ·cases ht
  ·trivial
 ·trivial

def doExt (C : Cfg) (f : Nat) (args : List Value) (A : AW) : OR :=
 match C.fns.get f with
 | some fn => match fn.body, Extern.findNext fn, Extern.find fn with
  | none, none, some e => match fn.name == "internal/bytealg.MakeNoZero" with
   | true => doNoZero C fn args A
   | false => match gnds args with
    | true => plainV C (e ⟨args⟩) A
    | false => match args, fn.name == "internal/abi.NoEscape" with
     | [x], true => .val x A
     | _, _ => .fail 185
  | _, _, _ => .fail 186
 | none => .fail 187

theorem find_noEscape {fn : Func} (h : fn.name = "internal/abi.NoEscape") : Extern.find fn = some Extern.AbiNoEscape.same := by
 have h1 : Extern.allGenericRows.lookup "internal/abi.NoEscape" = none := by kernel_rfl
 have h2 : Extern.allTypedRows.lookup "internal/abi.NoEscape" = none := by kernel_rfl
 have h3 : Extern.allRows.lookup "internal/abi.NoEscape" = some Extern.AbiNoEscape.same := by kernel_rfl
 simp [Extern.find, h, h1, h2, h3]

theorem callFunc_ext {C : Cfg} (hC : C.Ok) {f : Nat} {fn : Func} {e : Array Value → Sem Value} (hf : C.fns.get f = some fn) (hb : fn.body = none) (hn : Extern.findNext fn = none) (he : Extern.find fn = some e) (args : Array Value) (W : World) :
  (callFunc f args).run C.P W = (do pure (Next.value (← e args))).run C.P W := by
 simp [callFunc, hC.fn _ _ hf, hC.named _ _ hf, hb, hn, he, mark, Sem.run]

theorem doExt_ok {C : Cfg} (hC : C.Ok) {γ : Gam} {A : AW} {W : World} (hw : WRel γ A W) (f : Nat) {args : List Value} {args' : Array Value} (ha : VsRel γ args args'.toList) : NOk C.P γ W (doExt C f args A) (callFunc f args') := by
 unfold doExt
 split
 ·rename_i fn hfn
  split
  ·rename_i e hb hn he
   have hcf := callFunc_ext hC hfn hb hn he args' W
   have hto : ∀ r, NOk C.P γ W r (do pure (Next.value (← e args'))) → NOk C.P γ W r (callFunc f args') := fun r h => by
    unfold NOk at h ⊢
    simp only [hcf]
    exact h
   split
   ·rename_i hname
    have he' := find_noZero (fn := fn) (by simpa using hname)
    rw [he] at he'
    cases he'
    exact hto _ (NOk.of_v (doNoZero_ok hC hw fn ha))
   split
   ·rename_i hg
    have : args' = ⟨args⟩ := by apply Array.ext'; exact VsRel.eq_of_gnds ha hg
    subst this
    exact hto _ (NOk.of_v (plainV_ok hw _))
   ·split
    ·rename_i x hname _
     have hname' : fn.name = "internal/abi.NoEscape" := by simpa using hname
     have he' := find_noEscape hname'
     rw [he] at he'
     cases he'
     obtain ⟨la⟩ := args'
     cases ha with
     | cons hx hl =>
      cases hl
      exact hto _ (NOk.of_v (.same hw rfl hx))
    ·trivial
  ·trivial
 ·trivial

def methodOf (C : Cfg) (t : Nat) (name : String) : Option Nat :=
 match C.tys.get t with
 | some inf => match inf.methods.find? (fun m => m.name == name) with
  | some m => match m.path.toList, m.func, C.under t with
   | [], some (f, true), some (.pointer _) => some f
   | [], some (_, false), some (.pointer _) => none
   | [], some (f, false), some _ => some f
   | _, _, _ => none
  | none => none
 | none => none

theorem run_method {C : Cfg} (hC : C.Ok) {t : Nat} {name : String} {f : Nat} (h : methodOf C t name = some f) (n : Nat) (v : Value) (W : World) : (method (n + 1) t v name).run C.P W = .ok (f, v) W := by
 unfold methodOf at h
 split at h
 ·rename_i inf hinf
  split at h
  ·rename_i m hm
   split at h
   ·rename_i hp hf hd
    cases h
    have hp' : m.path = #[] := by apply Array.ext'; exact hp
    simp [method, run_typeInfo' (hC.ty _ _ hinf), hm, hp', follow, hf, receiverAt, run_underlying (hC.under hd), Place.get]
   ·cases h
   ·rename_i d hnp hp hf hd
    cases h
    have hp' : m.path = #[] := by apply Array.ext'; exact hp
    simp only [method, Sem.run_bind, run_typeInfo' (hC.ty _ _ hinf), Result.andThen_ok, hm, hp', follow, hf, receiverAt, run_underlying (hC.under hd), Place.get, Sem.run_pure]
   ·cases h
  ·cases h
 ·cases h

def doCall (C : Cfg) (c : Call) (ty : Nat) (ρ : Operand → Value) (A : AW) : OR :=
 match c.callee with
 | .builtin b => doBuiltin C b c.argTypes ty (c.args.toList.map ρ) A
 | .value f => match ρ f with
  | .func (.func g) ⟨first⟩ ⟨captured⟩ => match hasBody C g with
   | true => .call g (first ++ c.args.toList.map ρ ++ captured) A
   | false => doExt C g (first ++ c.args.toList.map ρ ++ captured) A
  | .func (.yield i) ⟨[]⟩ ⟨[]⟩ => .yield i (c.args.toList.map ρ) A
  | _ => .fail 181
 | .invoke recv name => match ρ recv with
  | .iface t v => match methodOf C t name with
   | some f => match hasBody C f with
    | true => .call f (v :: c.args.toList.map ρ) A
    | false => .fail 182
   | none => .fail 183
  | _ => .fail 184

theorem doCall_ok {C : Cfg} (hC : C.Ok) {γ : Gam} {A : AW} {W : World} (hw : WRel γ A W) (hR : Ro C.ro γ W) (c : Call) (ty : Nat) {ρ ρ' : Operand → Value} (hρ : ∀ x ∈ c.operands, VRel γ (ρ x) (ρ' x)) :
  NOk C.P γ W (doCall C c ty ρ A) (do let d ← resolve ρ' c ty; invoke d.target d.args) := by
 have hargs : VsRel γ (c.args.toList.map ρ) (c.args.map ρ').toList := by
  rw [Array.toList_map]
  exact VsRel.of_map _ fun x hx => hρ x (by simp [Call.operands]; exact .inr (by simpa using hx))
 unfold doCall
 split
 ·rename_i b hb
  have := doBuiltin_ok hC hw hR b c.argTypes ty (c.args.map fun | .const _ => true | _ => false) hargs
  have he : (do let d ← resolve ρ' c ty; invoke d.target d.args) = builtin b c.argTypes ty (c.args.map fun | .const _ => true | _ => false) (c.args.map ρ') := by
   simp only [resolve, hb]
   rfl
  rw [he]
  exact this
 ·rename_i f hf
  have hfr := hρ f (by simp [Call.operands, hf])
  split
  ·rename_i g first captured hv
   split
   ·rename_i hbody
    rw [hv] at hfr
    generalize hv' : ρ' f = fv' at hfr
    cases hfr with
    | func hfn ha hc =>
     rename_i f' a' c'
     cases hfn
     refine ⟨a' ++ c.args.map ρ' ++ c', ?_, ?_, hw⟩
     ·simp only [resolve, hf, hv', Deferred.ofValue, Sem.run_bind, Sem.run_pure, Result.andThen_ok, invoke]
      exact callFunc_ok hC hbody _ W
     ·simp only [Array.toList_append]
      exact (ha.append hargs).append hc
   ·rw [hv] at hfr
    generalize hv' : ρ' f = fv' at hfr
    cases hfr with
    | func hfn ha hc =>
     rename_i f' a' c'
     cases hfn
     have hx := doExt_ok hC hw g (args' := a' ++ c.args.map ρ' ++ c') (by simp only [Array.toList_append]; exact (ha.append hargs).append hc)
     have he : ∀ W, (do let d ← resolve ρ' c ty; invoke d.target d.args).run C.P W = (callFunc g (a' ++ c.args.map ρ' ++ c')).run C.P W := fun W => by
      simp only [resolve, hf, hv', Deferred.ofValue, Sem.run_bind, Sem.run_pure, Result.andThen_ok, invoke]
     unfold NOk at hx ⊢
     simp only [he]
     exact hx
  ·rename_i i hv
   rw [hv] at hfr
   generalize hv' : ρ' f = fv' at hfr
   cases hfr with
   | func hfn ha hc =>
    rename_i f' a' c'
    cases hfn with
    | yield hg =>
     rename_i g
     have ha0 : a' = #[] := Array.eq_empty_of_size_eq_zero (by have := ha.length; simpa using this)
     refine ⟨g, hg, c.args.map ρ', fun a w h => ?_, hargs, hw⟩
     simp only [resolve, hf, hv', Deferred.ofValue, Sem.run_bind, Sem.run_pure, Result.andThen_ok, invoke, ha0, Array.empty_append]
     exact h
  ·trivial
 ·rename_i recv name hr
  have hfr := hρ recv (by simp [Call.operands, hr])
  split
  ·rename_i t v hv
   split
   ·rename_i f hm
    split
    ·rename_i hbody
     rw [hv] at hfr
     generalize hv' : ρ' recv = fv' at hfr
     cases hfr with
     | iface t hvr =>
      rename_i v'
      refine ⟨#[v'] ++ c.args.map ρ', ?_, ?_, hw⟩
      ·have hpos : 0 < Made.depth := by decide
       have hdep : C.P.types.size + Made.depth = (C.P.types.size + (Made.depth - 1)) + 1 := by omega
       have hmr : (method (C.P.types.size + Made.depth) t v' name).run C.P W = .ok (f, v') W := by rw [hdep]; exact run_method hC hm _ _ _
       have hcf := callFunc_ok hC hbody (#[v'] ++ c.args.map ρ') W
       have h0 : (#[Value.iface t v'] ++ Array.map ρ' c.args)[0]? = some (.iface t v') := by rw [Array.getElem?_append_left (by simp)]; rfl
       have hex : (Array.map ρ' c.args).extract 0 c.args.size = Array.map ρ' c.args := by apply Array.ext'; simp; rw [List.take_of_length_le (by simp)]
       simp [resolve, hr, hv', invoke, h0, callMethod, hmr, hex, hcf]
      ·simp only [Array.toList_append]
       exact .cons hvr hargs
    ·trivial
   ·trivial
  ·trivial


def pairsL (ρ : Operand → Value) : List (Nat × Operand) → List (Nat × Value)
 | [] => []
 | (i, x) :: l => (i, ρ x) :: pairsL ρ l

theorem pairs_rel {γ : Gam} {ρ ρ' : Operand → Value} : ∀ (l : List (Nat × Operand)), (∀ p ∈ l, VRel γ (ρ p.2) (ρ' p.2)) → PRel γ (pairsL ρ l) (l.map fun (i, x) => (i, ρ' x))
 | [], _ => .nil
 | (i, x) :: l, h => .cons i (h (i, x) (by simp)) (pairs_rel l fun p hp => h p (by simp [hp]))

def doOp (C : Cfg) (ρ : Operand → Value) (o : Oper) (A : AW) : OR :=
 match o.op with
 | .move x => .val (ρ x) A
 | .assign x => .val (ρ x) A
 | .pick c a b => doPick (ρ c) (ρ a) (ρ b) A
 | .alloc e => doAlloc C e A
 | .box e x => doBox e (ρ x) A
 | .build t ps => doBuild C t (pairsL ρ ps.toList) A
 | .buildSlice t len ps => doBuildSlice C t len (pairsL ρ ps.toList) A
 | .load t a => doLoad C t (ρ a) A
 | .store t a x => doStore C t (ρ a) (ρ x) A
 | .nilCheck x => doNilCheck (ρ x) A
 | .binOp op t x y _ => doBin C op t x y (ρ x) (ρ y) A
 | .unOp op _ x => doUn C op (ρ x) A
 | .convert s d x => doConvert C s d (ρ x) A
 | .makeInterface t x => doMakeInterface C t (ρ x) A
 | .makeFunc fn ⟨a⟩ ⟨c⟩ => match fn with
  | .func f => .val (.func (.func f) ⟨a.map ρ⟩ ⟨c.map ρ⟩) A
  | _ => .fail 190
 | .makeMap t r => doMakeMap C t (r.map ρ) A
 | .makeSlice t l c => doMakeSlice C t (ρ l) (ρ c) A
 | .slice t x lo hi mx => doSliceAny C t (ρ x) (lo.map ρ) (hi.map ρ) (mx.map ρ) A
 | .fieldAddr s x f => doFieldAddr C s (ρ x) f A
 | .field t x f => doField C t (ρ x) f A
 | .indexAddr t x i => doIndexAddr C t (ρ x) (ρ i) A
 | .index t x i => doIndex C t (ρ x) (ρ i) A
 | .lookup t x i ok => doLookup C t (ρ x) (ρ i) ok A
 | .mapUpdate t m k x => doMapUpdate C t (ρ m) (ρ k) (ρ x) A
 | .insert t m k x => doMapUpdate C t (ρ m) (ρ k) (ρ x) A
 | .range t x => doRange C t (ρ x) A
 | .next x b => doNext (ρ x) b A
 | .entry x => doEntry (ρ x) A
 | .typeAssert x _ a ok => doTypeAssert C (ρ x) a ok A
 | .extract x i => doExtract (ρ x) i A
 | .call c => doCall C c o.type ρ A
 | _ => .fail 191

theorem ovrel_of_map {γ : Gam} {ρ ρ' : Operand → Value} (o : Option Operand) (h : ∀ x, o = some x → VRel γ (ρ x) (ρ' x)) : OVRel γ (o.map ρ) (o.map ρ') := by
 cases o with
 | none => exact .none
 | some x => exact .some (h x rfl)

theorem NOk.val {P : Program} {γ : Gam} {A : AW} {W : World} (hw : WRel γ A W) {v v' : Value} {s : Sem Next} (hv : VRel γ v v') (hr : s.run P W = .ok (.value v') W) : NOk P γ W (.val v A) s :=
 ⟨v', γ, W, .inl hr, hv, hw, Ext.refl _ _⟩

theorem doOp_ok {C : Cfg} (hC : C.Ok) {γ : Gam} {A : AW} {W : World} (hw : WRel γ A W) (hR : Ro C.ro γ W) (o : Oper) {ρ ρ' : Operand → Value} (hρ : ∀ x ∈ o.op.operands, VRel γ (ρ x) (ρ' x)) :
  NOk C.P γ W (doOp C ρ o A) (execOp ρ' o) := by
 obtain ⟨dst, op, type, pos, after, guard⟩ := o
 unfold doOp
 cases op <;> simp only [Op.operands] at hρ <;> simp only [execOp]
 case move x => exact .val hw (hρ x (by simp)) rfl
 case assign x => exact .val hw (hρ x (by simp)) rfl
 case pick c a b =>
  have := NOk.of_v (doPick_ok (P := C.P) hw (hρ c (by simp)) (hρ a (by simp)) (hρ b (by simp)))
  simpa using this
 case alloc e => exact NOk.of_v (doAlloc_ok hC hw e)
 case box e x => exact NOk.of_v (doBox_ok hw e (hρ x (by simp)))
 case build t ps =>
  refine NOk.of_v (doBuild_ok hC hw t ?_)
  rw [Array.toList_map]
  exact pairs_rel _ fun p hp => hρ p.2 (by simp; exact ⟨p.1, by simpa using hp⟩)
 case buildSlice t len ps =>
  refine NOk.of_v (doBuildSlice_ok hC hw t len ?_)
  rw [Array.toList_map]
  exact pairs_rel _ fun p hp => hρ p.2 (by simp; exact ⟨p.1, by simpa using hp⟩)
 case load t a => exact NOk.of_v (doLoad_ok hC hw hR t (hρ a (by simp)))
 case store t a x => exact NOk.of_u (doStore_ok hC hw t (hρ a (by simp)) (hρ x (by simp)))
 case nilCheck x =>
  have hx := hρ x (by simp)
  unfold doNilCheck
  split
  ·rename_i a hv
   rw [hv] at hx
   generalize hv' : ρ' x = x' at hx
   cases hx with
   | ptr k hg => exact .val hw (.ptr k hg) rfl
   | ptrRo b k s => exact .val hw (.ptrRo b k s) rfl
  ·rename_i f a c hv
   rw [hv] at hx
   generalize hv' : ρ' x = x' at hx
   cases hx with
   | func hf ha hc => cases hf; exact .val hw (.func (.func f) ha hc) rfl
  ·rename_i t v hv
   rw [hv] at hx
   generalize hv' : ρ' x = x' at hx
   cases hx with
   | iface t h => exact .val hw (.iface t h) rfl
  ·trivial
 case binOp op t x y yt => exact NOk.of_v (doBin_ok hC hw op t x y (hρ x (by simp)) (hρ y (by simp)))
 case unOp op t x => exact NOk.of_v (doUn_ok hw op (hρ x (by simp)))
 case convert s d x => exact NOk.of_v (doConvert_ok hC hw s d (hρ x (by simp)))
 case makeInterface t x => exact NOk.of_v (doMakeInterface_ok hC hw t (hρ x (by simp)))
 case makeFunc fn a c =>
  obtain ⟨a⟩ := a
  obtain ⟨c⟩ := c
  simp only
  split
  ·rename_i f
   refine .val hw (v' := .func (.func f) ⟨a.map ρ'⟩ ⟨c.map ρ'⟩) (.func (.func f) ?_ ?_) ?_
   ·exact VsRel.of_map _ fun x hx => hρ x (by simp [hx])
   ·exact VsRel.of_map _ fun x hx => hρ x (by simp [hx])
   ·simp [Instr.makeFunc]
  ·trivial
 case makeMap t r => exact NOk.of_v (doMakeMap_ok hC hw t (ovrel_of_map r fun x hx => hρ x (by simp [hx])))
 case makeSlice t l c => exact NOk.of_v (doMakeSlice_ok hC hw t (hρ l (by simp)) (hρ c (by simp)))
 case slice t x lo hi mx =>
  exact NOk.of_v (doSliceAny_ok hC hw t (hρ x (by simp)) (ovrel_of_map lo fun y hy => hρ y (by simp [hy])) (ovrel_of_map hi fun y hy => hρ y (by simp [hy])) (ovrel_of_map mx fun y hy => hρ y (by simp [hy])))
 case fieldAddr s x f => exact NOk.of_v (doFieldAddr_ok hC hw s f (hρ x (by simp)))
 case field t x f => exact NOk.of_v (doField_ok hC hw t f (hρ x (by simp)))
 case indexAddr t x i => exact NOk.of_v (doIndexAddr_ok hC hw t (hρ x (by simp)) (hρ i (by simp)))
 case index t x i => exact NOk.of_v (doIndex_ok hC hw t (hρ x (by simp)) (hρ i (by simp)))
 case lookup t x i ok => exact NOk.of_v (doLookup_ok hC hw t ok (hρ x (by simp)) (hρ i (by simp)))
 case mapUpdate t m k x => exact NOk.of_u (doMapUpdate_ok hC hw t (hρ m (by simp)) (hρ k (by simp)) (hρ x (by simp)))
 case insert t m k x => exact NOk.of_u (doMapUpdate_ok hC hw t (hρ m (by simp)) (hρ k (by simp)) (hρ x (by simp)))
 case range t x => exact NOk.of_v (doRange_ok hC hw t (hρ x (by simp)))
 case next x b => exact NOk.of_v (doNext_ok hw type b (hρ x (by simp)))
 case entry x => exact NOk.of_v (doEntry_ok hw (hρ x (by simp)))
 case typeAssert x xt a ok => exact NOk.of_v (doTypeAssert_ok hC hw xt a ok (hρ x (by simp)))
 case extract x i => exact NOk.of_v (doExtract_ok hw i (hρ x (by simp)))
 case call c => exact doCall_ok hC hw hR c type hρ
 all_goals trivial

end Go.Ev
