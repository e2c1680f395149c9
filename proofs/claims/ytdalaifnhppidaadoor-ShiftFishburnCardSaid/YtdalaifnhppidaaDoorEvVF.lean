/- Operations that are no calls give a value, or nothing. -/
import Derived.Test.YtdalaifnhppidaaDoorEvDraw
namespace Go.Ev
open Go

def VF (r : OR) : Prop :=
 match r with
 | .val _ _ => True
 | .fail _ => True
 | _ => False

section
variable {C : Cfg} {A : AW}

theorem vf_plainV {s : Sem Value} : VF (plainV C s A) := by unfold plainV; repeat' (first | trivial | split)
theorem vf_eqNil {op : BinOp} {b : Bool} : VF (eqNil op b A) := by unfold eqNil; repeat' (first | trivial | split)
theorem vf_doEqNil {op : BinOp} {t : Nat} {x y : Value} : VF (doEqNil C op t x y A) := by unfold doEqNil; repeat' (first | trivial | exact vf_eqNil | split)
theorem vf_doEqPtr {op : BinOp} {t : Nat} {x y : Value} : VF (doEqPtr C op t x y A) := by unfold doEqPtr; repeat' (first | trivial | exact vf_eqNil | exact vf_doEqNil | split)
theorem vf_bin {op : BinOp} {t : Nat} {ox oy : Operand} {x y : Value} : VF (doBin C op t ox oy x y A) := by unfold doBin; repeat' (first | trivial | exact vf_plainV | exact vf_doEqPtr | split)
theorem vf_load {t : Nat} {a : Value} : VF (doLoad C t a A) := by unfold doLoad; repeat' (first | trivial | split)
theorem vf_store {t : Nat} {a x : Value} : VF (doStore C t a x A) := by unfold doStore; repeat' (first | trivial | split)
theorem vf_pick {c a b : Value} : VF (doPick c a b A) := by unfold doPick; repeat' (first | trivial | split)
theorem vf_alloc {e : Nat} : VF (doAlloc C e A) := by unfold doAlloc; repeat' (first | trivial | split)
theorem vf_build {t : Nat} {ps : List (Nat × Value)} : VF (doBuild C t ps A) := by unfold doBuild; repeat' (first | trivial | split)
theorem vf_buildSlice {t n : Nat} {ps : List (Nat × Value)} : VF (doBuildSlice C t n ps A) := by unfold doBuildSlice; repeat' (first | trivial | split)
theorem vf_nilCheck {x : Value} : VF (doNilCheck x A) := by unfold doNilCheck; repeat' (first | trivial | split)
theorem vf_un {op : UnOp} {x : Value} : VF (doUn C op x A) := by unfold doUn; repeat' (first | trivial | exact vf_plainV | split)
theorem vf_ptrConv {s d : Nat} {x : Value} : VF (doPtrConv C s d x A) := by unfold doPtrConv; repeat' (first | trivial | split)
theorem vf_bytesStr {s d : Nat} {x : Value} : VF (doBytesStr C s d x A) := by unfold doBytesStr; repeat' (first | trivial | exact vf_ptrConv | split)
theorem vf_convert {s d : Nat} {x : Value} : VF (doConvert C s d x A) := by unfold doConvert; repeat' (first | trivial | exact vf_plainV | exact vf_bytesStr | split)
theorem vf_makeInterface {t : Nat} {x : Value} : VF (doMakeInterface C t x A) := by unfold doMakeInterface; repeat' (first | trivial | split)
theorem vf_makeMap {t : Nat} {r : Option Value} : VF (doMakeMap C t r A) := by unfold doMakeMap; repeat' (first | trivial | split)
theorem vf_makeSlice {t : Nat} {l c : Value} : VF (doMakeSlice C t l c A) := by unfold doMakeSlice; repeat' (first | trivial | split)
theorem vf_sliceK {sz cap l hh m : Nat} {a : Option Addr} : VF (sliceK sz a cap l hh m A) := by unfold sliceK; repeat' (first | trivial | split)
theorem vf_sliceU {sz i k len l hh : Nat} : VF (sliceU sz i k len l hh A) := by unfold sliceU; repeat' (first | trivial | split)
theorem vf_sliceR {sz b k s cap l hh m : Nat} : VF (sliceR sz b k s cap l hh m A) := by unfold sliceR; repeat' (first | trivial | split)
theorem vf_slice {t : Nat} {x : Value} {lo hi mx : Option Value} : VF (doSliceAny C t x lo hi mx A) := by
 unfold doSliceAny doSlice doSliceS doSliceP emptyS; repeat' (first | trivial | exact vf_plainV | exact vf_sliceK | exact vf_sliceU | exact vf_sliceR | split)
theorem vf_fieldAddr {s f : Nat} {x : Value} : VF (doFieldAddr C s x f A) := by unfold doFieldAddr; repeat' (first | trivial | split)
theorem vf_field {t f : Nat} {x : Value} : VF (doField C t x f A) := by unfold doField; repeat' (first | trivial | split)
theorem vf_indexAddr {t : Nat} {x i : Value} : VF (doIndexAddr C t x i A) := by unfold doIndexAddr; repeat' (first | trivial | split)
theorem vf_indexA {t : Nat} {x i : Value} : VF (doIndexA C t x i A) := by unfold doIndexA; repeat' (first | trivial | split)
theorem vf_index {t : Nat} {x i : Value} : VF (doIndex C t x i A) := by unfold doIndex; repeat' (first | trivial | exact vf_plainV | exact vf_indexA | split)
theorem vf_lookup {t : Nat} {x k : Value} {ok : Bool} : VF (doLookup C t x k ok A) := by unfold doLookup; repeat' (first | trivial | split)
theorem vf_mapUpdate {t : Nat} {m k v : Value} : VF (doMapUpdate C t m k v A) := by unfold doMapUpdate; repeat' (first | trivial | split)
theorem vf_range {t : Nat} {x : Value} : VF (doRange C t x A) := by unfold doRange; repeat' (first | trivial | split)
theorem vf_entry {x : Value} : VF (doEntry x A) := by unfold doEntry; repeat' (first | trivial | split)
theorem vf_next {x : Value} {b : Bool} : VF (doNext x b A) := by unfold doNext; repeat' (first | trivial | split)
theorem vf_holds {v : Value} {ok : Bool} : VF (holdsV v ok A) := by unfold holdsV; repeat' (first | trivial | split)
theorem vf_fails {a : Nat} {ok : Bool} : VF (failsV C a ok A) := by unfold failsV; repeat' (first | trivial | split)
theorem vf_typeAssert {x : Value} {a : Nat} {ok : Bool} : VF (doTypeAssert C x a ok A) := by unfold doTypeAssert; repeat' (first | trivial | exact vf_holds | exact vf_fails | split)
theorem vf_extract {x : Value} {i : Nat} : VF (doExtract x i A) := by unfold doExtract; repeat' (first | trivial | split)
theorem vf_len {ts : List TypeId} {args : List Value} : VF (doLen C ts args A) := by unfold doLen; repeat' (first | trivial | split)
theorem vf_copy {ts : List TypeId} {args : List Value} : VF (doCopy C ts args A) := by unfold doCopy; repeat' (first | trivial | split)
theorem vf_appendK {e sz i k len cap n : Nat} {new : List Value} : VF (appendK e sz i k len cap n new A) := by unfold appendK; repeat' (first | trivial | split)
theorem vf_appendU {q : Bool} {e sz i k len n : Nat} {new : List Value} : VF (appendU q e sz i k len n new A) := by unfold appendU; repeat' (first | trivial | split)
theorem vf_appendN {e sz n : Nat} {new : List Value} : VF (appendN e sz n new A) := by unfold appendN; repeat' (first | trivial | split)
theorem vf_append {ts : List TypeId} {args : List Value} : VF (doAppend C ts args A) := by unfold doAppend; repeat' (first | trivial | exact vf_appendK | exact vf_appendU | exact vf_appendN | split)
theorem vf_appendM {ts : List TypeId} {args : List Value} : VF (doAppendM C ts args A) := by unfold doAppendM; repeat' (first | trivial | exact vf_append | split)
theorem vf_sliceData {args : List Value} : VF (doSliceData args A) := by unfold doSliceData; repeat' (first | trivial | split)
theorem vf_uString {ts : List TypeId} {args : List Value} : VF (doUString C ts args A) := by unfold doUString; repeat' (first | trivial | split)
theorem vf_delete {ts : List TypeId} {args : List Value} : VF (doDelete C ts args A) := by unfold doDelete; repeat' (first | trivial | split)
theorem vf_cap {ts : List TypeId} {args : List Value} : VF (doCap C ts args A) := by unfold doCap; repeat' (first | trivial | split)
theorem vf_builtin {b : Builtin} {ts : Array TypeId} {ty : Nat} {args : List Value} : VF (doBuiltin C b ts ty args A) := by
 unfold doBuiltin; repeat' (first | trivial | exact vf_len | exact vf_appendM | exact vf_copy | exact vf_plainV | exact vf_sliceData | exact vf_uString | exact vf_delete | exact vf_cap | split)
theorem vf_noZero {fn : Func} {args : List Value} : VF (doNoZero C fn args A) := by unfold doNoZero; repeat' (first | trivial | split)
theorem vf_ext {f : Nat} {args : List Value} : VF (doExt C f args A) := by unfold doExt; repeat' (first | trivial | exact vf_plainV | exact vf_noZero | split)

def isFn (op : Op) : Bool :=
 match op with
 | .call c => match c.callee with
  | .builtin _ => false
  | _ => true
 | _ => false

theorem vf_op {ρ : Operand → Value} {o : Oper} (h : isFn o.op = false) : VF (doOp C ρ o A) := by
 obtain ⟨dst, op, type, pos, after, guard⟩ := o
 unfold doOp
 cases op <;> simp only <;> first
  | trivial
  | exact vf_pick | exact vf_alloc | exact vf_build | exact vf_buildSlice | exact vf_load | exact vf_store | exact vf_nilCheck | exact vf_bin | exact vf_un | exact vf_convert
  | exact vf_makeInterface | exact vf_makeMap | exact vf_makeSlice | exact vf_slice | exact vf_fieldAddr | exact vf_field | exact vf_indexAddr | exact vf_index | exact vf_lookup
  | exact vf_mapUpdate | exact vf_range | exact vf_entry | exact vf_next | exact vf_typeAssert | exact vf_extract
  | (split <;> trivial)
  | skip
 case call c =>
  unfold doCall
  cases hc : c.callee with
  | builtin b => exact vf_builtin
  | value f => simp [isFn, hc] at h
  | invoke r n => simp [isFn, hc] at h

theorem quiet_noFn {op : Op} (h : quietOp op = true) : isFn op = false := by
 cases op <;> try rfl
 case call c =>
  obtain ⟨callee, args, tys⟩ := c
  cases callee with
  | builtin b => rfl
  | value f => simp [quietOp] at h
  | invoke r n => simp [quietOp] at h

def stepOk (op : Op) : Bool :=
 match op with
 | .call c => match c.callee with
  | .builtin _ => true
  | .value (.func _) => true
  | _ => false
 | _ => true

theorem no_yield {m : Nat} {e : En} {o : Oper} (h : stepOk o.op = true) : ∀ i args B, doOp C (rho m e) o A ≠ .yield i args B := by
 intro i args B hd
 cases hf : isFn o.op with
 | false =>
  have := vf_op (C := C) (A := A) (ρ := rho m e) hf
  rw [hd] at this
  exact this
 | true =>
  obtain ⟨dst, op, type, pos, after, guard⟩ := o
  cases op <;> simp only [isFn] at hf <;> try cases hf
  rename_i c
  simp only [doOp, doCall] at hd
  cases hc : c.callee with
  | builtin b => simp [hc] at hf
  | invoke r n => simp [stepOk, hc] at h
  | value f =>
   cases f with
   | func g =>
    have hr : rho m e (.func g) = .func (.func g) ⟨[]⟩ ⟨[]⟩ := rfl
    simp only [hc, hr] at hd
    split at hd
    ·cases hd
    ·have := vf_ext (C := C) (A := A) (f := g) (args := [] ++ c.args.toList.map (rho m e) ++ [])
     rw [hd] at this
     exact this
   | tmp t => simp [stepOk, hc] at h
   | const v => simp [stepOk, hc] at h
   | global g => simp [stepOk, hc] at h
end

end Go.Ev
