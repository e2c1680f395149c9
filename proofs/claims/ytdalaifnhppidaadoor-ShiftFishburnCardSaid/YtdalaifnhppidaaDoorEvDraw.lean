/- A region that draws its order, gone through once in the order of the text: what that says of every order. -/
import Derived.Test.YtdalaifnhppidaaDoorEvOrders
namespace Go.Ev
open Go

def quietOp : Op → Bool
 | .move _ | .assign _ | .pick _ _ _ | .build _ _ | .load _ _ | .nilCheck _ | .binOp _ _ _ _ _ | .unOp _ _ _ | .makeInterface _ _ | .makeFunc _ _ _ | .slice _ _ _ _ _ | .fieldAddr _ _ _ | .field _ _ _ | .indexAddr _ _ _ | .index _ _ _ | .lookup _ _ _ _
 | .typeAssert _ _ _ _ | .extract _ _ => true
 | .convert _ _ _ => true
 | .call c => match c.callee with
  | .builtin .len | .builtin .min | .builtin .max | .builtin .unsafeSliceData => true
  | _ => false
 | _ => false

section quiet
variable {C : Cfg} {A A' : AW} {v : Value}


theorem quiet_plainV {s : Sem Value} (h : plainV C s A = .val v A') : A' = A := by
 unfold plainV at h; split at h <;> (try split at h) <;> cases h <;> rfl
theorem quiet_load {t : Nat} {a : Value} (h : doLoad C t a A = .val v A') : A' = A := by
 unfold doLoad at h; repeat' (first | (cases h; done) | (cases h; rfl) | split at h)
theorem quiet_pick {c a b : Value} (h : doPick c a b A = .val v A') : A' = A := by
 unfold doPick at h; repeat' (first | (cases h; done) | (cases h; rfl) | split at h)
theorem quiet_build {t : Nat} {ps : List (Nat × Value)} (h : doBuild C t ps A = .val v A') : A' = A := by
 unfold doBuild at h; repeat' (first | (cases h; done) | (cases h; rfl) | split at h)
theorem quiet_nilCheck {x : Value} (h : doNilCheck x A = .val v A') : A' = A := by
 unfold doNilCheck at h; repeat' (first | (cases h; done) | (cases h; rfl) | split at h)
theorem quiet_eqNil {op : BinOp} {b : Bool} (h : eqNil op b A = .val v A') : A' = A := by
 unfold eqNil at h; repeat' (first | (cases h; done) | (cases h; rfl) | split at h)
theorem quiet_doEqNil {op : BinOp} {t : Nat} {x y : Value} (h : doEqNil C op t x y A = .val v A') : A' = A := by
 unfold doEqNil at h; repeat' (first | exact quiet_eqNil h | (cases h; done) | split at h)
theorem quiet_doEqPtr {op : BinOp} {t : Nat} {x y : Value} (h : doEqPtr C op t x y A = .val v A') : A' = A := by
 unfold doEqPtr at h; repeat' (first | exact quiet_eqNil h | exact quiet_doEqNil h | (cases h; done) | split at h)
theorem quiet_doPtrConv {s d : Nat} {x : Value} (h : doPtrConv C s d x A = .val v A') : A' = A := by
 unfold doPtrConv at h; repeat' (first | (cases h; done) | (cases h; rfl) | split at h)
theorem quiet_sliceData {args : List Value} (h : doSliceData args A = .val v A') : A' = A := by
 unfold doSliceData at h; repeat' (first | (cases h; done) | (cases h; rfl) | split at h)
theorem quiet_bin {op : BinOp} {t : Nat} {ox oy : Operand} {x y : Value} (h : doBin C op t ox oy x y A = .val v A') : A' = A := by
 unfold doBin at h; repeat' (first | exact quiet_plainV h | exact quiet_doEqPtr h | (cases h; done) | (cases h; rfl) | split at h)
theorem quiet_un {op : UnOp} {x : Value} (h : doUn C op x A = .val v A') : A' = A := by
 unfold doUn at h; repeat' (first | exact quiet_plainV h | (cases h; done) | (cases h; rfl) | split at h)
theorem quiet_doBytesStr {s d : Nat} {x : Value} (h : doBytesStr C s d x A = .val v A') : A' = A := by
 unfold doBytesStr at h; repeat' (first | exact quiet_doPtrConv h | (cases h; done) | (cases h; rfl) | split at h)
theorem quiet_convert {s d : Nat} {x : Value} (h : doConvert C s d x A = .val v A') : A' = A := by
 unfold doConvert at h; repeat' (first | exact quiet_plainV h | exact quiet_doBytesStr h | (cases h; done) | (cases h; rfl) | split at h)
theorem quiet_makeInterface {t : Nat} {x : Value} (h : doMakeInterface C t x A = .val v A') : A' = A := by
 unfold doMakeInterface at h; repeat' (first | (cases h; done) | (cases h; rfl) | split at h)
theorem quiet_sliceK {sz cap l hh m : Nat} {a : Option Addr} (h : sliceK sz a cap l hh m A = .val v A') : A' = A := by
 unfold sliceK at h; repeat' (first | (cases h; done) | (cases h; rfl) | split at h)
theorem quiet_sliceU {sz i k len l hh : Nat} (h : sliceU sz i k len l hh A = .val v A') : A' = A := by
 unfold sliceU at h; repeat' (first | (cases h; done) | (cases h; rfl) | split at h)
theorem quiet_sliceR {sz b k s cap l hh m : Nat} (h : sliceR sz b k s cap l hh m A = .val v A') : A' = A := by
 unfold sliceR at h; repeat' (first | (cases h; done) | (cases h; rfl) | split at h)
theorem quiet_slice {t : Nat} {x : Value} {lo hi mx : Option Value} (h : doSliceAny C t x lo hi mx A = .val v A') : A' = A := by
 unfold doSliceAny doSlice doSliceS doSliceP emptyS at h
 repeat' (first | exact quiet_plainV h | exact quiet_sliceK h | exact quiet_sliceU h | exact quiet_sliceR h | (cases h; done) | (cases h; rfl) | split at h)
theorem quiet_fieldAddr {s f : Nat} {x : Value} (h : doFieldAddr C s x f A = .val v A') : A' = A := by
 unfold doFieldAddr at h; repeat' (first | (cases h; done) | (cases h; rfl) | split at h)
theorem quiet_field {t f : Nat} {x : Value} (h : doField C t x f A = .val v A') : A' = A := by
 unfold doField at h; repeat' (first | (cases h; done) | (cases h; rfl) | split at h)
theorem quiet_indexAddr {t : Nat} {x i : Value} (h : doIndexAddr C t x i A = .val v A') : A' = A := by
 unfold doIndexAddr at h; repeat' (first | (cases h; done) | (cases h; rfl) | split at h)
theorem quiet_index {t : Nat} {x i : Value} (h : doIndex C t x i A = .val v A') : A' = A := by
 unfold doIndex doIndexA at h; repeat' (first | exact quiet_plainV h | (cases h; done) | (cases h; rfl) | split at h)
theorem quiet_lookup {t : Nat} {x i : Value} {ok : Bool} (h : doLookup C t x i ok A = .val v A') : A' = A := by
 unfold doLookup at h; repeat' (first | (cases h; done) | (cases h; rfl) | split at h)
theorem quiet_holdsV {x : Value} {ok : Bool} (h : holdsV x ok A = .val v A') : A' = A := by
 unfold holdsV at h; repeat' (first | (cases h; done) | (cases h; rfl) | split at h)
theorem quiet_failsV {a : Nat} {ok : Bool} (h : failsV C a ok A = .val v A') : A' = A := by
 unfold failsV at h; repeat' (first | (cases h; done) | (cases h; rfl) | split at h)
theorem quiet_typeAssert {x : Value} {a : Nat} {ok : Bool} (h : doTypeAssert C x a ok A = .val v A') : A' = A := by
 unfold doTypeAssert at h; repeat' (first | exact quiet_holdsV h | exact quiet_failsV h | (cases h; done) | (cases h; rfl) | split at h)
theorem quiet_extract {x : Value} {i : Nat} (h : doExtract x i A = .val v A') : A' = A := by
 unfold doExtract at h; repeat' (first | (cases h; done) | (cases h; rfl) | split at h)
theorem quiet_len {ts : List TypeId} {args : List Value} (h : doLen C ts args A = .val v A') : A' = A := by
 unfold doLen at h; repeat' (first | (cases h; done) | (cases h; rfl) | split at h)

theorem quiet_same {ρ : Operand → Value} {o : Oper} (hq : quietOp o.op = true) (h : doOp C ρ o A = .val v A') : A' = A := by
 obtain ⟨dst, op, type, pos, after, guard⟩ := o
 unfold doOp at h
 cases op <;> simp only [quietOp] at hq <;> simp only at h <;> try cases hq
 case move x => cases h; rfl
 case assign x => cases h; rfl
 case pick c a b => exact quiet_pick h
 case build t ps => exact quiet_build h
 case load t a => exact quiet_load h
 case nilCheck x => exact quiet_nilCheck h
 case binOp => exact quiet_bin h
 case unOp => exact quiet_un h
 case convert => exact quiet_convert h
 case makeInterface => exact quiet_makeInterface h
 case makeFunc fn a c =>
  obtain ⟨a⟩ := a
  obtain ⟨c⟩ := c
  simp only at h
  split at h <;> cases h
  rfl
 case slice => exact quiet_slice h
 case fieldAddr => exact quiet_fieldAddr h
 case field => exact quiet_field h
 case indexAddr => exact quiet_indexAddr h
 case index => exact quiet_index h
 case lookup => exact quiet_lookup h
 case typeAssert => exact quiet_typeAssert h
 case extract => exact quiet_extract h
 case call c =>
  split at hq
  ·rename_i hc; unfold doCall at h; rw [hc] at h; exact quiet_len h
  ·rename_i hc; unfold doCall at h; rw [hc] at h; simp only [doBuiltin] at h; split at h; exact quiet_plainV h; cases h
  ·rename_i hc; unfold doCall at h; rw [hc] at h; simp only [doBuiltin] at h; split at h; exact quiet_plainV h; cases h
  ·rename_i hc; unfold doCall at h; rw [hc] at h; exact quiet_sliceData h
  ·cases hq
end quiet

end Go.Ev
