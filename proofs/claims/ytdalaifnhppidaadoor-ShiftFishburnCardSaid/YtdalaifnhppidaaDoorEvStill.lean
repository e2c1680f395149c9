/- Operations that do not look at the world. -/
import Derived.Test.YtdalaifnhppidaaDoorEvVF
namespace Go.Ev
open Go

def OR.mv (B : AW) : OR → OR
 | .val v _ => .val v B
 | r => r

section
variable {C : Cfg} {A B : AW}

theorem mv_plainV {s : Sem Value} : plainV C s B = (plainV C s A).mv B := by unfold plainV; repeat' (first | rfl | split)
theorem mv_eqNil {op : BinOp} {b : Bool} : eqNil op b B = (eqNil op b A).mv B := by unfold eqNil; cases op <;> rfl
theorem mv_doEqNil {op : BinOp} {t : Nat} {x y : Value} : doEqNil C op t x y B = (doEqNil C op t x y A).mv B := by
 unfold doEqNil; repeat' (first | rfl | exact mv_eqNil | split)
theorem mv_doEqPtr {op : BinOp} {t : Nat} {x y : Value} : doEqPtr C op t x y B = (doEqPtr C op t x y A).mv B := by
 unfold doEqPtr; repeat' (first | rfl | exact mv_eqNil | exact mv_doEqNil | split)
theorem mv_bin {op : BinOp} {t : Nat} {ox oy : Operand} {x y : Value} : doBin C op t ox oy x y B = (doBin C op t ox oy x y A).mv B := by
 unfold doBin; repeat' (first | rfl | exact mv_plainV | exact mv_doEqPtr | split)
theorem mv_un {op : UnOp} {x : Value} : doUn C op x B = (doUn C op x A).mv B := by unfold doUn; repeat' (first | rfl | exact mv_plainV | split)
theorem mv_nilCheck {x : Value} : doNilCheck x B = (doNilCheck x A).mv B := by unfold doNilCheck; repeat' (first | rfl | split)
theorem mv_fieldAddr {s f : Nat} {x : Value} : doFieldAddr C s x f B = (doFieldAddr C s x f A).mv B := by unfold doFieldAddr; repeat' (first | rfl | split)
theorem mv_field {t f : Nat} {x : Value} : doField C t x f B = (doField C t x f A).mv B := by unfold doField; repeat' (first | rfl | split)
theorem mv_indexAddr {t : Nat} {x i : Value} : doIndexAddr C t x i B = (doIndexAddr C t x i A).mv B := by unfold doIndexAddr; repeat' (first | rfl | split)
theorem mv_extract {x : Value} {i : Nat} : doExtract x i B = (doExtract x i A).mv B := by unfold doExtract; repeat' (first | rfl | split)
theorem mv_indexA {t : Nat} {x i : Value} : doIndexA C t x i B = (doIndexA C t x i A).mv B := by unfold doIndexA; repeat' (first | rfl | split)
theorem mv_index {t : Nat} {x i : Value} : doIndex C t x i B = (doIndex C t x i A).mv B := by unfold doIndex; repeat' (first | rfl | exact mv_plainV | exact mv_indexA | split)
theorem mv_build {t : Nat} {ps : List (Nat × Value)} : doBuild C t ps B = (doBuild C t ps A).mv B := by unfold doBuild; repeat' (first | rfl | split)

def stillOp : Op → Bool
 | .move _ | .assign _ | .nilCheck _ | .binOp _ _ _ _ _ | .unOp _ _ _ | .fieldAddr _ _ _ | .field _ _ _ | .indexAddr _ _ _ | .extract _ _ | .index _ _ _ | .build _ _ => true
 | _ => false

theorem still_same {ρ : Operand → Value} {o : Oper} (h : stillOp o.op = true) {v : Value} {A' : AW} (hd : doOp C ρ o A = .val v A') : doOp C ρ o B = .val v B := by
 have key : doOp C ρ o B = (doOp C ρ o A).mv B := by
  obtain ⟨dst, op, type, pos, after, guard⟩ := o
  unfold doOp
  cases op <;> simp only [stillOp] at h <;> simp only <;> first
   | (cases h; done)
   | rfl
   | exact mv_nilCheck | exact mv_bin | exact mv_un | exact mv_fieldAddr | exact mv_field | exact mv_indexAddr | exact mv_extract | exact mv_index | exact mv_build
   | skip
 rw [key, hd]
 rfl

theorem mv_sliceR {sz b k s cap l h m : Nat} : sliceR sz b k s cap l h m B = (sliceR sz b k s cap l h m A).mv B := by unfold sliceR; repeat' (first | rfl | split)

def slcV : Value → Bool
 | .slice _ _ _ => true
 | _ => false
def sroV : Value → Bool
 | .slice (some ⟨_, _, some _⟩) _ _ => true
 | _ => false
def proV : Value → Bool
 | .pointer (some ⟨_, _, some _⟩) => true
 | _ => false

/-- Operations that do not look at the world, their arguments being these. -/
def stillV (ρ : Operand → Value) : Op → Bool
 | .pick _ _ _ => true
 | .slice _ x _ _ _ => sroV (ρ x)
 | .load _ a => proV (ρ a)
 | .call c => match c.callee with
  | .builtin .min => true
  | .builtin .max => true
  | .builtin .len => match c.args.toList with
   | x :: _ => slcV (ρ x)
   | _ => false
  | _ => false
 | _ => false

def stillX (m : Nat) (en : En) (o : Oper) : Bool := match stillOp o.op with
 | true => true
 | false => stillV (rho m en) o.op

theorem mv_loadR {t : Nat} {x : Value} (h : proV x = true) : doLoad C t x B = (doLoad C t x A).mv B := by
 unfold proV at h
 split at h
 ·unfold doLoad
  simp only
  repeat' (first | rfl | split)
 ·cases h
theorem mv_cutR {t : Nat} {x : Value} {lo hi mx : Option Value} (h : sroV x = true) : doSliceAny C t x lo hi mx B = (doSliceAny C t x lo hi mx A).mv B := by
 unfold sroV at h
 split at h
 ·unfold doSliceAny doSlice
  simp only
  repeat' (first | rfl | exact mv_sliceR | split)
 ·cases h
theorem mv_lenS {ts : List TypeId} {x : Value} {l : List Value} (h : slcV x = true) : doLen C ts (x :: l) B = (doLen C ts (x :: l) A).mv B := by
 unfold slcV at h
 split at h
 ·unfold doLen
  cases ts with
  | nil => rfl
  | cons t ts =>
   simp only [mapOf]
   repeat' (first | rfl | split)
 ·cases h

theorem stillV_same {ρ : Operand → Value} {o : Oper} (h : stillV ρ o.op = true) {v : Value} {A' : AW} (hd : doOp C ρ o A = .val v A') : doOp C ρ o B = .val v B := by
 have key : doOp C ρ o B = (doOp C ρ o A).mv B := by
  obtain ⟨dst, op, type, pos, after, guard⟩ := o
  cases op <;> simp only [stillV] at h <;> simp only [doOp]
  case pick c a b => unfold doPick; repeat' (first | rfl | split)
  case slice t x lo hi mx => exact mv_cutR h
  case load t a => exact mv_loadR h
  case call c =>
   obtain ⟨callee, args, ats⟩ := c
   simp only [doCall]
   cases callee with
   | builtin bb =>
    cases bb <;> simp only [doBuiltin] at h ⊢
    case min => repeat' (first | rfl | exact mv_plainV | split)
    case max => repeat' (first | rfl | exact mv_plainV | split)
    case len =>
     split at h
     ·rename_i x l hl
      rw [hl]
      exact mv_lenS h
     ·cases h
    all_goals cases h
   | value f => cases h
   | invoke r n => cases h
  all_goals cases h
 rw [key, hd]
 rfl

theorem still_sameX {m : Nat} {en : En} {o : Oper} (h : stillX m en o = true) {v : Value} {A' : AW} (hd : doOp C (rho m en) o A = .val v A') : doOp C (rho m en) o B = .val v B := by
 unfold stillX at h
 split at h
 ·rename_i hs; exact still_same hs hd
 ·exact stillV_same h hd
end

end Go.Ev
