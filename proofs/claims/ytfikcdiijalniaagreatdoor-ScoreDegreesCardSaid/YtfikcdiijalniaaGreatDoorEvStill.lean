/- Operations that do not look at the world. -/
import Derived.Test.YtfikcdiijalniaaGreatDoorEvVF
namespace Go.Ev
open Go

def OR.mv (B : AW) : OR → OR
 | .val v _ => .val v B
 | r => r

section
variable {C : Cfg} {A B : AW}

theorem mv_plainV {s : Sem Value} : plainV C s B = (plainV C s A).mv B := by unfold plainV; repeat' (first | rfl | split)
theorem mv_eqNil {op : BinOp} {b : Bool} : eqNil op b B = (eqNil op b A).mv B := by unfold eqNil; cases op <;> rfl
theorem mv_doEqNil {op : BinOp} {t : Nat} {x y : Value} : doEqNil C op t x y B = (doEqNil C op t x y A).mv B := by
 unfold doEqNil; repeat' (first | rfl | exact mv_eqNil | split)
theorem mv_doEqPtr {op : BinOp} {t : Nat} {x y : Value} : doEqPtr C op t x y B = (doEqPtr C op t x y A).mv B := by
 unfold doEqPtr; repeat' (first | rfl | exact mv_eqNil | exact mv_doEqNil | split)
theorem mv_bin {op : BinOp} {t : Nat} {ox oy : Operand} {x y : Value} : doBin C op t ox oy x y B = (doBin C op t ox oy x y A).mv B := by
 unfold doBin; repeat' (first | rfl | exact mv_plainV | exact mv_doEqPtr | split)
theorem mv_un {op : UnOp} {x : Value} : doUn C op x B = (doUn C op x A).mv B := by unfold doUn; repeat' (first | rfl | exact mv_plainV | split)
theorem mv_nilCheck {x : Value} : doNilCheck x B = (doNilCheck x A).mv B := by unfold doNilCheck; repeat' (first | rfl | split)
theorem mv_fieldAddr {s f : Nat} {x : Value} : doFieldAddr C s x f B = (doFieldAddr C s x f A).mv B := by unfold doFieldAddr; repeat' (first | rfl | split)
theorem mv_field {t f : Nat} {x : Value} : doField C t x f B = (doField C t x f A).mv B := by unfold doField; repeat' (first | rfl | split)
theorem mv_indexAddr {t : Nat} {x i : Value} : doIndexAddr C t x i B = (doIndexAddr C t x i A).mv B := by unfold doIndexAddr; repeat' (first | rfl | split)
theorem mv_extract {x : Value} {i : Nat} : doExtract x i B = (doExtract x i A).mv B := by unfold doExtract; repeat' (first | rfl | split)
theorem mv_indexA {t : Nat} {x i : Value} : doIndexA C t x i B = (doIndexA C t x i A).mv B := by unfold doIndexA; repeat' (first | rfl | split)
theorem mv_index {t : Nat} {x i : Value} : doIndex C t x i B = (doIndex C t x i A).mv B := by unfold doIndex; repeat' (first | rfl | exact mv_plainV | exact mv_indexA | split)
theorem mv_build {t : Nat} {ps : List (Nat × Value)} : doBuild C t ps B = (doBuild C t ps A).mv B := by unfold doBuild; repeat' (first | rfl | split)

def stillOp : Op → Bool
 | .move _ | .assign _ | .nilCheck _ | .binOp _ _ _ _ _ | .unOp _ _ _ | .fieldAddr _ _ _ | .field _ _ _ | .indexAddr _ _ _ | .extract _ _ | .index _ _ _ | .build _ _ => true
 | _ => false

theorem still_same {ρ : Operand → Value} {o : Oper} (h : stillOp o.op = true) {v : Value} {A' : AW} (hd : doOp C ρ o A = .val v A') : doOp C ρ o B = .val v B := by
 have key : doOp C ρ o B = (doOp C ρ o A).mv B := by
  obtain ⟨dst, op, type, pos, after, guard⟩ := o
  unfold doOp
  cases op <;> simp only [stillOp] at h <;> simp only <;> first
   | (cases h; done)
   | rfl
   | exact mv_nilCheck | exact mv_bin | exact mv_un | exact mv_fieldAddr | exact mv_field | exact mv_indexAddr | exact mv_extract | exact mv_index | exact mv_build
   | skip
 rw [key, hd]
 rfl
end

end Go.Ev
