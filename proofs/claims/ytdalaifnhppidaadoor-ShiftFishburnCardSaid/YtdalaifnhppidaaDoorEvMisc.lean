/- Parts of values, interfaces, comparisons with nil, len, copy, walks over strings. -/
import Derived.Test.YtdalaifnhppidaaDoorEvMaps
namespace Go.Ev
open Go

def doExtract (x : Value) (i : Nat) (A : AW) : OR :=
 match x with
 | .tuple ⟨l⟩ => match l[i]? with
  | some v => .val v A
  | none => .fail 90
 | _ => .fail 91

theorem doExtract_ok {P : Program} {γ : Gam} {A : AW} {W : World} (hw : WRel γ A W) {x x' : Value} (i : Nat) (hx : VRel γ x x') : VOk P γ W (doExtract x i A) (Instr.extract x' i) := by
 unfold doExtract
 split
 ·rename_i l
  cases hx with
  | tuple h =>
   rename_i c'
   split
   ·rename_i v hv
    obtain ⟨v', hv', hr⟩ := h.get hv
    refine .same hw (v' := v') ?_ hr
    have : c'[i]? = some v' := by simpa using hv'
    simp [Instr.extract, this]
   ·trivial
 ·trivial

def partL (C : Cfg) (t : Nat) (l : List Value) (off : Nat) : Option Value :=
 match C.under t with
 | some d => match isAggD d with
  | true => match C.tys.get t with
   | some inf => match takeAt l off inf.size with
    | some r => some (.agg ⟨r⟩)
    | none => none
   | none => none
  | false => l[off]?
 | none => none

theorem takeAt_eq {l : List Value} {o n : Nat} {r : List Value} (h : takeAt l o n = some r) : (l.drop o).take n = r := by
 obtain ⟨h1, h2⟩ := takeAt_spec _ _ _ _ h
 apply List.ext_getElem?
 intro j
 rw [List.getElem?_take]
 by_cases hj : j < n
 ·rw [if_pos hj, List.getElem?_drop, h2 j hj]
 ·rw [if_neg hj, List.getElem?_eq_none (by omega)]

theorem VsRel.drop {γ : Gam} : ∀ {l l' : List Value} (n : Nat), VsRel γ l l' → VsRel γ (l.drop n) (l'.drop n)
 | _, _, 0, h => h
 | _, _, _ + 1, .nil => .nil
 | _, _, n + 1, .cons _ hl => hl.drop n

theorem VsRel.take {γ : Gam} : ∀ {l l' : List Value} (n : Nat), VsRel γ l l' → VsRel γ (l.take n) (l'.take n)
 | _, _, 0, _ => .nil
 | _, _, _ + 1, .nil => .nil
 | _, _, n + 1, .cons h hl => .cons h (hl.take n)

theorem part_ok {C : Cfg} (hC : C.Ok) {γ : Gam} {t : Nat} {l : List Value} {c' : Array Value} {off : Nat} {v : Value} (h : VsRel γ l c'.toList) (hp : partL C t l off = some v) (W : World) :
  ∃ v', (part t c' off).run C.P W = .ok v' W ∧ VRel γ v v' := by
 unfold partL at hp
 split at hp
 ·rename_i d hd
  split at hp
  ·rename_i ha
   split at hp
   ·rename_i inf hinf
    split at hp
    ·rename_i r hr
     cases hp
     refine ⟨.agg (c'.extract off (off + inf.size)), ?_, .agg ?_⟩
     ·simp [part, run_isAgg (hC.under hd), ha, run_sizeOf' (hC.ty _ _ hinf)]
     ·have h1 := takeAt_eq hr
      have h2 := (h.drop off).take inf.size
      rw [h1] at h2
      have h3 : (c'.extract off (off + inf.size)).toList = (c'.toList.drop off).take inf.size := by simp
      rw [h3]
      exact h2
    ·cases hp
   ·cases hp
  ·rename_i ha
   obtain ⟨v', hv', hr⟩ := h.get hp
   refine ⟨v', ?_, hr⟩
   have : c'[off]? = some v' := by simpa using hv'
   simp [part, run_isAgg (hC.under hd), ha, this]
 ·cases hp

def doField (C : Cfg) (t : Nat) (x : Value) (f : Nat) (A : AW) : OR :=
 match x with
 | .agg ⟨l⟩ => match C.under t with
  | some (.struct ⟨fs⟩) => match fs[f]? with
   | some fd => match partL C fd.type l fd.offset with
    | some v => .val v A
    | none => .fail 92
   | none => .fail 93
  | _ => .fail 94
 | _ => .fail 95

theorem doField_ok {C : Cfg} (hC : C.Ok) {γ : Gam} {A : AW} {W : World} (hw : WRel γ A W) (t : Nat) {x x' : Value} (f : Nat) (hx : VRel γ x x') :
  VOk C.P γ W (doField C t x f A) (Instr.field t x' f) := by
 unfold doField
 split
 ·cases hx with
  | agg h =>
   split
   ·rename_i fs ht
    split
    ·rename_i fd hfd
     split
     ·rename_i v hp
      obtain ⟨v', hr, hv⟩ := part_ok hC h hp W
      exact .same hw (by simp [Instr.field, run_underlying (hC.under ht), hfd, asAgg, hr]) hv
     ·trivial
    ·trivial
   ·trivial
 ·trivial

def doIndexA (C : Cfg) (t : Nat) (x ix : Value) (A : AW) : OR :=
 match x, ix with
 | .agg ⟨l⟩, .int _ (.ofNat n) => match C.under t with
  | some (.array len e) => match Nat.blt n len, C.tys.get e with
   | true, some inf => match partL C e l (Nat.mul n inf.size) with
    | some v => .val v A
    | none => .fail 96
   | _, _ => .fail 97
  | _ => .fail 98
 | _, _ => .fail 99

theorem doIndexA_ok {C : Cfg} (hC : C.Ok) {γ : Gam} {A : AW} {W : World} (hw : WRel γ A W) (t : Nat) {x x' ix ix' : Value} (hx : VRel γ x x') (hi : VRel γ ix ix') :
  VOk C.P γ W (doIndexA C t x ix A) (Instr.index t x' ix') := by
 unfold doIndexA
 split
 ·rename_i l kk n
  cases hx with
  | agg h =>
   cases hi
   split
   ·rename_i len e ht
    split
    ·rename_i inf hlt hinf
     split
     ·rename_i v hp
      obtain ⟨v', hr, hv⟩ := part_ok hC h hp W
      have hlt' := blt_lt hlt
      have hr' : (part e _ (n * inf.size)).run C.P W = .ok v' W := hr
      exact .same hw (by simp [Instr.index, asIntOf, run_underlying (hC.under ht), hlt', run_sizeOf' (hC.ty _ _ hinf), hr']) hv
     ·trivial
    ·trivial
   ·trivial
 ·trivial

def doMakeInterface (C : Cfg) (t : Nat) (x : Value) (A : AW) : OR :=
 match C.under t with
 | some (.interface _) => .fail 100
 | some _ => .val (.iface t x) A
 | none => .fail 101

theorem doMakeInterface_ok {C : Cfg} (hC : C.Ok) {γ : Gam} {A : AW} {W : World} (hw : WRel γ A W) (t : Nat) {x x' : Value} (hx : VRel γ x x') :
  VOk C.P γ W (doMakeInterface C t x A) (Instr.makeInterface t x') := by
 unfold doMakeInterface
 split
 ·trivial
 ·rename_i d hni ht
  refine .same hw (v' := .iface t x') ?_ (.iface t hx)
  simp only [Instr.makeInterface, Sem.run_bind, run_underlying (hC.under ht), Result.andThen_ok]
  cases d <;> first | rfl | exact absurd ht (by intro h; exact hni _ h)
 ·trivial

def failsV (C : Cfg) (asserted : Nat) (ok : Bool) (A : AW) : OR :=
 match ok with
 | true => match C.tys.get asserted with
  | some inf => match inf.zero with
   | some z => match gnd z with
    | true => .val (.tuple ⟨[z, .bool false]⟩) A
    | false => .fail 102
   | none => .fail 103
  | none => .fail 104
 | false => .fail 105

def holdsV (v : Value) (ok : Bool) (A : AW) : OR :=
 match ok with
 | true => .val (.tuple ⟨[v, .bool true]⟩) A
 | false => .val v A

def doTypeAssert (C : Cfg) (x : Value) (asserted : Nat) (ok : Bool) (A : AW) : OR :=
 match x with
 | .iface t v => match C.under asserted with
  | some (.interface want) => match C.tys.get t with
   | some inf => match Instr.missingMethod want inf.methods with
    | none => holdsV x ok A
    | some _ => failsV C asserted ok A
   | none => .fail 106
  | some _ => match Nat.beq t asserted with
   | true => holdsV v ok A
   | false => failsV C asserted ok A
  | none => .fail 107
 | .nilIface => match C.under asserted with
  | some _ => failsV C asserted ok A
  | none => .fail 108
 | _ => .fail 109

theorem doTypeAssert_ok {C : Cfg} (hC : C.Ok) {γ : Gam} {A : AW} {W : World} (hw : WRel γ A W) {x x' : Value} (xt asserted : Nat) (ok : Bool) (hx : VRel γ x x') :
  VOk C.P γ W (doTypeAssert C x asserted ok A) (Instr.typeAssert x' xt asserted ok) := by
 have fails : ∀ {s : Sem Value}, (ok = true → ∀ i z, C.P.info? asserted = some i → i.zero = some z → s.run C.P W = .ok (.tuple #[z, .bool false]) W) → VOk C.P γ W (failsV C asserted ok A) s := fun {s} h => by
  unfold failsV
  split
  ·split
   ·rename_i inf hinf
    split
    ·rename_i z hz
     split
     ·rename_i hg
      exact .same hw (h rfl inf z (hC.ty _ _ hinf) hz) (.tuple (.cons (VRel.of_gnd γ z hg) (.cons (.bool false) .nil)))
     ·trivial
    ·trivial
   ·trivial
  ·trivial
 have holds : ∀ {s : Sem Value} {v v' : Value}, VRel γ v v' → s.run C.P W = .ok (if ok then .tuple #[v', .bool true] else v') W → VOk C.P γ W (holdsV v ok A) s := fun {s v v'} hv h => by
  unfold holdsV
  cases ok with
  | true => exact .same hw (by simpa using h) (.tuple (.cons hv (.cons (.bool true) .nil)))
  | false => exact .same hw (by simpa using h) hv
 unfold doTypeAssert
 split
 ·rename_i t v
  cases hx with
  | iface t hv =>
   split
   ·rename_i want ha
    split
    ·rename_i inf hinf
     split
     ·rename_i hm
      exact holds (.iface t hv) (by simp [Instr.typeAssert, run_underlying (hC.under ha), run_typeInfo' (hC.ty _ _ hinf), hm])
     ·rename_i m hm
      exact fails fun hok i z hi hz => by simp [Instr.typeAssert, run_underlying (hC.under ha), run_typeInfo' (hC.ty _ _ hinf), hm, hok, run_zeroValue' hi hz]
    ·trivial
   ·rename_i d hni ha
    split
    ·rename_i heq
     have heq' := Nat.eq_of_beq_eq_true heq
     subst heq'
     refine holds hv ?_
     simp only [Instr.typeAssert, Sem.run_bind, run_underlying (hC.under ha), Result.andThen_ok]
     cases d <;> first | (simp; done) | exact absurd ha (by intro h; exact hni _ h)
    ·rename_i hne
     have hne' := Nat.ne_of_beq_eq_false hne
     refine fails fun hok i z hi hz => ?_
     simp only [Instr.typeAssert, Sem.run_bind, run_underlying (hC.under ha), Result.andThen_ok]
     cases d <;> first | (simp [hne', hok, run_zeroValue' hi hz]; done) | exact absurd ha (by intro h; exact hni _ h)
   ·trivial
 ·cases hx
  split
  ·rename_i d ha
   refine fails fun hok i z hi hz => ?_
   simp only [Instr.typeAssert, Sem.run_bind, run_underlying (hC.under ha), Result.andThen_ok]
   cases d <;> simp [hok, run_zeroValue' hi hz]
  ·trivial
 ·trivial


def doNilCheck (x : Value) (A : AW) : OR :=
 match x with
 | .pointer (some a) => .val (.pointer (some a)) A
 | .func (.func f) a c => .val (.func (.func f) a c) A
 | .iface t v => .val (.iface t v) A
 | _ => .fail 110

def doPick (c a b : Value) (A : AW) : OR :=
 match c with
 | .bool true => .val a A
 | .bool false => .val b A
 | _ => .fail 111

theorem doPick_ok {P : Program} {γ : Gam} {A : AW} {W : World} (hw : WRel γ A W) {c c' a a' b b' : Value} (hc : VRel γ c c') (ha : VRel γ a a') (hb : VRel γ b b') :
  VOk P γ W (doPick c a b A) (do pure (if ← asBool c' then a' else b')) := by
 unfold doPick
 split
 ·cases hc; exact .same hw (by simp [asBool]) ha
 ·cases hc; exact .same hw (by simp [asBool]) hb
 ·trivial

def nilQ : TypeDesc → Value → Option Bool
 | .pointer _, .pointer none => some true
 | .pointer _, .pointer (some _) => some false
 | .slice _, .slice none _ _ => some true
 | .slice _, .slice (some _) _ _ => some false
 | .map _ _, .map none => some true
 | .map _ _, .map (some _) => some false
 | .func _ _ _, .nilFunc => some true
 | .func _ _ _, .func _ _ _ => some false
 | .interface _, .nilIface => some true
 | .interface _, .iface _ _ => some false
 | _, _ => none

def eqNil (op : BinOp) (b : Bool) (A : AW) : OR :=
 match op with
 | .eql => .val (.bool b) A
 | .neq => .val (.bool (!b)) A
 | _ => .fail 112

def doEqNil (C : Cfg) (op : BinOp) (t : Nat) (x y : Value) (A : AW) : OR :=
 match C.under t with
 | some d => match nilQ d x, nilQ d y with
  | some false, some true => eqNil op false A
  | some true, some false => eqNil op false A
  | _, _ => .fail 113
 | none => .fail 114

theorem nilQ_rel {γ : Gam} {d : TypeDesc} {x x' : Value} (h : VRel γ x x') : nilQ d x' = nilQ d x := by
 cases h <;> cases d <;> rfl

theorem run_equalIn_nil {P : Program} {t : Nat} {d : TypeDesc} {x y : Value} (ht : P.underlying t = some d) (W : World) (n : Nat)
  (h : (nilQ d x = some false ∧ nilQ d y = some true) ∨ (nilQ d x = some true ∧ nilQ d y = some false)) : (Op.equalIn (n + 1) t x y).run P W = .ok false W := by
 simp only [Op.equalIn, Sem.run_bind, run_underlying ht, Result.andThen_ok]
 rcases h with ⟨h1, h2⟩ | ⟨h1, h2⟩
 all_goals
  unfold nilQ at h1 h2
  split at h1 <;> simp at h1 <;> split at h2 <;> simp_all

theorem run_equal_nil {P : Program} {t : Nat} {d : TypeDesc} {x y : Value} (ht : P.underlying t = some d) (W : World)
  (h : (nilQ d x = some false ∧ nilQ d y = some true) ∨ (nilQ d x = some true ∧ nilQ d y = some false)) : (Op.equal t x y).run P W = .ok false W :=
 run_equalIn_nil ht W 9999 h

theorem eqGuard_nil {P : Program} {op : BinOp} {t : Nat} {ox oy : Operand} {d : TypeDesc} {x y : Value} (W : World)
  (h : (nilQ d x = some false ∧ nilQ d y = some true) ∨ (nilQ d x = some true ∧ nilQ d y = some false)) : (eqGuard op t ox oy x y).run P W = .ok () W := by
 unfold eqGuard
 rcases h with ⟨h1, h2⟩ | ⟨h1, h2⟩
 all_goals
  unfold nilQ at h1 h2
  split at h1 <;> simp at h1 <;> split at h2 <;> simp at h2 <;> first | (cases op <;> rfl) | simp_all

theorem doEqNil_ok {C : Cfg} (hC : C.Ok) {γ : Gam} {A : AW} {W : World} (hw : WRel γ A W) (op : BinOp) (t : Nat) (ox oy : Operand) {x x' y y' : Value} (hx : VRel γ x x') (hy : VRel γ y y') :
  VOk C.P γ W (doEqNil C op t x y A) (do eqGuard op t ox oy x' y'; binOp op t x' y') := by
 unfold doEqNil
 split
 ·rename_i d ht
  have key : (nilQ d x' = some false ∧ nilQ d y' = some true) ∨ (nilQ d x' = some true ∧ nilQ d y' = some false) → VOk C.P γ W (eqNil op false A) (do eqGuard op t ox oy x' y'; binOp op t x' y') := fun h => by
   unfold eqNil
   have he := run_equal_nil (P := C.P) (hC.under ht) W h
   have hg := eqGuard_nil (P := C.P) (op := op) (t := t) (ox := ox) (oy := oy) W h
   split
   ·refine .same hw (v' := .bool false) ?_ (.bool false)
    simp only [Sem.run_bind, hg, Result.andThen_ok]
    rcases h with ⟨h1, h2⟩ | ⟨h1, h2⟩
    all_goals
     unfold nilQ at h1 h2
     split at h1 <;> simp at h1 <;> split at h2 <;> simp_all [binOp]
   ·refine .same hw (v' := .bool true) ?_ (.bool true)
    simp only [Sem.run_bind, hg, Result.andThen_ok]
    rcases h with ⟨h1, h2⟩ | ⟨h1, h2⟩
    all_goals
     unfold nilQ at h1 h2
     split at h1 <;> simp at h1 <;> split at h2 <;> simp_all [binOp]
   ·trivial
  split
  ·rename_i h1 h2
   exact key (.inl ⟨by rw [nilQ_rel hx]; exact h1, by rw [nilQ_rel hy]; exact h2⟩)
  ·rename_i h1 h2
   exact key (.inr ⟨by rw [nilQ_rel hx]; exact h1, by rw [nilQ_rel hy]; exact h2⟩)
  ·trivial
 ·trivial

end Go.Ev
