/- One operation of a region: the answer over the abstract world, and that the model's corresponds. -/
import Derived.Test.YtdalaifnhppidaaDoorEvBytes
namespace Go.Ev
open Go

def plainV (C : Cfg) (s : Sem Value) (A : AW) : OR :=
 match plain? C.P s with
 | some v => match gnd v with
  | true => .val v A
  | false => .fail 120
 | none => .fail 121

theorem plainV_ok {C : Cfg} {γ : Gam} {A : AW} {W : World} (hw : WRel γ A W) (s : Sem Value) : VOk C.P γ W (plainV C s A) s := by
 unfold plainV
 split
 ·rename_i v hv
  split
  ·rename_i hg
   exact .same hw (plain_run hv W) (VRel.of_gnd γ v hg)
  ·trivial
 ·trivial

def ibits (op : BinOp) (k : IntKind) (a b : Int) : Int :=
 match op with
 | .and => k.wrap (BitVec.ofInt k.bits a &&& BitVec.ofInt k.bits b).toNat
 | .or => k.wrap (BitVec.ofInt k.bits a ||| BitVec.ofInt k.bits b).toNat
 | .xor => k.wrap (BitVec.ofInt k.bits a ^^^ BitVec.ofInt k.bits b).toNat
 | _ => k.wrap (BitVec.ofInt k.bits a &&& ~~~ BitVec.ofInt k.bits b).toNat

def intShift (op : BinOp) (k : IntKind) (a b : Int) : Option Value :=
 match decide (b < 0) with
 | true => none
 | false => match op with
  | .shl => some (.int k (k.wrap (a * 2 ^ (min b.toNat k.bits))))
  | .shr => some (.int k (a.fdiv (2 ^ (min b.toNat k.bits))))
  | _ => none

theorem intShift_ok {P : Program} {op : BinOp} {k k' : IntKind} {a b : Int} {t : Nat} {ox oy : Operand} {v : Value} (h : intShift op k a b = some v) (W : World) :
  (do eqGuard op t ox oy (.int k a) (.int k' b); binOp op t (.int k a) (.int k' b)).run P W = .ok v W ∧ gnd v = true := by
 unfold intShift at h
 split at h
 ·cases h
 ·rename_i hb
  have hb' : ¬ b < 0 := by simpa using hb
  split at h
  ·cases h
   simp [eqGuard, binOp, Op.shift, hb', gnd]
  ·cases h
   simp [eqGuard, binOp, Op.shift, hb', gnd]
  ·cases h

def isShift (op : BinOp) : Bool :=
 match op with
 | .shl => true
 | .shr => true
 | _ => false

def intBin (op : BinOp) (k : IntKind) (a b : Int) : Option Value :=
 match op with
 | .quo => match decide (b = 0) with
  | true => none
  | false => some (.int k (k.wrap (a.tdiv b)))
 | .rem => match decide (b = 0) with
  | true => none
  | false => some (.int k (a.tmod b))
 | .and => some (.int k (ibits .and k a b))
 | .or => some (.int k (ibits .or k a b))
 | .xor => some (.int k (ibits .xor k a b))
 | .andNot => some (.int k (ibits .andNot k a b))
 | .add => some (.int k (k.wrap (a + b)))
 | .sub => some (.int k (k.wrap (a - b)))
 | .mul => some (.int k (k.wrap (a * b)))
 | .eql => some (.bool (a == b))
 | .neq => some (.bool (a != b))
 | .lss => some (.bool (decide (a < b)))
 | .leq => some (.bool (decide (a ≤ b)))
 | .gtr => some (.bool (decide (a > b)))
 | .geq => some (.bool (decide (a ≥ b)))
 | _ => none

theorem intBin_ok {P : Program} {op : BinOp} {k : IntKind} {a b : Int} {t : Nat} {ox oy : Operand} {v : Value} (h : intBin op k a b = some v) (W : World) :
  (do eqGuard op t ox oy (.int k a) (.int k b); binOp op t (.int k a) (.int k b)).run P W = .ok v W ∧ gnd v = true := by
 cases op
 case quo =>
  simp only [intBin] at h
  split at h
  ·cases h
  ·rename_i hb
   have hb' : ¬ b = 0 := by simpa using hb
   cases h
   simp [eqGuard, binOp, Op.intDiv, hb', gnd]
 case rem =>
  simp only [intBin] at h
  split at h
  ·cases h
  ·rename_i hb
   have hb' : ¬ b = 0 := by simpa using hb
   cases h
   simp [eqGuard, binOp, Op.intDiv, hb', gnd]
 all_goals simp [intBin] at h <;> subst h <;> simp [eqGuard, binOp, Op.intArith, Op.intCmp, Op.intBits, ibits, gnd]

def doBin (C : Cfg) (op : BinOp) (t : Nat) (ox oy : Operand) (x y : Value) (A : AW) : OR :=
 match x, y with
 | .int k a, .int k' b => match isShift op, decide (k = k') with
  | true, _ => match intShift op k a b with
   | some v => .val v A
   | none => plainV C (do eqGuard op t ox oy (.int k a) (.int k' b); binOp op t (.int k a) (.int k' b)) A
  | false, true => match intBin op k a b with
   | some v => .val v A
   | none => plainV C (do eqGuard op t ox oy (.int k a) (.int k' b); binOp op t (.int k a) (.int k' b)) A
  | false, false => plainV C (do eqGuard op t ox oy (.int k a) (.int k' b); binOp op t (.int k a) (.int k' b)) A
 | .string a, .string b => match strBin op a b with
  | .yes v => .val v A
  | .no => plainV C (do eqGuard op t ox oy (.string a) (.string b); binOp op t (.string a) (.string b)) A
 | .agg ⟨l⟩, .agg ⟨l'⟩ => match op, aggEq C t l l' with
  | .eql, some b => .val (.bool b) A
  | .neq, some b => .val (.bool (!b)) A
  | _, _ => match gnds l, gnds l' with
   | true, true => plainV C (do eqGuard op t ox oy (.agg ⟨l⟩) (.agg ⟨l'⟩); binOp op t (.agg ⟨l⟩) (.agg ⟨l'⟩)) A
   | _, _ => .fail 119
 | x, y => match gnd x, gnd y with
  | true, true => plainV C (do eqGuard op t ox oy x y; binOp op t x y) A
  | _, _ => doEqPtr C op t x y A

theorem doBin_ok {C : Cfg} (hC : C.Ok) {γ : Gam} {A : AW} {W : World} (hw : WRel γ A W) (op : BinOp) (t : Nat) (ox oy : Operand) {x x' y y' : Value} (hx : VRel γ x x') (hy : VRel γ y y') :
  VOk C.P γ W (doBin C op t ox oy x y A) (do eqGuard op t ox oy x' y'; binOp op t x' y') := by
 unfold doBin
 split
 ·rename_i k a k' b
  cases hx
  cases hy
  split
  ·split
   ·rename_i v hv
    obtain ⟨h1, h2⟩ := intShift_ok (P := C.P) (k' := k') (t := t) (ox := ox) (oy := oy) hv W
    exact .same hw h1 (VRel.of_gnd γ v h2)
   ·exact plainV_ok hw _
  ·rename_i hk
   have hk' : k = k' := of_decide_eq_true hk
   subst hk'
   split
   ·rename_i v hv
    obtain ⟨h1, h2⟩ := intBin_ok (P := C.P) (t := t) (ox := ox) (oy := oy) hv W
    exact .same hw h1 (VRel.of_gnd γ v h2)
   ·exact plainV_ok hw _
  ·exact plainV_ok hw _
 ·rename_i a b
  cases hx
  cases hy
  split
  ·rename_i v hv
   obtain ⟨h1, h2⟩ := strBin_ok (P := C.P) hv t ox oy W
   exact .same hw h1 (VRel.of_gnd γ v h2)
  ·exact plainV_ok hw _
 ·rename_i l l'
  cases hx with
  | agg hl => cases hy with
   | agg hl' =>
    rename_i m m'
    split
    ·rename_i b hb
     obtain ⟨q1, q2⟩ := aggEq_ok hC hb hl hl' W
     exact .same hw (by simp only [Sem.run_bind, q2, Result.andThen_ok, binOp, q1, Sem.run_pure]) (.bool _)
    ·rename_i b hb
     obtain ⟨q1, q2⟩ := aggEq_ok hC hb hl hl' W
     exact .same hw (by simp only [Sem.run_bind, q2, Result.andThen_ok, binOp, q1, Sem.run_pure]) (.bool _)
    ·split
     ·rename_i h1 h2
      have e1 : m = ⟨l⟩ := by apply Array.ext'; exact VsRel.eq_of_gnds hl h1
      have e2 : m' = ⟨l'⟩ := by apply Array.ext'; exact VsRel.eq_of_gnds hl' h2
      rw [e1, e2]
      exact plainV_ok hw _
     ·trivial
 ·split
  ·rename_i h1 h2
   rw [hx.eq_of_gnd h1, hy.eq_of_gnd h2]
   exact plainV_ok hw _
  ·exact doEqPtr_ok hC hw op t ox oy hx hy

def doUn (C : Cfg) (op : UnOp) (x : Value) (A : AW) : OR :=
 match op, x with
 | .not, .bool b => .val (.bool (!b)) A
 | op, x => match gnd x with
  | true => plainV C (Op.unary op x) A
  | false => .fail 122

theorem doUn_ok {C : Cfg} {γ : Gam} {A : AW} {W : World} (hw : WRel γ A W) (op : UnOp) {x x' : Value} (hx : VRel γ x x') : VOk C.P γ W (doUn C op x A) (Op.unary op x') := by
 unfold doUn
 split
 ·cases hx
  exact .same hw rfl (.bool _)
 ·split
  ·rename_i hg
   rw [hx.eq_of_gnd hg]
   exact plainV_ok hw _
  ·trivial

def doConvert (C : Cfg) (s d : Nat) (x : Value) (A : AW) : OR :=
 match gnd x with
 | true => plainV C (convert s d x) A
 | false => doBytesStr C s d x A

theorem doConvert_ok {C : Cfg} (hC : C.Ok) {γ : Gam} {A : AW} {W : World} (hw : WRel γ A W) (s d : Nat) {x x' : Value} (hx : VRel γ x x') : VOk C.P γ W (doConvert C s d x A) (convert s d x') := by
 unfold doConvert
 split
 ·rename_i hg
  rw [hx.eq_of_gnd hg]
  exact plainV_ok hw _
 ·exact doBytesStr_ok hC hw s d hx

def doIndex (C : Cfg) (t : Nat) (x ix : Value) (A : AW) : OR :=
 match x with
 | .string s => match ix with
  | .int k (.ofNat n) => match strAt C t s n with
   | .yes v => .val v A
   | .no => plainV C (Instr.index t (.string s) (.int k (.ofNat n))) A
  | _ => .fail 124
 | _ => doIndexA C t x ix A

theorem doIndex_ok {C : Cfg} (hC : C.Ok) {γ : Gam} {A : AW} {W : World} (hw : WRel γ A W) (t : Nat) {x x' ix ix' : Value} (hx : VRel γ x x') (hi : VRel γ ix ix') :
  VOk C.P γ W (doIndex C t x ix A) (Instr.index t x' ix') := by
 unfold doIndex
 split
 ·cases hx
  split
  ·cases hi
   split
   ·rename_i v hv
    obtain ⟨h1, h2⟩ := strAt_ok hC hv W
    exact .same hw h1 (VRel.of_gnd γ v h2)
   ·exact plainV_ok hw _
  ·trivial
 ·exact doIndexA_ok hC hw t hx hi

def gndO : Option Value → Bool
 | none => true
 | some v => gnd v

theorem OVRel.eq_of_gnd {γ : Gam} {o o' : Option Value} (h : OVRel γ o o') (hg : gndO o = true) : o' = o := by
 cases h with
 | none => rfl
 | some h => rw [h.eq_of_gnd hg]

def doSliceAny (C : Cfg) (t : Nat) (x : Value) (lo hi mx : Option Value) (A : AW) : OR :=
 match x with
 | .string s => match gndO lo, gndO hi, gndO mx with
  | true, true, true => match strCut C t s lo hi mx with
   | .yes v => .val v A
   | .no => plainV C (Instr.sliceAt t (.string s) lo hi mx) A
  | _, _, _ => .fail 125
 | _ => doSlice C t x lo hi mx A

theorem doSliceAny_ok {C : Cfg} (hC : C.Ok) {γ : Gam} {A : AW} {W : World} (hw : WRel γ A W) (t : Nat) {x x' : Value} {lo lo' hi hi' mx mx' : Option Value}
  (hx : VRel γ x x') (hlo : OVRel γ lo lo') (hhi : OVRel γ hi hi') (hmx : OVRel γ mx mx') :
  VOk C.P γ W (doSliceAny C t x lo hi mx A) (Instr.sliceAt t x' lo' hi' mx') := by
 unfold doSliceAny
 split
 ·cases hx
  split
  ·rename_i h1 h2 h3
   rw [hlo.eq_of_gnd h1, hhi.eq_of_gnd h2, hmx.eq_of_gnd h3]
   split
   ·rename_i v hv
    obtain ⟨q1, q2⟩ := strCut_ok hC hv W
    exact .same hw q1 (VRel.of_gnd γ v q2)
   ·exact plainV_ok hw _
  ·trivial
 ·exact doSlice_ok hC hw t hx hlo hhi hmx

/-! ### struct and array values -/

def placesL (C : Cfg) : List Field → Option (List (Nat × Nat))
 | [] => some []
 | f :: l => match C.tys.get f.type, placesL C l with
  | some inf, some r => some ((f.offset, inf.size) :: r)
  | _, _ => none

def doBuild (C : Cfg) (t : Nat) (ps : List (Nat × Value)) (A : AW) : OR :=
 match C.tys.get t with
 | some inf => match inf.zero with
  | some z => match gnds (vcells z), C.under t with
   | true, some (.struct ⟨fs⟩) => match placesL C fs with
    | some pl => match fillL (fun i => pl[i]?) (vcells z) ps with
     | some cs => .val (.agg ⟨cs⟩) A
     | none => .fail 126
    | none => .fail 127
   | true, some (.array _ e) => match C.tys.get e with
    | some ie => match fillL (fun i => some (Nat.mul i ie.size, ie.size)) (vcells z) ps with
     | some cs => .val (.agg ⟨cs⟩) A
     | none => .fail 128
    | none => .fail 129
   | _, _ => .fail 130
  | none => .fail 131
 | none => .fail 132

theorem placesL_ok {C : Cfg} (hC : C.Ok) : ∀ {fs : List Field} {pl : List (Nat × Nat)}, placesL C fs = some pl → ∀ W : World,
  (List.mapM (fun (f : Field) => (do pure (f.offset, ← sizeOf f.type) : Sem (Nat × Nat))) fs).run C.P W = .ok pl W
 | [], pl, h, W => by simp only [placesL, Option.some.injEq] at h; subst h; rfl
 | f :: l, pl, h, W => by
  simp only [placesL] at h
  split at h
  ·rename_i inf r h1 h2
   cases h
   simp only [List.mapM_cons, Sem.run_bind, run_sizeOf' (hC.ty _ _ h1), Result.andThen_ok, Sem.run_pure, placesL_ok hC h2 W]
  ·cases h

theorem doBuild_ok {C : Cfg} (hC : C.Ok) {γ : Gam} {A : AW} {W : World} (hw : WRel γ A W) (t : Nat) {ps : List (Nat × Value)} {ps' : Array (Nat × Value)} (hp : PRel γ ps ps'.toList) :
  VOk C.P γ W (doBuild C t ps A) (Instr.build t ps') := by
 unfold doBuild
 split
 ·rename_i inf hinf
  split
  ·rename_i z hz
   have hzr : gnds (vcells z) = true → VsRel γ (vcells z) z.cells.toList := fun h => by rw [cells_toList]; exact VsRel.of_gnds γ _ h
   split
   ·rename_i fs hg ht
    split
    ·rename_i pl hpl
     split
     ·rename_i cs hcs
      obtain ⟨r', hr', hrel⟩ := fill_rel _ hp (hzr hg) hcs
      refine .same hw (v' := .agg r') ?_ (.agg hrel)
      have h1 := placesL_ok hC hpl W
      have h2 : (Array.mapM (fun (f : Field) => (do pure (f.offset, ← sizeOf f.type) : Sem (Nat × Nat))) ⟨fs⟩).run C.P W = .ok ⟨pl⟩ W := by
       rw [Array.mapM_eq_mapM_toList]
       simp only [Sem.run_map, h1, Result.andThen_ok]
      have h3 : Instr.fill (fun i : Nat => (⟨pl⟩ : Array (Nat × Nat))[i]?) z.cells ps'.toList = some r' := by
       have : (fun i : Nat => (⟨pl⟩ : Array (Nat × Nat))[i]?) = fun i => pl[i]? := by funext i; simp
       rw [this]; exact hr'
      simp only [Instr.build, Sem.run_bind, run_zeroValue' (hC.ty _ _ hinf) hz, run_underlying (hC.under ht), Result.andThen_ok, h2, h3, Sem.run_pure]
     ·trivial
    ·trivial
   ·rename_i n e hg ht
    split
    ·rename_i ie hie
     split
     ·rename_i cs hcs
      obtain ⟨r', hr', hrel⟩ := fill_rel _ hp (hzr hg) hcs
      refine .same hw (v' := .agg r') ?_ (.agg hrel)
      have hr'' : Instr.fill (fun i => some (i * ie.size, ie.size)) z.cells ps'.toList = some r' := hr'
      simp [Instr.build, run_zeroValue' (hC.ty _ _ hinf) hz, run_underlying (hC.under ht), run_sizeOf' (hC.ty _ _ hie), hr'']
     ·trivial
    ·trivial
   ·trivial
  ·trivial
 ·trivial

end Go.Ev
