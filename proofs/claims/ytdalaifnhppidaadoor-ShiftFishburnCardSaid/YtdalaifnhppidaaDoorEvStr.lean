/- Strings as lists of bytes: the same answers as the model's, sooner. -/
import Derived.Test.YtdalaifnhppidaaDoorEvUnsafe
import Derived.Laws.Strings
namespace Go.Ev
open Go

def bytesEq : List UInt8 → List UInt8 → Bool
 | [], [] => true
 | x :: l, y :: l' => match Nat.beq x.toNat y.toNat with
  | true => bytesEq l l'
  | false => false
 | _, _ => false

theorem bytesEq_eq : ∀ l l' : List UInt8, bytesEq l l' = (l == l')
 | [], [] => rfl
 | [], _ :: _ => rfl
 | _ :: _, [] => rfl
 | x :: l, y :: l' => by
  simp only [bytesEq]
  have hb : Nat.beq x.toNat y.toNat = (x == y) := by
   rw [Bool.eq_iff_iff, Nat.beq_eq, beq_iff_eq, UInt8.toNat_inj]
  rw [hb, bytesEq_eq l l']
  cases hxy : x == y <;> simp [List.cons_beq_cons, hxy]

def bytesApp {β : Type} : List UInt8 → List UInt8 → (List UInt8 → β) → β
 | [], l', c => c l'
 | x :: l, l', c => bytesApp l l' fun r => c (x :: r)

theorem bytesApp_eq {β : Type} : ∀ (l l' : List UInt8) (c : List UInt8 → β), bytesApp l l' c = c (l ++ l')
 | [], _, _ => rfl
 | x :: l, l', c => by simp only [bytesApp, bytesApp_eq l l', List.cons_append]

def bytesTake {β : Type} : Nat → List UInt8 → (List UInt8 → β) → β
 | 0, _, c => c []
 | _ + 1, [], c => c []
 | n + 1, x :: l, c => bytesTake n l fun r => c (x :: r)

theorem bytesTake_eq {β : Type} : ∀ (n : Nat) (l : List UInt8) (c : List UInt8 → β), bytesTake n l c = c (l.take n)
 | 0, _, _ => rfl
 | _ + 1, [], _ => rfl
 | n + 1, x :: l, c => by simp only [bytesTake, bytesTake_eq n l, List.take_succ_cons]

def bytesDrop : Nat → List UInt8 → List UInt8
 | 0, l => l
 | _ + 1, [] => []
 | n + 1, _ :: l => bytesDrop n l

theorem bytesDrop_eq : ∀ (n : Nat) (l : List UInt8), bytesDrop n l = l.drop n
 | 0, _ => rfl
 | _ + 1, [] => rfl
 | n + 1, _ :: l => by simp only [bytesDrop, bytesDrop_eq n l, List.drop_succ_cons]

def byteAt : Nat → List UInt8 → Option UInt8
 | _, [] => none
 | 0, x :: _ => some x
 | n + 1, _ :: l => byteAt n l

theorem byteAt_eq : ∀ (n : Nat) (l : List UInt8), byteAt n l = l[n]?
 | 0, [] => rfl
 | _ + 1, [] => rfl
 | 0, _ :: _ => rfl
 | n + 1, _ :: l => by simp only [byteAt, byteAt_eq n l, List.getElem?_cons_succ]

inductive SR where
 | no
 | yes (v : Value)

def strBin (op : BinOp) (x y : ByteArray) : SR :=
 match x, y with
 | ⟨⟨l⟩⟩, ⟨⟨l'⟩⟩ => match op with
  | .eql => .yes (.bool (bytesEq l l'))
  | .neq => .yes (.bool (!bytesEq l l'))
  | .add => match Nat.ble (Nat.add l.length l'.length) 9223372036854775807 with
   | true => bytesApp l l' fun r => .yes (.string ⟨⟨r⟩⟩)
   | false => .no
  | _ => .no

theorem strBin_ok {P : Program} {op : BinOp} {x y : ByteArray} {v : Value} (h : strBin op x y = .yes v) (t : Nat) (ox oy : Operand) (W : World) :
  (do eqGuard op t ox oy (.string x) (.string y); binOp op t (.string x) (.string y)).run P W = .ok v W ∧ gnd v = true := by
 obtain ⟨⟨l⟩⟩ := x
 obtain ⟨⟨l'⟩⟩ := y
 unfold strBin at h
 cases op <;> simp only at h <;> try cases h
 ·split at h
  ·rename_i hle
   rw [bytesApp_eq] at h
   cases h
   have hle' : l.length + l'.length ≤ 9223372036854775807 := ble_le hle
   have hno : ¬ (((ByteArray.mk ⟨l⟩).size + (ByteArray.mk ⟨l'⟩).size : Nat) : Int) > IntKind.i64.max := by
    have h1 : (ByteArray.mk ⟨l⟩).size = l.length := rfl
    have h2 : (ByteArray.mk ⟨l'⟩).size = l'.length := rfl
    have h3 : IntKind.i64.max = 9223372036854775807 := rfl
    rw [h1, h2, h3]
    omega
   have happ : ByteArray.mk ⟨l⟩ ++ ByteArray.mk ⟨l'⟩ = ByteArray.mk ⟨l ++ l'⟩ := by
    apply ByteArray.ext
    rw [ByteArray.data_append]
    apply Array.ext'
    simp
   refine ⟨?_, rfl⟩
   show (Op.stringOp .add _ _).run P W = _
   simp only [Op.stringOp, hno, if_false, happ, Sem.run_pure]
  ·cases h
 ·refine ⟨?_, rfl⟩
  show (Op.stringOp .eql _ _).run P W = _
  simp only [Op.stringOp, ByteArray.toList_eq, bytesEq_eq, Sem.run_pure]
 ·refine ⟨?_, rfl⟩
  show (Op.stringOp .neq _ _).run P W = _
  simp only [Op.stringOp, ByteArray.toList_eq, bytesEq_eq, Sem.run_pure]

def strAt (C : Cfg) (t : Nat) (x : ByteArray) (n : Nat) : SR :=
 match C.under t, x with
 | some .string, ⟨⟨l⟩⟩ => match byteAt n l with
  | some b => .yes (.int .u8 (.ofNat b.toNat))
  | none => .no
 | _, _ => .no

theorem strAt_ok {C : Cfg} (hC : C.Ok) {t n : Nat} {k : IntKind} {x : ByteArray} {v : Value} (h : strAt C t x n = .yes v) (W : World) :
  (Instr.index t (.string x) (.int k (.ofNat n))).run C.P W = .ok v W ∧ gnd v = true := by
 obtain ⟨⟨l⟩⟩ := x
 unfold strAt at h
 split at h
 ·rename_i ht hx
  cases hx
  split at h
  ·rename_i b hb
   cases h
   rw [byteAt_eq] at hb
   refine ⟨?_, rfl⟩
   have hg : (ByteArray.mk ⟨l⟩)[n]? = some b := by
    have hlt := (List.getElem?_eq_some_iff.1 hb).1
    have hlt' : n < (ByteArray.mk ⟨l⟩).size := hlt
    rw [getElem?_pos (ByteArray.mk ⟨l⟩) n hlt']
    have := (List.getElem?_eq_some_iff.1 hb).2
    exact congrArg some this
   have h0 : (0 : Int) ≤ Int.ofNat n := Int.natCast_nonneg n
   have htn : Int.toNat (Int.ofNat n) = n := rfl
   simp only [Instr.index, asIntOf, pure_bind, Sem.run_bind, run_underlying (hC.under ht), Result.andThen_ok, h0, if_true, htn, hg, Sem.run_pure]
   rfl
  ·cases h
 ·cases h

def strCut (C : Cfg) (t : Nat) (x : ByteArray) (lo hi mx : Option Value) : SR :=
 match C.under t, x, mx with
 | some .string, ⟨⟨l⟩⟩, none => match (bd lo).ok, (bd hi).ok with
  | true, true => match Nat.ble ((bd lo).getD 0) ((bd hi).getD l.length), Nat.ble ((bd hi).getD l.length) l.length with
   | true, true => match hi with
    | none => .yes (.string ⟨⟨bytesDrop ((bd lo).getD 0) l⟩⟩)
    | some _ => bytesTake (Nat.sub ((bd hi).getD l.length) ((bd lo).getD 0)) (bytesDrop ((bd lo).getD 0) l) fun r => .yes (.string ⟨⟨r⟩⟩)
   | _, _ => .no
  | _, _ => .no
 | _, _, _ => .no

theorem strCut_ok {C : Cfg} (hC : C.Ok) {t : Nat} {x : ByteArray} {lo hi mx : Option Value} {v : Value} (h : strCut C t x lo hi mx = .yes v) (W : World) :
  (Instr.sliceAt t (.string x) lo hi mx).run C.P W = .ok v W ∧ gnd v = true := by
 obtain ⟨⟨l⟩⟩ := x
 unfold strCut at h
 split at h
 ·rename_i ht hx
  cases hx
  split at h
  ·rename_i b1 b2
   split at h
   ·rename_i h1 h2
    have h1' := ble_le h1
    have h2' := ble_le h2
    have hb := run_sliceBounds (P := C.P) false l.length l.length lo hi none W b1 b2 rfl (Nat.le_refl _) (.inr h2') h1' (.inl rfl)
    have hsz : (ByteArray.mk ⟨l⟩).size = l.length := rfl
    have hx : ∀ a b : Nat, (ByteArray.mk ⟨l⟩).extract a b = ByteArray.mk ⟨(l.drop a).take (b - a)⟩ := fun a b => by
     apply ByteArray.ext
     rw [ByteArray.data_extract]
     apply Array.ext'
     rw [Array.toList_extract]
    have hrun : (Instr.sliceAt t (.string ⟨⟨l⟩⟩) lo hi none).run C.P W = .ok (.string ⟨⟨(l.drop ((bd lo).getD 0)).take ((bd hi).getD l.length - (bd lo).getD 0)⟩⟩) W := by
     simp [Instr.sliceAt, Instr.slice, run_underlying (hC.under ht), hsz, hb, hx]
    split at h
    ·cases h
     refine ⟨?_, rfl⟩
     rw [hrun, bytesDrop_eq]
     have : (bd none).getD l.length = l.length := rfl
     rw [this, List.take_of_length_le (by simp)]
    ·rw [bytesTake_eq, bytesDrop_eq] at h
     cases h
     exact ⟨hrun, rfl⟩
   ·cases h
  ·cases h
 ·cases h

end Go.Ev
