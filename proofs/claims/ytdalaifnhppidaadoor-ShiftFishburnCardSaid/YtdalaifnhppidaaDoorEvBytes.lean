/- Rows of bytes turned into strings. -/
import Derived.Test.YtdalaifnhppidaaDoorEvEq
namespace Go.Ev
open Go

def isR (v : Value) : Bool :=
 match v with
 | .int .i32 n => decide (0 ≤ n) && decide (n < 128)
 | _ => false
def runesL : List Value → ByteArray → Option ByteArray
 | [], acc => some acc
 | .int .i32 n :: l, acc => match isR (.int .i32 n) with
  | true => runesL l (acc.push (UInt8.ofNat n.toNat))
  | false => none
 | _ :: _, _ => none

def doBytesStr (C : Cfg) (s d : Nat) (x : Value) (A : AW) : OR :=
 match x with
 | .slice (some ⟨i, k, none⟩) len c => match C.under s, C.under d with
  | some (.slice e), some .string => match C.under e with
   | some (.int .u8) => match Nat.beq len 0, Nat.beq c unkE with
    | true, _ => .val (.string .empty) A
    | false, true => .fail 314
    | false, false => match A.load i k len with
     | some vs => match bytesL vs .empty with
      | some b => .val (.string b) A
      | none => .fail 310
     | none => .fail 311
   | some (.int .i32) => match Nat.beq len 0, Nat.beq c unkE with
    | true, _ => .val (.string .empty) A
    | false, true => .fail 315
    | false, false => match A.load i k len with
     | some vs => match runesL vs .empty with
      | some b => .val (.string b) A
      | none => .fail 316
     | none => .fail 317
   | _ => .fail 312
  | _, _ => .fail 313
 | _ => doPtrConv C s d x A

theorem run_forIn_bytes {γ : Gam} {P : Program} {W : World} (f : Value → ByteArray → Sem (ForInStep ByteArray)) (hf : ∀ n acc, f (.int .u8 n) acc = pure (.yield (acc.push (UInt8.ofNat n.toNat)))) :
  ∀ (vs vs' : List Value) (acc b : ByteArray), VsRel γ vs vs' → bytesL vs acc = some b → (forIn vs' acc f).run P W = .ok b W := by
 intro vs
 induction vs with
 | nil =>
  intro vs' acc b h hb
  cases h
  simp only [bytesL, Option.some.injEq] at hb
  subst hb
  rfl
 | cons v vs ih =>
  intro vs' acc b h hb
  cases h with
  | cons hv hl =>
   unfold bytesL at hb
   split at hb
   ·rename_i he
    cases he
   ·rename_i he
    cases he
    cases hv
    simp only [List.forIn_cons, hf, Sem.run_bind, Sem.run_pure, Result.andThen_ok]
    exact ih _ _ _ hl hb
   ·cases hb

theorem run_bytesToString {γ : Gam} {P : Program} {W : World} {a : Addr} {len c : Nat} {vs vs' : List Value} {b : ByteArray} (hl : (loadCells a len).run P W = .ok (List.toArray vs') W) (hv : VsRel γ vs vs') (hb : bytesL vs .empty = some b) :
  (Conv.bytesToString (.slice (some a) len c)).run P W = .ok (.string b) W := by
 simp only [Conv.bytesToString, Sem.run_bind, hl, Result.andThen_ok, List.forIn_toArray]
 rw [run_forIn_bytes _ (fun n acc => rfl) vs vs' .empty b hv hb]
 rfl

theorem encode_lo {n : Int} (h : isR (.int .i32 n) = true) (acc : ByteArray) : acc ++ Utf8.encode n = acc.push (UInt8.ofNat n.toNat) := by
 simp only [isR, Bool.and_eq_true, decide_eq_true_eq] at h
 have hv : Utf8.valid n = true := by simp [Utf8.valid]; omega
 have h1 : n.toNat < 0x80 := by omega
 have he : Utf8.encode n = ⟨#[UInt8.ofNat n.toNat]⟩ := by
  simp only [Utf8.encode, hv, if_true]
  rw [if_pos h1]
 rw [he]
 apply ByteArray.ext
 simp [ByteArray.data_append]

theorem run_forIn_runesL {γ : Gam} {P : Program} {W : World} (f : Value → ByteArray → Sem (ForInStep ByteArray)) (hf : ∀ n acc, f (.int .i32 n) acc = pure (.yield (acc ++ Utf8.encode n))) :
  ∀ (vs vs' : List Value) (acc b : ByteArray), VsRel γ vs vs' → runesL vs acc = some b → (forIn vs' acc f).run P W = .ok b W := by
 intro vs
 induction vs with
 | nil =>
  intro vs' acc b h hb
  cases h
  simp only [runesL, Option.some.injEq] at hb
  subst hb
  rfl
 | cons v vs ih =>
  intro vs' acc b h hb
  cases h with
  | cons hv hl =>
   unfold runesL at hb
   split at hb
   ·rename_i he
    cases he
   ·rename_i he
    cases he
    cases hv
    split at hb
    ·rename_i hr
     simp only [List.forIn_cons, hf, Sem.run_bind, Sem.run_pure, Result.andThen_ok, encode_lo hr]
     exact ih _ _ _ hl hb
    ·cases hb
   ·cases hb

theorem run_runesToStringL {γ : Gam} {P : Program} {W : World} {a : Addr} {len c : Nat} {vs vs' : List Value} {b : ByteArray} (hl : (loadCells a len).run P W = .ok (List.toArray vs') W) (hv : VsRel γ vs vs') (hb : runesL vs .empty = some b) :
  (Conv.runesToString (.slice (some a) len c)).run P W = .ok (.string b) W := by
 simp only [Conv.runesToString, Sem.run_bind, hl, Result.andThen_ok, List.forIn_toArray]
 rw [run_forIn_runesL _ (fun n acc => rfl) vs vs' .empty b hv hb]
 rfl

theorem doBytesStr_ok {C : Cfg} (hC : C.Ok) {γ : Gam} {A : AW} {W : World} (hw : WRel γ A W) (s d : Nat) {x x' : Value} (hx : VRel γ x x') : VOk C.P γ W (doBytesStr C s d x A) (convert s d x') := by
 unfold doBytesStr
 split
 ·rename_i i k len c
  split
  ·rename_i e hs hd
   split
   ·rename_i he
    have key : ∀ (a : Addr) (c : Nat), (convert s d (.slice (some a) len c)).run C.P W = (Conv.bytesToString (.slice (some a) len c)).run C.P W := fun a c => by
     simp only [convert, Sem.run_bind, run_underlying (hC.under hs), run_underlying (hC.under hd), run_underlying (hC.under he), Result.andThen_ok]
    split
    ·rename_i hz
     have hz' := Nat.eq_of_beq_eq_true hz
     subst hz'
     have hz0 : ∀ (a : Addr) (c : Nat), (convert s d (.slice (some a) 0 c)).run C.P W = .ok (.string .empty) W := fun a c => by
      rw [key]
      exact run_bytesToString (γ := γ) (vs := []) (vs' := []) (by simp [loadCells, loadCellsFrom]) .nil rfl
     cases hx with
     | slice _ _ _ c' hg hc => exact .same hw (hz0 _ _) (.string _)
     | sliceE a a' c' => exact .same hw (hz0 _ _) (.string _)
    ·trivial
    ·rename_i hlen hE
     split
     ·rename_i vs hl
      split
      ·rename_i b hb
       cases hx with
       | slice _ _ _ c' hg hc =>
        obtain ⟨g, r', h1, h2, h3⟩ := load_rel (P := C.P) hw hl
        rw [hg] at h1
        cases h1
        refine .same hw ?_ (.string _)
        rw [key]
        exact run_bytesToString h2 h3 hb
       | sliceE a a' c' => simp at hlen
      ·trivial
     ·trivial
   ·rename_i he
    have key : ∀ (a : Addr) (c : Nat), (convert s d (.slice (some a) len c)).run C.P W = (Conv.runesToString (.slice (some a) len c)).run C.P W := fun a c => by
     simp only [convert, Sem.run_bind, run_underlying (hC.under hs), run_underlying (hC.under hd), run_underlying (hC.under he), Result.andThen_ok]
    split
    ·rename_i hz
     have hz' := Nat.eq_of_beq_eq_true hz
     subst hz'
     have hz0 : ∀ (a : Addr) (c : Nat), (convert s d (.slice (some a) 0 c)).run C.P W = .ok (.string .empty) W := fun a c => by
      rw [key]
      exact run_runesToStringL (γ := γ) (vs := []) (vs' := []) (by simp [loadCells, loadCellsFrom]) .nil rfl
     cases hx with
     | slice _ _ _ c' hg hc => exact .same hw (hz0 _ _) (.string _)
     | sliceE a a' c' => exact .same hw (hz0 _ _) (.string _)
    ·trivial
    ·rename_i hlen hE
     split
     ·rename_i vs hl
      split
      ·rename_i b hb
       cases hx with
       | slice _ _ _ c' hg hc =>
        obtain ⟨g, r', h1, h2, h3⟩ := load_rel (P := C.P) hw hl
        rw [hg] at h1
        cases h1
        refine .same hw ?_ (.string _)
        rw [key]
        exact run_runesToStringL h2 h3 hb
       | sliceE a a' c' => simp at hlen
      ·trivial
     ·trivial
   ·trivial
  ·trivial
 ·exact doPtrConv_ok hC hw s d hx

end Go.Ev
