/- len, copy, walks over strings, calls; every operation together. -/
import Derived.Test.YtcogabgdcgahiaaEvOp
namespace Go.Ev
open Go

def doLen (C : Cfg) (ts : List TypeId) (args : List Value) (A : AW) : OR :=
  match ts, args with
  | t :: _, x :: _ => match C.under t with
    | some .string => match x with
      | .string s => .val (.int .i64 (.ofNat s.size)) A
      | _ => .fail 140
    | some (.array n _) => .val (.int .i64 (.ofNat n)) A
    | some (.slice _) => match x with
      | .slice _ n _ => .val (.int .i64 (.ofNat n)) A
      | _ => .fail 141
    | some (.pointer a) => match C.under a with
      | some (.array n _) => .val (.int .i64 (.ofNat n)) A
      | _ => .fail 142
    | some (.map _ _) => match mapOf A x with
      | some es => .val (.int .i64 (.ofNat es.length)) A
      | none => .fail 143
    | _ => .fail 144
  | _, _ => .fail 145

/-- cap, of a nil slice alone. -/
def doCap (C : Cfg) (ts : List TypeId) (args : List Value) (A : AW) : OR :=
  match ts, args with
  | t :: _, [.slice none 0 0] => match C.under t with
    | some (.slice _) => .val (.int .i64 (.ofNat 0)) A
    | _ => .fail 330
  | _, _ => .fail 331

theorem doCap_ok {C : Cfg} (hC : C.Ok) {γ : Gam} {A : AW} {W : World} (hw : WRel γ A W) (ts : Array TypeId) (ty : Nat) {args : List Value} {args' : Array Value} (ha : VsRel γ args args'.toList) :
    VOk C.P γ W (doCap C ts.toList args A) (Builtin.cap_ ts ty args') := by
  unfold doCap
  split
  · rename_i t tr hts
    obtain ⟨lt⟩ := ts
    obtain ⟨la⟩ := args'
    simp only at hts
    subst hts
    cases ha with
    | cons hx hl =>
      cases hl
      cases hx
      split
      · rename_i e ht
        exact .same hw (by simp [Builtin.cap_, run_underlying (hC.under ht), goInt]) (.int _ _)
      · trivial
  · trivial

theorem doLen_ok {C : Cfg} (hC : C.Ok) {γ : Gam} {A : AW} {W : World} (hw : WRel γ A W) (ts : Array TypeId) (ty : Nat) {args : List Value} {args' : Array Value} (ha : VsRel γ args args'.toList) :
    VOk C.P γ W (doLen C ts.toList args A) (Builtin.len_ ts ty args') := by
  unfold doLen
  split
  · rename_i t tr x xr hts
    obtain ⟨lt⟩ := ts
    obtain ⟨la⟩ := args'
    simp only at hts
    subst hts
    cases ha with
    | cons hx hl =>
      rename_i x' l'
      split
      · rename_i ht
        split
        · cases hx
          exact .same hw (by simp [Builtin.len_, run_underlying (hC.under ht), goInt]) (.int _ _)
        · trivial
      · rename_i n e ht
        exact .same hw (by simp [Builtin.len_, run_underlying (hC.under ht), goInt]) (.int _ _)
      · rename_i e ht
        split
        · cases hx <;> exact .same hw (by simp [Builtin.len_, run_underlying (hC.under ht), goInt]) (.int _ _)
        · trivial
      · rename_i a ht
        split
        · rename_i n e ht2
          exact .same hw (by simp [Builtin.len_, run_underlying (hC.under ht), run_underlying (hC.under ht2), goInt]) (.int _ _)
        · trivial
      · rename_i k e ht
        split
        · rename_i es hes
          obtain ⟨es', hrel, hmap⟩ := mapOf_rel hw hx hes
          have hl := hrel.length
          simp only [Array.length_toList] at hl
          rcases hmap with ⟨rfl, rfl⟩ | ⟨r, c, rfl, hb⟩
          · have h0 : es.length = 0 := by simpa using hl.symm
            rw [h0]
            exact .same hw (by simp [Builtin.len_, run_underlying (hC.under ht), goInt]) (.int _ _)
          · rw [← hl]
            exact .same hw (by simp [Builtin.len_, run_underlying (hC.under ht), run_getObj_map hb, goInt]) (.int _ _)
        · trivial
      · trivial
  · trivial

def doCopy (C : Cfg) (ts : List TypeId) (args : List Value) (A : AW) : OR :=
  match ts, args with
  | t :: _, [.slice a dl cap, x] => match C.under t with
    | some (.slice e) => match C.tys.get e, lenOfV x with
      | some inf, some sl => match srcCells C A inf.size (Nat.min sl dl) x with
        | some cs => match a with
          | none => .val (.int .i64 (.ofNat (Nat.min sl dl))) A
          | some ⟨i, k, none⟩ => match Nat.beq cap unkE, Nat.beq dl 0 with
            | true, true => match cs with
              | [] => .val (.int .i64 (.ofNat (Nat.min sl dl))) A
              | _ => .fail 150
            | true, false => .fail 151
            | false, _ => match A.store i k cs with
              | some A' => .val (.int .i64 (.ofNat (Nat.min sl dl))) A'
              | none => .fail 152
          | some ⟨_, _, some _⟩ => .fail 153
        | none => .fail 154
      | _, _ => .fail 155
    | _ => .fail 156
  | _, _ => .fail 157

theorem doCopy_ok {C : Cfg} (hC : C.Ok) {γ : Gam} {A : AW} {W : World} (hw : WRel γ A W) (hro : Ro C.ro γ W) (ts : Array TypeId) (ty : Nat) {args : List Value} {args' : Array Value} (ha : VsRel γ args args'.toList) :
    VOk C.P γ W (doCopy C ts.toList args A) (Builtin.copy_ ts ty args') := by
  unfold doCopy
  split
  · rename_i t tr a dl cap x hts
    obtain ⟨lt⟩ := ts
    obtain ⟨la⟩ := args'
    simp only at hts
    subst hts
    cases ha with
    | cons hd hl => cases hl with
      | cons hx hl => cases hl with
        | nil =>
          rename_i d' x'
          split
          · rename_i e ht
            split
            · rename_i inf sl hinf hsl
              split
              · rename_i cs hcs
                obtain ⟨cs', hr, hrel⟩ := src_rel (P := C.P) hw hro hx hcs
                have hlen := lenOf_rel (P := C.P) hx hsl W
                have hmin : Nat.min sl dl = min sl dl := rfl
                split
                · cases hd
                  refine .same hw ?_ (.int _ _)
                  simp only [Nat.min_zero] at hr ⊢
                  simp [Builtin.copy_, run_underlying (hC.under ht), hlen, run_sizeOf' (hC.ty _ _ hinf), hr, goInt]
                · rename_i i k
                  split
                  · rename_i h1 h2
                    split
                    · have h2' := Nat.eq_of_beq_eq_true h2
                      subst h2'
                      cases hrel
                      cases hd
                      · refine .same hw ?_ (.int _ _)
                        simp only [Nat.min_zero] at hr ⊢
                        simp [Builtin.copy_, run_underlying (hC.under ht), hlen, run_sizeOf' (hC.ty _ _ hinf), hr, storeCells, goInt]
                      · refine .same hw ?_ (.int _ _)
                        simp only [Nat.min_zero] at hr ⊢
                        simp [Builtin.copy_, run_underlying (hC.under ht), hlen, run_sizeOf' (hC.ty _ _ hinf), hr, storeCells, goInt]
                    · trivial
                  · trivial
                  · rename_i h1
                    split
                    · rename_i A' hst
                      cases hd with
                      | sliceE => simp at h1
                      | slice k l c c' hg hc =>
                        obtain ⟨g', W', hg', hrun, hw', hext⟩ := store_rel (P := C.P) hw hst hrel
                        rw [hg] at hg'
                        cases hg'
                        refine ⟨_, γ, W', ?_, .int _ _, hw', hext⟩
                        simp [Builtin.copy_, run_underlying (hC.under ht), hlen, run_sizeOf' (hC.ty _ _ hinf), hr, hrun, goInt]
                    · trivial
                · trivial
              · trivial
            · trivial
          · trivial
  · trivial

/-! ### A string, walked -/

def doRange (C : Cfg) (t : Nat) (x : Value) (A : AW) : OR :=
  match C.under t, x with
  | some .string, .string s => .val (.pointer (some ⟨A.next, 0, none⟩)) (A.new (.siter s 0))
  | _, _ => .fail 160

theorem doRange_ok {C : Cfg} (hC : C.Ok) {γ : Gam} {A : AW} {W : World} (hw : WRel γ A W) (t : Nat) {x x' : Value} (hx : VRel γ x x') :
    VOk C.P γ W (doRange C t x A) (Instr.range t x') := by
  unfold doRange
  split
  · rename_i s ht
    cases hx
    obtain ⟨q1, q2⟩ := hw.alloc (.siter s 0) (.stringIter s 0) 0 0 (.siter (heap_alloc_new _ _)) (by intros; simp_all)
    refine ⟨.pointer (some ⟨W.heap.size, 0, none⟩), _, _, ?_, .ptr (g := ⟨W.heap.size, 0, 0⟩) 0 (Gam.set_same _ _ _), q1, q2⟩
    simp [Instr.range, run_underlying (hC.under ht)]
  · trivial

def doNext (x : Value) (isString : Bool) (A : AW) : OR :=
  match x, isString with
  | .pointer (some ⟨i, 0, none⟩), true => match A.heap.get i with
    | some (.siter s pos) => match Nat.blt pos s.size with
      | true => match Utf8.decode s pos with
        | (c, width) => .val (.tuple ⟨[.bool true, .int .i64 (.ofNat pos), .int .i32 (.ofNat c)]⟩) { A with heap := A.heap.put i (some (.siter s (Nat.add pos width))) }
      | false => .val (.tuple ⟨[.bool false]⟩) A
    | _ => .fail 161
  | _, _ => .fail 162

theorem run_getObj_iter {P : Program} {W : World} {r : Nat} {s : ByteArray} {pos : Nat} (h : W.heap[r]? = some (.stringIter s pos)) : (getObj r).run P W = .ok (.stringIter s pos) W := by
  simp [getObj, Sem.run, h]
theorem run_setObj_iter {P : Program} {W : World} {r : Nat} {s : ByteArray} {pos : Nat} (o : Obj) (h : W.heap[r]? = some (.stringIter s pos)) : (setObj r o).run P W = .ok () (setB W r o) := by
  simp [setObj, Sem.run, h, setB]

theorem doNext_ok {P : Program} {γ : Gam} {A : AW} {W : World} (hw : WRel γ A W) (ty : Nat) {x x' : Value} (b : Bool) (hx : VRel γ x x') :
    VOk P γ W (doNext x b A) (Instr.next x' b ty) := by
  unfold doNext
  split
  · rename_i i
    cases hx with
    | ptr k hg =>
      rename_i g
      split
      · rename_i s pos hi
        obtain ⟨g', hg', ho⟩ := hw.obj _ _ hi
        rw [hg] at hg'
        cases hg'
        cases ho with
        | siter hb =>
          split
          · rename_i hlt
            have hlt' := blt_lt hlt
            split
            rename_i c width hdec
            obtain ⟨q1, q2⟩ := setObj_rel hw (x' := .siter s (Nat.add pos width)) (O := .stringIter s (pos + width)) hi hg (by intros; simp) (by intros; simp) (.siter (setB_same _ (lt_of_heap hb)))
            refine ⟨.tuple #[.bool true, goInt pos, .int .i32 c], γ, _, ?_, .tuple (.cons (.bool _) (.cons (.int _ _) (.cons (.int _ _) .nil))), q1, q2⟩
            simp [Instr.next, run_getObj_iter hb, hlt', hdec, run_setObj_iter _ hb]
          · rename_i hlt
            have hlt' : ¬ pos < s.size := fun hh => by
              have : Nat.blt pos s.size = true := Nat.ble_eq_true_of_le hh
              rw [this] at hlt
              cases hlt
            exact .same hw (v' := .tuple #[.bool false]) (by simp [Instr.next, run_getObj_iter hb, hlt']) (.tuple (.cons (.bool _) .nil))
      · trivial
  · trivial

end Go.Ev
