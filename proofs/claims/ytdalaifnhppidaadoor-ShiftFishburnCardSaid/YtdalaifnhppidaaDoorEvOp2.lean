/- len, copy, walks over strings, calls; every operation together. -/
import Derived.Test.YtdalaifnhppidaaDoorEvOp
namespace Go.Ev
open Go

def doLen (C : Cfg) (ts : List TypeId) (args : List Value) (A : AW) : OR :=
 match ts, args with
 | t :: _, x :: _ => match C.under t with
  | some .string => match x with
   | .string s => .val (.int .i64 (.ofNat s.size)) A
   | _ => .fail 140
  | some (.array n _) => .val (.int .i64 (.ofNat n)) A
  | some (.slice _) => match x with
   | .slice _ n _ => .val (.int .i64 (.ofNat n)) A
   | _ => .fail 141
  | some (.pointer a) => match C.under a with
   | some (.array n _) => .val (.int .i64 (.ofNat n)) A
   | _ => .fail 142
  | some (.map _ _) => match mapOf A x with
   | some es => .val (.int .i64 (.ofNat es.length)) A
   | none => .fail 143
  | _ => .fail 144
 | _, _ => .fail 145

def doCap (C : Cfg) (ts : List TypeId) (args : List Value) (A : AW) : OR :=
 match ts, args with
 | t :: _, [.slice none 0 0] => match C.under t with
  | some (.slice _) => .val (.int .i64 (.ofNat 0)) A
  | _ => .fail 330
 | _, _ => .fail 331

theorem doCap_ok {C : Cfg} (hC : C.Ok) {γ : Gam} {A : AW} {W : World} (hw : WRel γ A W) (ts : Array TypeId) (ty : Nat) {args : List Value} {args' : Array Value} (ha : VsRel γ args args'.toList) :
  VOk C.P γ W (doCap C ts.toList args A) (Builtin.cap_ ts ty args') := by
 unfold doCap
 split
 ·rename_i t tr hts
  obtain ⟨lt⟩ := ts
  obtain ⟨la⟩ := args'
  simp only at hts
  subst hts
  cases ha with
  | cons hx hl =>
   cases hl
   cases hx
   split
   ·rename_i e ht
    exact .same hw (by simp [Builtin.cap_, run_underlying (hC.under ht), goInt]) (.int _ _)
   ·trivial
 ·trivial

theorem doLen_ok {C : Cfg} (hC : C.Ok) {γ : Gam} {A : AW} {W : World} (hw : WRel γ A W) (ts : Array TypeId) (ty : Nat) {args : List Value} {args' : Array Value} (ha : VsRel γ args args'.toList) :
  VOk C.P γ W (doLen C ts.toList args A) (Builtin.len_ ts ty args') := by
 unfold doLen
 split
 ·rename_i t tr x xr hts
  obtain ⟨lt⟩ := ts
  obtain ⟨la⟩ := args'
  simp only at hts
  subst hts
  cases ha with
  | cons hx hl =>
   rename_i x' l'
   split
   ·rename_i ht
    split
    ·cases hx
     exact .same hw (by simp [Builtin.len_, run_underlying (hC.under ht), goInt]) (.int _ _)
    ·trivial
   ·rename_i n e ht
    exact .same hw (by simp [Builtin.len_, run_underlying (hC.under ht), goInt]) (.int _ _)
   ·rename_i e ht
    split
    ·cases hx <;> exact .same hw (by simp [Builtin.len_, run_underlying (hC.under ht), goInt]) (.int _ _)
    ·trivial
   ·rename_i a ht
    split
    ·rename_i n e ht2
     exact .same hw (by simp [Builtin.len_, run_underlying (hC.under ht), run_underlying (hC.under ht2), goInt]) (.int _ _)
    ·trivial
   ·rename_i k e ht
    split
    ·rename_i es hes
     obtain ⟨es', hrel, hmap⟩ := mapOf_rel hw hx hes
     have hl := hrel.length
     simp only [Array.length_toList] at hl
     rcases hmap with ⟨rfl, rfl⟩ | ⟨r, c, rfl, hb⟩
     ·have h0 : es.length = 0 := by simpa using hl.symm
      rw [h0]
      exact .same hw (by simp [Builtin.len_, run_underlying (hC.under ht), goInt]) (.int _ _)
     ·rw [← hl]
      exact .same hw (by simp [Builtin.len_, run_underlying (hC.under ht), run_getObj_map hb, goInt]) (.int _ _)
    ·trivial
   ·trivial
 ·trivial

def doCopy (C : Cfg) (ts : List TypeId) (args : List Value) (A : AW) : OR :=
 match ts, args with
 | t :: _, [.slice a dl cap, x] => match C.under t with
  | some (.slice e) => match C.tys.get e, lenOfV x with
   | some inf, some sl => match srcCells C A inf.size (Nat.min sl dl) x with
    | some cs => match a with
     | none => .val (.int .i64 (.ofNat (Nat.min sl dl))) A
     | some ⟨i, k, none⟩ => match Nat.beq cap unkE, Nat.beq dl 0 with
      | true, true => match cs with
       | [] => .val (.int .i64 (.ofNat (Nat.min sl dl))) A
       | _ => .fail 150
      | true, false => .fail 151
      | false, _ => match A.store i k cs with
       | some A' => .val (.int .i64 (.ofNat (Nat.min sl dl))) A'
       | none => .fail 152
     | some ⟨_, _, some _⟩ => .fail 153
    | none => .fail 154
   | _, _ => .fail 155
  | _ => .fail 156
 | _, _ => .fail 157

theorem doCopy_ok {C : Cfg} (hC : C.Ok) {γ : Gam} {A : AW} {W : World} (hw : WRel γ A W) (hro : Ro C.ro γ W) (ts : Array TypeId) (ty : Nat) {args : List Value} {args' : Array Value} (ha : VsRel γ args args'.toList) :
  VOk C.P γ W (doCopy C ts.toList args A) (Builtin.copy_ ts ty args') := by
 unfold doCopy
 split
 ·rename_i t tr a dl cap x hts
  obtain ⟨lt⟩ := ts
  obtain ⟨la⟩ := args'
  simp only at hts
  subst hts
  cases ha with
  | cons hd hl => cases hl with
   | cons hx hl => cases hl with
    | nil =>
     rename_i d' x'
     split
     ·rename_i e ht
      split
      ·rename_i inf sl hinf hsl
       split
       ·rename_i cs hcs
        obtain ⟨cs', hr, hrel⟩ := src_rel (P := C.P) hw hro hx hcs
        have hlen := lenOf_rel (P := C.P) hx hsl W
        have hmin : Nat.min sl dl = min sl dl := rfl
        split
        ·cases hd
         refine .same hw ?_ (.int _ _)
         simp only [Nat.min_zero] at hr ⊢
         simp [Builtin.copy_, run_underlying (hC.under ht), hlen, run_sizeOf' (hC.ty _ _ hinf), hr, goInt]
        ·rename_i i k
         split
         ·rename_i h1 h2
          split
          ·have h2' := Nat.eq_of_beq_eq_true h2
           subst h2'
           cases hrel
           cases hd
           ·refine .same hw ?_ (.int _ _)
            simp only [Nat.min_zero] at hr ⊢
            simp [Builtin.copy_, run_underlying (hC.under ht), hlen, run_sizeOf' (hC.ty _ _ hinf), hr, storeCells, goInt]
           ·refine .same hw ?_ (.int _ _)
            simp only [Nat.min_zero] at hr ⊢
            simp [Builtin.copy_, run_underlying (hC.under ht), hlen, run_sizeOf' (hC.ty _ _ hinf), hr, storeCells, goInt]
          ·trivial
         ·trivial
         ·rename_i h1
          split
          ·rename_i A' hst
           cases hd with
           | sliceE => simp at h1
           | slice k l c c' hg hc =>
            obtain ⟨g', W', hg', hrun, hw', hext⟩ := store_rel (P := C.P) hw hst hrel
            rw [hg] at hg'
            cases hg'
            refine ⟨_, γ, W', ?_, .int _ _, hw', hext⟩
            simp [Builtin.copy_, run_underlying (hC.under ht), hlen, run_sizeOf' (hC.ty _ _ hinf), hr, hrun, goInt]
          ·trivial
        ·trivial
       ·trivial
      ·trivial
     ·trivial
 ·trivial

/-! ### A string, a map, walked -/

def doRange (C : Cfg) (t : Nat) (x : Value) (A : AW) : OR :=
 match C.under t, x with
 | some .string, .string s => .val (.pointer (some ⟨A.next, 0, none⟩)) (A.new (.siter s 0))
 | some (.map _ _), .map (some i) => match A.heap.get i with
  | some (.map _ clock) => .val (.pointer (some ⟨A.next, 0, none⟩)) (A.new (.miter i clock [] clock))
  | _ => .fail 159
 | _, _ => .fail 160

theorem doRange_ok {C : Cfg} (hC : C.Ok) {γ : Gam} {A : AW} {W : World} (hw : WRel γ A W) (t : Nat) {x x' : Value} (hx : VRel γ x x') :
  VOk C.P γ W (doRange C t x A) (Instr.range t x') := by
 unfold doRange
 split
 ·rename_i s ht
  cases hx
  obtain ⟨q1, q2⟩ := hw.alloc (.siter s 0) (.stringIter s 0) 0 0 (.siter rfl (heap_alloc_new _ _)) (by intros; simp_all)
  refine ⟨.pointer (some ⟨W.heap.size, 0, none⟩), _, _, ?_, .ptr (g := (gi W.heap.size 0 0)) 0 (Gam.set_same _ _ _), q1, q2⟩
  simp [Instr.range, run_underlying (hC.under ht)]
 ·rename_i a b i ht
  split
  ·rename_i es clock hi
   cases hx with
   | map hg =>
    rename_i g
    obtain ⟨g', hg', ho⟩ := hw.obj _ _ hi
    rw [hg] at hg'
    cases hg'
    cases ho with
    | map hb he =>
     obtain ⟨q1, q2⟩ := hw.alloc (.miter i clock [] clock) (.mapIter (some g.blk) clock #[] clock) 0 0 (.miter rfl (by rw [Gam.set_other _ _ (fun e => by rw [e] at hg; rw [hw.fresh _ (Nat.le_refl _)] at hg; cases hg)]; exact hg) (heap_alloc_new _ _)) (by intros; simp_all)
     refine ⟨.pointer (some ⟨W.heap.size, 0, none⟩), _, _, ?_, .ptr (g := (gi W.heap.size 0 0)) 0 (Gam.set_same _ _ _), q1, q2⟩
     simp [Instr.range, run_underlying (hC.under ht), run_getObj_map hb]
  ·trivial
 ·trivial

def nextLeft (es : List MapEntry) (seen : List Nat) : List MapEntry := es.filter fun e => !seen.contains e.born
def nextSame (es : List MapEntry) (since : Nat) (seen : List Nat) (last : Nat) : Bool := !(!seen.isEmpty && !es.isEmpty && es.all (fun e => decide (last ≤ e.born))) && (nextLeft es seen).all fun e => decide (e.born < since)

def doNext (x : Value) (isString : Bool) (A : AW) : OR :=
 match x, isString with
 | .pointer (some ⟨i, 0, none⟩), true => match A.heap.get i with
  | some (.siter s pos) => match Nat.blt pos s.size with
   | true => match Utf8.decode s pos with
    | (c, width) => .val (.tuple ⟨[.bool true, .int .i64 (.ofNat pos), .int .i32 (.ofNat c)]⟩) { A with heap := A.heap.put i (some (.siter s (Nat.add pos width))) }
   | false => .val (.tuple ⟨[.bool false]⟩) A
  | _ => .fail 161
 | .pointer (some ⟨i, 0, none⟩), false => match A.heap.get i with
  | some (.miter m since seen last) => match A.heap.get m with
   | some (.map es clock) => match nextSame es since seen last, nextLeft es seen with
    | true, [] => .val (.tuple ⟨[.bool false]⟩) A
    | true, [e] => .val (.tuple ⟨[.bool true, e.key, e.val]⟩) { A with heap := A.heap.put i (some (.miter m since (seen ++ [e.born]) clock)) }
    | _, _ => .fail 163
   | _ => .fail 164
  | _ => .fail 165
 | _, _ => .fail 162

theorem EsRel.filter {γ : Gam} (p : Nat → Bool) {l l' : List MapEntry} (h : EsRel γ l l') : EsRel γ (l.filter fun e => p e.born) (l'.filter fun e => p e.born) := by
 induction h with
 | nil => exact .nil
 | cons h _ ih =>
  rename_i e e' l l' _
  have hb := h.born
  cases hp : p e.born with
  | true => rw [List.filter_cons_of_pos (by simpa using hp), List.filter_cons_of_pos (by rw [hb]; simpa using hp)]; exact .cons h ih
  | false => rw [List.filter_cons_of_neg (by simp [hp]), List.filter_cons_of_neg (by rw [hb]; simp [hp])]; exact ih
theorem EsRel.all {γ : Gam} (p : Nat → Bool) {l l' : List MapEntry} (h : EsRel γ l l') : (l'.all fun e => p e.born) = l.all fun e => p e.born := by
 induction h with
 | nil => rfl
 | cons h _ ih => simp only [List.all_cons, ih, h.born]
theorem EsRel.isEmpty {γ : Gam} {l l' : List MapEntry} (h : EsRel γ l l') : l'.isEmpty = l.isEmpty := by cases h <;> rfl

theorem run_getObj_miter {P : Program} {W : World} {r : Nat} {m : Option Nat} {since last : Nat} {seen : Array Nat} (h : W.heap[r]? = some (.mapIter m since seen last)) : (getObj r).run P W = .ok (.mapIter m since seen last) W := by
 simp [getObj, Sem.run, h]

theorem next_run {P : Program} {γ : Gam} {W : World} {r b since last clock : Nat} {seen : List Nat} {es : List MapEntry} {es' : Array MapEntry} (ty : Nat) (hr : W.heap[r]? = some (.mapIter (some b) since seen.toArray last)) (hb : W.heap[b]? = some (.map es' clock)) (he : EsRel γ es es'.toList)
  (hs : nextSame es since seen last = true) : ∃ left' : List MapEntry, EsRel γ (nextLeft es seen) left' ∧
   (Instr.next (.pointer (some ⟨r, 0, none⟩)) false ty).run P W = (do
    match ((if left'.isEmpty then [none] else []) ++ left'.map some)[← choose (.mapNext ((if left'.isEmpty then [none] else []) ++ left'.map (some : MapEntry → Option MapEntry)).length)]? with
    | some (some e) =>
     setObj r (.mapIter (some b) since (seen ++ [e.born]).toArray clock)
     pure (.tuple #[.bool true, e.key, e.val])
    | some none => pure (.tuple #[.bool false])
    | none => stuck "Next: no such candidate" : Sem Value).run P W := by
 unfold nextSame at hs
 rw [Bool.and_eq_true, Bool.not_eq_true'] at hs
 obtain ⟨h1, h2⟩ := hs
 refine ⟨es'.toList.filter fun e => !seen.contains e.born, he.filter (fun b => !seen.contains b), ?_⟩
 have hall : (es'.toList.filter fun e => !seen.contains e.born).all (fun e => decide (e.born < since)) = true := by
  rw [EsRel.all (fun b => decide (b < since)) (he.filter (fun b => !seen.contains b))]
  exact h2
 have hc : (!seen.toArray.isEmpty && !es'.isEmpty && es'.all fun e => decide (e.born ≥ last)) = false := by
  rw [← h1]
  have e1 : es'.isEmpty = es.isEmpty := by rw [← he.isEmpty]; simp
  have e2 : (es'.all fun e => decide (e.born ≥ last)) = es.all fun e => decide (last ≤ e.born) := by
   rw [← EsRel.all (fun b => decide (last ≤ b)) he]; simp
  rw [e1, e2]
  simp
 have hold : ((es'.filter fun e => !seen.toArray.contains e.born).filter fun e => decide (e.born < since)) = es'.filter fun e => !seen.toArray.contains e.born := by
  apply Array.ext'
  simp only [Array.toList_filter, List.contains_toArray]
  exact List.filter_eq_self.2 fun a ha => List.all_eq_true.1 hall a ha
 have hnew : ((es'.filter fun e => !seen.toArray.contains e.born).filter fun e => decide (e.born ≥ since)) = #[] := by
  apply Array.ext'
  simp only [Array.toList_filter, List.contains_toArray]
  refine List.filter_eq_nil_iff.2 fun a ha => ?_
  have := List.all_eq_true.1 hall a ha
  simp only [decide_eq_true_eq] at this ⊢
  omega
 simp only [Instr.next, Sem.run_bind, run_getObj_miter hr, Result.andThen_ok, run_getObj_map hb, hc, hold, hnew]
 have harr : (Array.filter (fun e => !seen.toArray.contains e.born) es') = (es'.toList.filter fun e => !seen.contains e.born).toArray := Array.ext' (by simp)
 rw [harr]
 generalize (es'.toList.filter fun e => !seen.contains e.born) = L
 have hcand : ((if L.toArray.isEmpty = true then #[none] else #[]) ++ Array.map some (L.toArray ++ #[])) = ((if L.isEmpty = true then [none] else []) ++ L.map some).toArray := by cases L <;> simp
 have hpush : ∀ x, seen.toArray.push x = (seen ++ [x]).toArray := fun x => by simp
 rw [if_neg (by simp)]
 simp only [hcand, hpush, List.size_toArray, List.getElem?_toArray, Sem.run_bind]
 congr 1

theorem run_getObj_iter {P : Program} {W : World} {r : Nat} {s : ByteArray} {pos : Nat} (h : W.heap[r]? = some (.stringIter s pos)) : (getObj r).run P W = .ok (.stringIter s pos) W := by
 simp [getObj, Sem.run, h]
theorem run_setObj_iter {P : Program} {W : World} {r : Nat} {s : ByteArray} {pos : Nat} (o : Obj) (h : W.heap[r]? = some (.stringIter s pos)) : (setObj r o).run P W = .ok () (setB W r o) := by
 simp [setObj, Sem.run, h, setB]

theorem doNext_ok {P : Program} {γ : Gam} {A : AW} {W : World} (hw : WRel γ A W) (ty : Nat) {x x' : Value} (b : Bool) (hx : VRel γ x x') :
  VOk P γ W (doNext x b A) (Instr.next x' b ty) := by
 unfold doNext
 split
 ·rename_i i
  cases hx with
  | ptr k hg =>
   rename_i g
   split
   ·rename_i s pos hi
    obtain ⟨g', hg', ho⟩ := hw.obj _ _ hi
    rw [hg] at hg'
    cases hg'
    cases ho with
    | siter h0 hb =>
     rw [show g.off + 0 = 0 from h0]
     split
     ·rename_i hlt
      have hlt' := blt_lt hlt
      split
      rename_i c width hdec
      obtain ⟨q1, q2⟩ := setObj_rel hw (x' := .siter s (Nat.add pos width)) (O := .stringIter s (pos + width)) hi hg (by intros; simp) (by intros; simp) (.siter h0 (setB_same _ (lt_of_heap hb)))
      refine ⟨.tuple #[.bool true, goInt pos, .int .i32 c], γ, _, ?_, .tuple (.cons (.bool _) (.cons (.int _ _) (.cons (.int _ _) .nil))), q1, q2⟩
      simp [Instr.next, run_getObj_iter hb, hlt', hdec, run_setObj_iter _ hb]
     ·rename_i hlt
      have hlt' : ¬ pos < s.size := fun hh => by
       have : Nat.blt pos s.size = true := Nat.ble_eq_true_of_le hh
       rw [this] at hlt
       cases hlt
      exact .same hw (v' := .tuple #[.bool false]) (by simp [Instr.next, run_getObj_iter hb, hlt']) (.tuple (.cons (.bool _) .nil))
   ·trivial
 ·rename_i i
  cases hx with
  | ptr k hg =>
   rename_i g
   split
   ·rename_i m since seen last hi
    split
    ·rename_i es clock hm
     obtain ⟨g', hg', ho⟩ := hw.obj _ _ hi
     rw [hg] at hg'
     cases hg'
     cases ho with
     | miter h0 hgm hb =>
      rename_i gm
      obtain ⟨g', hg', hom⟩ := hw.obj _ _ hm
      rw [hgm] at hg'
      cases hg'
      cases hom with
      | map hbm he =>
       rw [show g.off + 0 = 0 from h0]
       split
       ·rename_i hs hl
        obtain ⟨left', h1, h2⟩ := next_run (P := P) ty hb hbm he hs
        rw [hl] at h1
        cases h1
        exact .same hw (v' := .tuple #[.bool false]) (by rw [h2]; simp [choose, Sem.run, Question.forced]) (.tuple (.cons (.bool _) .nil))
       ·rename_i e hs hl
        obtain ⟨left', h1, h2⟩ := next_run (P := P) ty hb hbm he hs
        rw [hl] at h1
        cases h1 with
        | cons h3 h4 =>
         cases h4
         rename_i e'
         obtain ⟨q1, q2⟩ := setObj_rel hw (x' := .miter m since (seen ++ [e.born]) clock) (O := .mapIter (some gm.blk) since (seen ++ [e.born]).toArray clock) hi hg (by intros; simp) (by intros; simp) (.miter h0 hgm (setB_same _ (lt_of_heap hb)))
         refine ⟨.tuple #[.bool true, e'.key, e'.val], γ, _, ?_, .tuple (.cons (.bool _) (.cons h3.key (.cons h3.val .nil))), q1, q2⟩
         rw [h2]
         simp [choose, Sem.run, Question.forced, setObj, hb, setB, h3.born]
       ·trivial
    ·trivial
   ·trivial
 ·trivial

def doEntry (x : Value) (A : AW) : OR :=
 match x with
 | .pointer (some ⟨i, 0, none⟩) => match A.heap.get i with
  | some (.miter m _ seen stepped) => match seen.getLast? with
   | some stamp => match A.heap.get m with
    | some (.map es clock) => match Nat.beq clock stepped with
     | true => match es.find? (fun e => Nat.beq e.born stamp) with
      | some e => .val (.tuple ⟨[e.key, e.val]⟩) A
      | none => .fail 167
     | false => .fail 168
    | _ => .fail 169
   | none => .fail 170
  | _ => .fail 171
 | _ => .fail 173

theorem EsRel.find {γ : Gam} (p : Nat → Bool) {l l' : List MapEntry} (h : EsRel γ l l') {e : MapEntry} (hf : l.find? (fun e => p e.born) = some e) : ∃ e', l'.find? (fun e => p e.born) = some e' ∧ ERel γ e e' := by
 induction h with
 | nil => cases hf
 | cons h _ ih =>
  rename_i a a' l l' _
  rw [List.find?_cons] at hf ⊢
  rw [h.born]
  cases hp : p a.born with
  | true => rw [hp] at hf; cases hf; exact ⟨_, rfl, h⟩
  | false => rw [hp] at hf; exact ih hf

theorem doEntry_ok {P : Program} {γ : Gam} {A : AW} {W : World} (hw : WRel γ A W) {x x' : Value} (hx : VRel γ x x') :
  VOk P γ W (doEntry x A) (Instr.entry x') := by
 unfold doEntry
 split
 ·rename_i i
  cases hx with
  | ptr k hg =>
   rename_i g
   split
   ·rename_i m since seen stepped hi
    split
    ·rename_i stamp hlast
     split
     ·rename_i es clock hm
      split
      ·rename_i hck
       split
       ·rename_i e hfind
        obtain ⟨g', hg', ho⟩ := hw.obj _ _ hi
        rw [hg] at hg'
        cases hg'
        cases ho with
        | miter h0 hgm hb =>
         rename_i gm
         obtain ⟨g', hg', hom⟩ := hw.obj _ _ hm
         rw [hgm] at hg'
         cases hg'
         cases hom with
         | map hbm he =>
          rw [show g.off + 0 = 0 from h0]
          rename_i es'
          obtain ⟨e', h1, h2⟩ := he.find (fun b => Nat.beq b stamp) hfind
          have hck' := Nat.eq_of_beq_eq_true hck
          subst hck'
          refine .same hw (v' := .tuple #[e'.key, e'.val]) ?_ (.tuple (.cons h2.key (.cons h2.val .nil)))
          have hback : seen.toArray.back? = some stamp := by simpa using hlast
          have hf' : (Array.find? (fun x => x.born == stamp) es') = some e' := by
           have hp : (fun x : MapEntry => x.born == stamp) = fun x => Nat.beq x.born stamp := by
            funext x
            rw [Bool.eq_iff_iff, beq_iff_eq]
            exact ⟨fun h => by rw [h]; exact Nat.beq_refl _, Nat.eq_of_beq_eq_true⟩
           rw [← Array.find?_toList, hp]
           exact h1
          simp [Instr.entry, run_getObj_miter hb, hback, run_getObj_map hbm, hf']
       ·trivial
      ·trivial
     ·trivial
    ·trivial
   ·trivial
 ·trivial

end Go.Ev
