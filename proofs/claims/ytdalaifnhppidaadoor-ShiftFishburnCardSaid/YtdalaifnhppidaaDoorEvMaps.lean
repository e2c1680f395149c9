/- Operations that the model's own code decides without memory; maps. -/
import Derived.Test.YtdalaifnhppidaaDoorEvAppend
namespace Go.Ev
open Go

def plain? {α : Type} (P : Program) : Sem α → Option α
 | .pure a => some a
 | .program k => plain? P (k P)
 | .mark _ k => plain? P k
 | _ => none

theorem plain_run {α : Type} {P : Program} {s : Sem α} {a : α} (h : plain? P s = some a) (W : World) : s.run P W = .ok a W := by
 induction s with
 | pure b => simp only [plain?, Option.some.injEq] at h; subst h; rfl
 | program k ih => simp only [plain?] at h; exact ih P h
 | mark m k ih => simp only [plain?] at h; exact ih h
 | _ => simp [plain?] at h

theorem plain_bind {α β : Type} (P : Program) (x : Sem α) (f : α → Sem β) : plain? P (x >>= f) = (plain? P x).bind fun a => plain? P (f a) := by
 show plain? P (x.bind f) = _
 induction x with
 | pure b => rfl
 | program k ih => simp only [Sem.bind, plain?]; exact ih P
 | mark m k ih => simp only [Sem.bind, plain?]; exact ih
 | _ => rfl

theorem plain_pure {α : Type} (P : Program) (a : α) : plain? P (Pure.pure a : Sem α) = some a := rfl

def keysG : List MapEntry → Bool
 | [] => true
 | e :: l => match gnd e.key with
  | true => keysG l
  | false => false

theorem EsRel.keys {γ : Gam} {l l' : List MapEntry} (h : EsRel γ l l') : keysG l = true → ∀ (i : Nat) (e : MapEntry), l[i]? = some e → ∃ e', l'[i]? = some e' ∧ e'.key = e.key ∧ ERel γ e e' := by
 induction h with
 | nil => intro _ i e hi; simp at hi
 | cons h hl ih =>
  rename_i x x' l l'
  intro hk i e hi
  simp only [keysG] at hk
  split at hk
  ·rename_i hg
   cases i with
   | zero => simp at hi; subst hi; exact ⟨_, rfl, h.key.eq_of_gnd hg, h⟩
   | succ i => simpa using ih hk i e (by simpa using hi)
  ·cases hk

theorem EsRel.length {γ : Gam} {l l' : List MapEntry} (h : EsRel γ l l') : l'.length = l.length := by
 induction h with
 | nil => rfl
 | cons _ _ ih => simp [ih]

inductive FoundRel (γ : Gam) : Option (Nat × Value) → Option (Nat × Value) → Prop
 | none : FoundRel γ none none
 | some (i : Nat) {v v' : Value} (h : VRel γ v v') : FoundRel γ (some (i, v)) (some (i, v'))

theorem findNow_rel {γ : Gam} {l l' : List MapEntry} (h : EsRel γ l l') (d : TypeDesc) (k : Value) : keysG l = true → ∀ i,
  (Instr.findNow d k l i = none ∧ Instr.findNow d k l' i = none) ∨ ∃ r r', Instr.findNow d k l i = some r ∧ Instr.findNow d k l' i = some r' ∧ FoundRel γ r r' := by
 induction h with
 | nil => intro _ i; exact .inr ⟨none, none, rfl, rfl, .none⟩
 | cons h hl ih =>
  intro hk i
  simp only [keysG] at hk
  split at hk
  ·rename_i hg
   have hkey := h.key.eq_of_gnd hg
   simp only [Instr.findNow, hkey]
   split
   ·exact .inr ⟨_, _, rfl, rfl, .some i h.val⟩
   ·exact ih hk (i + 1)
   ·exact .inl ⟨rfl, rfl⟩
  ·cases hk

theorem findAsking_rel {γ : Gam} {l l' : List MapEntry} (h : EsRel γ l l') (P : Program) (kt : TypeId) (k : Value) : keysG l = true → ∀ i r, plain? P (Instr.findAsking kt k l i) = some r →
  ∃ r', plain? P (Instr.findAsking kt k l' i) = some r' ∧ FoundRel γ r r' := by
 induction h with
 | nil => intro _ i r hr; simp only [Instr.findAsking, plain_pure, Option.some.injEq] at hr; subst hr; exact ⟨none, rfl, .none⟩
 | cons h hl ih =>
  intro hk i r hr
  simp only [keysG] at hk
  split at hk
  ·rename_i hg
   have hkey := h.key.eq_of_gnd hg
   simp only [Instr.findAsking, plain_bind, hkey] at hr ⊢
   cases hq : plain? P (Op.equal kt k _) with
   | none => rw [hq] at hr; simp at hr
   | some b =>
    rw [hq] at hr
    simp only [Option.bind_some] at hr ⊢
    cases b with
    | true => simp only [if_true, plain_pure, Option.some.injEq] at hr ⊢; subst hr; exact ⟨_, rfl, .some i h.val⟩
    | false => simp only [Bool.false_eq_true, if_false] at hr ⊢; exact ih hk (i + 1) r hr
  ·cases hk

theorem findKey_rel {γ : Gam} {l l' : List MapEntry} (h : EsRel γ l l') (P : Program) (kt : TypeId) (k : Value) (hk : keysG l = true) {r : Option (Nat × Value)} (hr : plain? P (Instr.findKey kt k l) = some r) :
  ∃ r', plain? P (Instr.findKey kt k l') = some r' ∧ FoundRel γ r r' := by
 simp only [Instr.findKey, plain_bind] at hr ⊢
 cases hd : plain? P (underlying kt) with
 | none => rw [hd] at hr; simp at hr
 | some d =>
  rw [hd] at hr
  simp only [Option.bind_some] at hr ⊢
  rcases findNow_rel h d k hk 0 with ⟨h1, h2⟩ | ⟨r1, r2, h1, h2, hf⟩
  ·rw [h1] at hr
   rw [h2]
   exact findAsking_rel h P kt k hk 0 r hr
  ·rw [h1] at hr
   rw [h2]
   simp only [plain_pure, Option.some.injEq] at hr ⊢
   subst hr
   exact ⟨r2, rfl, hf⟩

theorem run_getObj_map {P : Program} {W : World} {r : Nat} {es : Array MapEntry} {c : Nat} (h : W.heap[r]? = some (.map es c)) : (getObj r).run P W = .ok (.map es c) W := by
 simp [getObj, Sem.run, h]

theorem run_setObj_map {P : Program} {W : World} {r : Nat} {es : Array MapEntry} {c : Nat} (o : Obj) (h : W.heap[r]? = some (.map es c)) : (setObj r o).run P W = .ok () (setB W r o) := by
 simp [setObj, Sem.run, h, setB]

def mapOf (A : AW) : Value → Option (List MapEntry)
 | .map none => some []
 | .map (some r) => match A.heap.get r with
  | some (.map es _) => some es
  | _ => none
 | _ => none

def isNilL : List MapEntry → Bool
 | [] => true
 | _ => false

def doLookup (C : Cfg) (t : Nat) (x k : Value) (ok : Bool) (A : AW) : OR :=
 match C.under t with
 | some (.map kt et) => match mapOf A x with
  | some es => match keysG es, gnd k, plain? C.P (Instr.checkKey (isNilL es) 10000 kt k), plain? C.P (Instr.findKey kt k es) with
   | true, true, some _, some r => match r with
    | some (_, v) => match ok with
     | true => .val (.tuple ⟨[v, .bool true]⟩) A
     | false => .val v A
    | none => match C.tys.get et with
     | some inf => match inf.zero with
      | some z => match gnd z with
       | true => match ok with
        | true => .val (.tuple ⟨[z, .bool false]⟩) A
        | false => .val z A
       | false => .fail 72
      | none => .fail 73
     | none => .fail 74
   | _, _, _, _ => .fail 75
  | none => .fail 76
 | _ => .fail 77

theorem run_lookup {P : Program} {W : World} {t kt et : Nat} {x' k : Value} {es' : Array MapEntry} {r' : Option (Nat × Value)} (ok : Bool) (ht : P.underlying t = some (.map kt et))
  (hx : (x' = .map none ∧ es' = #[]) ∨ ∃ r c, x' = .map (some r) ∧ W.heap[r]? = some (.map es' c))
  (hck : (Instr.checkKey es'.isEmpty 10000 kt k).run P W = .ok () W) (hfind : (Instr.findKey kt k es'.toList).run P W = .ok r' W) :
  (Instr.lookup t x' k ok).run P W = match r' with
   | some (_, v) => .ok (if ok then .tuple #[v, .bool true] else v) W
   | none => ((zeroValue et).run P W).andThen fun z w => .ok (if ok then .tuple #[z, .bool false] else z) w := by
 rcases hx with ⟨rfl, rfl⟩ | ⟨r, c, rfl, hb⟩
 ·simp only [Instr.lookup, Sem.run_bind, run_underlying ht, Result.andThen_ok, Sem.run_pure, hck, hfind]
  cases r' with
  | none => cases ok <;> simp only [Sem.run_bind, Sem.run_pure] <;> cases (zeroValue et).run P W <;> rfl
  | some q => cases ok <;> rfl
 ·simp only [Instr.lookup, Sem.run_bind, run_underlying ht, Result.andThen_ok, Sem.run_pure, run_getObj_map hb, hck, hfind]
  cases r' with
  | none => cases ok <;> simp only [Sem.run_bind, Sem.run_pure] <;> cases (zeroValue et).run P W <;> rfl
  | some q => cases ok <;> rfl

theorem mapOf_rel {γ : Gam} {A : AW} {W : World} (hw : WRel γ A W) {x x' : Value} (hx : VRel γ x x') {es : List MapEntry} (h : mapOf A x = some es) :
  ∃ es' : Array MapEntry, EsRel γ es es'.toList ∧ ((x' = .map none ∧ es' = #[]) ∨ ∃ r c, x' = .map (some r) ∧ W.heap[r]? = some (.map es' c)) := by
 cases hx <;> simp only [mapOf] at h
 case mapNil => cases h; exact ⟨#[], .nil, .inl ⟨rfl, rfl⟩⟩
 case map i g hg =>
  split at h
  ·rename_i es0 c0 hi
   cases h
   obtain ⟨g', hg', ho⟩ := hw.obj _ _ hi
   rw [hg] at hg'
   cases hg'
   cases ho with
   | map hb he => exact ⟨_, he, .inr ⟨_, _, rfl, hb⟩⟩
  ·cases h
 all_goals cases h

theorem isEmpty_rel {γ : Gam} {es : List MapEntry} {es' : Array MapEntry} (h : EsRel γ es es'.toList) : es'.isEmpty = isNilL es := by
 have := h.length
 obtain ⟨l⟩ := es'
 cases es <;> cases l <;> simp_all [isNilL, Array.isEmpty]

theorem doLookup_ok {C : Cfg} (hC : C.Ok) {γ : Gam} {A : AW} {W : World} (hw : WRel γ A W) (t : Nat) {x x' key key' : Value} (ok : Bool) (hx : VRel γ x x') (hk : VRel γ key key') :
  VOk C.P γ W (doLookup C t x key ok A) (Instr.lookup t x' key' ok) := by
 unfold doLookup
 split
 ·rename_i kt et ht
  split
  ·rename_i es hes
   obtain ⟨es', hrel, hmap⟩ := mapOf_rel hw hx hes
   split
   ·rename_i u r hkg hgk hck hfind
    have hkk := hk.eq_of_gnd hgk
    subst hkk
    obtain ⟨r', hr', hfr⟩ := findKey_rel hrel C.P kt key' hkg hfind
    have hrun := run_lookup (P := C.P) ok (hC.under ht) hmap (by rw [isEmpty_rel hrel]; exact plain_run hck W) (plain_run hr' W)
    cases hfr with
    | some i h =>
     cases ok with
     | true => exact .same hw hrun (.tuple (.cons h (.cons (.bool true) .nil)))
     | false => exact .same hw hrun h
    | none =>
     simp only
     split
     ·rename_i inf hinf
      split
      ·rename_i z hz
       split
       ·rename_i hgz
        simp only [run_zeroValue' (hC.ty _ _ hinf) hz, Result.andThen_ok] at hrun
        cases ok with
        | true => exact .same hw hrun (.tuple (.cons (VRel.of_gnd γ z hgz) (.cons (.bool false) .nil)))
        | false => exact .same hw hrun (VRel.of_gnd γ z hgz)
       ·trivial
      ·trivial
     ·trivial
   ·trivial
  ·trivial
 ·trivial

def setE (k v : Value) (es : List MapEntry) (i : Nat) : List MapEntry := es.modify i fun e => { e with key := k, val := v }

def doMapUpdate (C : Cfg) (t : Nat) (m k v : Value) (A : AW) : OR :=
 match C.under t with
 | some (.map kt _) => match m with
  | .map (some i) => match A.heap.get i with
   | some (.map es clock) => match keysG es, gnd k, plain? C.P (Instr.checkKey false 10000 kt k), plain? C.P (Instr.findKey kt k es) with
    | true, true, some _, some r => match r with
     | some (j, _) => match es[j]? with
      | some e => match Instr.sameBits 10000 e.key k with
       | true => .val undef { A with heap := A.heap.put i (some (.map (setE k v es j) clock)) }
       | false => .fail 80
      | none => .fail 81
     | none => .val undef { A with heap := A.heap.put i (some (.map (es ++ [{ key := k, val := v, born := clock }]) (Nat.succ clock))) }
    | _, _, _, _ => .fail 82
   | _ => .fail 83
  | _ => .fail 84
 | _ => .fail 85

theorem EsRel.append {γ : Gam} {l l' m m' : List MapEntry} (h : EsRel γ l l') (k : EsRel γ m m') : EsRel γ (l ++ m) (l' ++ m') := by
 induction h with
 | nil => exact k
 | cons h _ ih => exact .cons h ih

theorem EsRel.setE {γ : Gam} {l l' : List MapEntry} (h : EsRel γ l l') {k v v' : Value} (hk : gnd k = true) (hv : VRel γ v v') : ∀ i, EsRel γ (setE k v l i) (setE k v' l' i) := by
 induction h with
 | nil => intro i; cases i <;> exact .nil
 | cons h hl ih =>
  intro i
  cases i with
  | zero => exact .cons ⟨VRel.of_gnd γ k hk, hv, h.born⟩ hl
  | succ i => exact .cons h (ih i)

theorem setObj_rel {γ : Gam} {A : AW} {W : World} (hw : WRel γ A W) {i : Nat} {x x' : AObj} {g : GI} {O : Obj} (hi : A.heap.get i = some x) (hg : γ i = some g)
  (hx : ∀ c e f z, x ≠ .cells c e f z) (hx' : ∀ c e f z, x' ≠ .cells c e f z) (ho : ORel γ (setB W g.blk O) g x') :
  WRel γ { A with heap := A.heap.put i (some x') } (setB W g.blk O) ∧ Ext γ W γ (setB W g.blk O) :=
 ⟨hw.setObj hi hg hx hx' ho, Ext.setB _ hg⟩

theorem doMapUpdate_ok {C : Cfg} (hC : C.Ok) {γ : Gam} {A : AW} {W : World} (hw : WRel γ A W) (t : Nat) {m m' key key' v v' : Value} (hm : VRel γ m m') (hk : VRel γ key key') (hv : VRel γ v v') :
  UOk C.P γ W (doMapUpdate C t m key v A) (Instr.mapUpdate t m' key' v') := by
 unfold doMapUpdate
 split
 ·rename_i kt et ht
  split
  ·rename_i i
   cases hm with
   | map hg =>
    rename_i g
    split
    ·rename_i es clock hi
     split
     ·rename_i u r hkg hgk hck hfind
      have hkk := hk.eq_of_gnd hgk
      subst hkk
      obtain ⟨g', hg', ho⟩ := hw.obj _ _ hi
      rw [hg] at hg'
      cases hg'
      cases ho with
      | map hb he =>
       rename_i es'
       obtain ⟨r', hr', hfr⟩ := findKey_rel he C.P kt key' hkg hfind
       have hlt := lt_of_heap hb
       cases hfr with
       | some j h =>
        simp only
        split
        ·rename_i e hej
         split
         ·rename_i hsame
          obtain ⟨e', he', hkey, _⟩ := he.keys hkg j e hej
          obtain ⟨q1, q2⟩ := setObj_rel hw (x' := .map (setE key' v es j) clock) (O := .map (es'.modify j fun e => { e with key := key', val := v' }) clock) hi hg (by intros; simp) (by intros; simp)
           (.map (setB_same _ hlt) (by simpa [setE] using he.setE hgk hv j))
          refine ⟨rfl, γ, _, ?_, q1, q2⟩
          have h1 : es'[j]? = some e' := by simpa using he'
          have h2 : (Instr.keyThatStays e'.key key').run C.P W = .ok key' W := by simp [Instr.keyThatStays, hkey, hsame]
          simp [Instr.mapUpdate, run_underlying (hC.under ht), run_getObj_map hb, plain_run hck W, plain_run hr' W, h1, h2, run_setObj_map _ hb]
         ·trivial
        ·trivial
       | none =>
        have happ : EsRel γ (es ++ [{ key := key', val := v, born := clock }]) (es'.toList ++ [{ key := key', val := v', born := clock }]) := he.append (.cons ⟨VRel.of_gnd γ key' hgk, hv, rfl⟩ .nil)
        obtain ⟨q1, q2⟩ := setObj_rel hw (x' := .map (es ++ [{ key := key', val := v, born := clock }]) (Nat.succ clock)) (O := .map (es'.push { key := key', val := v', born := clock }) (clock + 1)) hi hg (by intros; simp) (by intros; simp)
         (.map (setB_same _ hlt) (by simpa using happ))
        refine ⟨rfl, γ, _, ?_, q1, q2⟩
        simp [Instr.mapUpdate, run_underlying (hC.under ht), run_getObj_map hb, plain_run hck W, plain_run hr' W, run_setObj_map _ hb]
     ·trivial
    ·trivial
  ·trivial
 ·trivial

def doMakeMap (C : Cfg) (t : Nat) (r : Option Value) (A : AW) : OR :=
 match r with
 | none => .val (.map (some A.next)) (A.new (.map [] 0))
 | some (.int _ _) => match C.under t with
  | some (.map _ _) => .val (.map (some A.next)) (A.new (.map [] 0))
  | _ => .fail 86
 | some _ => .fail 87

theorem doMakeMap_ok {C : Cfg} (hC : C.Ok) {γ : Gam} {A : AW} {W : World} (hw : WRel γ A W) (t : Nat) {r r' : Option Value} (hr : OVRel γ r r') :
  VOk C.P γ W (doMakeMap C t r A) (Instr.makeMap t r') := by
 obtain ⟨q1, q2⟩ := hw.alloc (.map [] 0) (.map #[] 0) 0 0 (.map (heap_alloc_new _ _) .nil) (by intros; simp_all)
 unfold doMakeMap
 split
 ·cases hr
  exact ⟨.map (some W.heap.size), _, _, by simp [Instr.makeMap], .map (g := (gi W.heap.size 0 0)) (Gam.set_same _ _ _), q1, q2⟩
 ·split
  ·rename_i kt et ht
   cases hr with
   | some hr =>
    cases hr
    exact ⟨.map (some W.heap.size), _, _, by simp [Instr.makeMap, run_underlying (hC.under ht), asInt, asIntOf], .map (g := (gi W.heap.size 0 0)) (Gam.set_same _ _ _), q1, q2⟩
  ·trivial
 ·trivial

def doDelete (C : Cfg) (ts : List TypeId) (args : List Value) (A : AW) : OR :=
 match ts, args with
 | t :: _, [.map (some i), k] => match C.under t with
  | some (.map kt _) => match A.heap.get i with
   | some (.map es clock) => match keysG es, gnd k, plain? C.P (Instr.checkKey (isNilL es) 10000 kt k), plain? C.P (Instr.findKey kt k es) with
    | true, true, some _, some r => match r with
     | some (j, _) => .val (.tuple ⟨[]⟩) { A with heap := A.heap.put i (some (.map (es.eraseIdx j) clock)) }
     | none => .val (.tuple ⟨[]⟩) { A with heap := A.heap.put i (some (.map es clock)) }
    | _, _, _, _ => .fail 320
   | _ => .fail 321
  | _ => .fail 322
 | _, _ => .fail 323

theorem EsRel.eraseIdx {γ : Gam} {l l' : List MapEntry} (h : EsRel γ l l') : ∀ i, EsRel γ (l.eraseIdx i) (l'.eraseIdx i) := by
 induction h with
 | nil => intro i; exact .nil
 | cons h hl ih =>
  intro i
  cases i with
  | zero => exact hl
  | succ i => exact .cons h (ih i)

theorem toList_eraseB (es : Array MapEntry) (i : Nat) : (es.eraseIdxIfInBounds i).toList = es.toList.eraseIdx i := by
 unfold Array.eraseIdxIfInBounds
 split
 ·rw [Array.toList_eraseIdx]
 ·rename_i h
  rw [List.eraseIdx_of_length_le]
  simpa using h

theorem doDelete_ok {C : Cfg} (hC : C.Ok) {γ : Gam} {A : AW} {W : World} (hw : WRel γ A W) (ts : Array TypeId) (ty : Nat) {args : List Value} {args' : Array Value} (ha : VsRel γ args args'.toList) :
  VOk C.P γ W (doDelete C ts.toList args A) (Builtin.delete_ ts ty args') := by
 unfold doDelete
 split
 ·rename_i t tl i k hts
  obtain ⟨lt⟩ := ts
  obtain ⟨la⟩ := args'
  simp only at hts
  subst hts
  cases ha with
  | cons hm hl =>
   rename_i m' l'
   cases hl with
   | cons hk hl =>
    rename_i k' l''
    cases hl
    cases hm with
    | map hg =>
     rename_i g
     split
     ·rename_i kt et ht
      split
      ·rename_i es clock hi
       split
       ·rename_i u r hkg hgk hck hfind
        have hkk := hk.eq_of_gnd hgk
        subst hkk
        obtain ⟨g', hg', ho⟩ := hw.obj _ _ hi
        rw [hg] at hg'
        cases hg'
        cases ho with
        | map hb he =>
         rename_i es'
         obtain ⟨r', hr', hfr⟩ := findKey_rel he C.P kt k' hkg hfind
         have hlt := lt_of_heap hb
         have hck' := plain_run hck W
         rw [← isEmpty_rel he] at hck'
         cases hfr with
         | some j h =>
          obtain ⟨q1, q2⟩ := setObj_rel hw (x' := .map (es.eraseIdx j) clock) (O := .map (es'.eraseIdxIfInBounds j) clock) hi hg (by intros; simp) (by intros; simp)
           (.map (setB_same _ hlt) (by rw [toList_eraseB]; exact he.eraseIdx j))
          refine ⟨.tuple #[], γ, _, ?_, .tuple .nil, q1, q2⟩
          simp [Builtin.delete_, run_underlying (hC.under ht), run_getObj_map hb, hck', plain_run hr' W, run_setObj_map _ hb]
         | none =>
          obtain ⟨q1, q2⟩ := setObj_rel hw (x' := .map es clock) (O := .map es' clock) hi hg (by intros; simp) (by intros; simp) (.map (setB_same _ hlt) he)
          refine ⟨.tuple #[], γ, _, ?_, .tuple .nil, q1, q2⟩
          simp [Builtin.delete_, run_underlying (hC.under ht), run_getObj_map hb, hck', plain_run hr' W, run_setObj_map _ hb]
       ·trivial
      ·trivial
     ·trivial
 ·trivial

end Go.Ev
