/- Pointers that are compared, turned into places and back; strings made of bytes in memory. -/
import Derived.Test.YtdalaifnhppidaaDoorEvMisc
namespace Go.Ev
open Go

/-! ### pointers into the same block -/

def doEqPtr (C : Cfg) (op : BinOp) (t : Nat) (x y : Value) (A : AW) : OR :=
 match x, y with
 | .pointer (some ⟨i, k, none⟩), .pointer (some ⟨j, l, none⟩) => match Nat.beq i j, C.under t with
  | true, some (.pointer e) => match C.tys.get e with
   | some inf => match Nat.beq inf.size 0 with
    | false => eqNil op (Nat.beq k l) A
    | true => .fail 290
   | none => .fail 291
  | true, some .unsafePointer => eqNil op (Nat.beq k l) A
  | _, _ => .fail 292
 | _, _ => doEqNil C op t x y A

theorem run_sameAddr {P : Program} (b k l : Nat) (W : World) : (sameAddr ⟨b, k, none⟩ ⟨b, l, none⟩).run P W = .ok (Nat.beq k l) W := by
 have : ((⟨b, k, none⟩ : Addr) == ⟨b, l, none⟩) = Nat.beq k l := by
  rw [Bool.eq_iff_iff]
  simp
 simp [sameAddr, this]

theorem run_equalIn_ptr {P : Program} {t e : Nat} {inf : TypeInfo} (ht : P.underlying t = some (.pointer e)) (hi : P.info? e = some inf) (hs : inf.size ≠ 0) (b k l n : Nat) (W : World) :
  (Op.equalIn (n + 1) t (.pointer (some ⟨b, k, none⟩)) (.pointer (some ⟨b, l, none⟩))).run P W = .ok (Nat.beq k l) W := by
 simp only [Op.equalIn, Sem.run_bind, run_underlying ht, Result.andThen_ok, run_sizeOf' hi, hs, ne_eq, not_false_eq_true, if_true, run_sameAddr]

theorem run_equalIn_unsafe {P : Program} {t : Nat} (ht : P.underlying t = some .unsafePointer) (b k l n : Nat) (W : World) :
  (Op.equalIn (n + 1) t (.pointer (some ⟨b, k, none⟩)) (.pointer (some ⟨b, l, none⟩))).run P W = .ok (Nat.beq k l) W := by
 simp only [Op.equalIn, Sem.run_bind, run_underlying ht, Result.andThen_ok, samePointer, run_sameAddr]

theorem eqNil_ok {C : Cfg} {γ : Gam} {A : AW} {W : World} (hw : WRel γ A W) (op : BinOp) (t : Nat) (ox oy : Operand) (b : Bool) {a a' : Addr} (h : (Op.equal t (.pointer (some a)) (.pointer (some a'))).run C.P W = .ok b W) :
  VOk C.P γ W (eqNil op b A) (do eqGuard op t ox oy (.pointer (some a)) (.pointer (some a')); binOp op t (.pointer (some a)) (.pointer (some a'))) := by
 unfold eqNil
 split
 ·exact .same hw (by simp [eqGuard, binOp, h]) (.bool _)
 ·exact .same hw (by simp [eqGuard, binOp, h]) (.bool _)
 ·trivial

theorem beq_off (o k l : Nat) : Nat.beq (o + k) (o + l) = Nat.beq k l := by
 cases h : Nat.beq k l with
 | true => rw [Nat.eq_of_beq_eq_true h]; exact Nat.beq_refl _
 | false =>
  have := Nat.ne_of_beq_eq_false h
  cases h2 : Nat.beq (o + k) (o + l) with
  | false => rfl
  | true => have := Nat.eq_of_beq_eq_true h2; omega

theorem doEqPtr_ok {C : Cfg} (hC : C.Ok) {γ : Gam} {A : AW} {W : World} (hw : WRel γ A W) (op : BinOp) (t : Nat) (ox oy : Operand) {x x' y y' : Value} (hx : VRel γ x x') (hy : VRel γ y y') :
  VOk C.P γ W (doEqPtr C op t x y A) (do eqGuard op t ox oy x' y'; binOp op t x' y') := by
 unfold doEqPtr
 split
 ·rename_i i k j l
  cases hx with
  | ptr _ hi =>
   cases hy with
   | ptr _ hj =>
    rename_i g g'
    split
    ·rename_i e hij ht
     have hij' := Nat.eq_of_beq_eq_true hij
     subst hij'
     rw [hi] at hj
     cases hj
     split
     ·rename_i inf hinf
      split
      ·rename_i hsz
       have hsz' : inf.size ≠ 0 := Nat.ne_of_beq_eq_false hsz
       exact eqNil_ok hw op t ox oy _ (by rw [← beq_off g.off]; exact run_equalIn_ptr (hC.under ht) (hC.ty _ _ hinf) hsz' _ _ _ 9999 W)
      ·trivial
     ·trivial
    ·rename_i hij ht
     have hij' := Nat.eq_of_beq_eq_true hij
     subst hij'
     rw [hi] at hj
     cases hj
     exact eqNil_ok hw op t ox oy _ (by rw [← beq_off g.off]; exact run_equalIn_unsafe (hC.under ht) _ _ _ 9999 W)
    ·trivial
 ·exact doEqNil_ok hC hw op t ox oy hx hy

/-! ### raw pointers -/

def roomy (c : List Value) (k s n : Nat) : Bool := Nat.ble (Nat.add k (Nat.mul n s)) c.length

def even (z s : Nat) : Bool := Nat.beq z 0 || Nat.beq z s

def doPtrConv (C : Cfg) (s d : Nat) (x : Value) (A : AW) : OR :=
 match x with
 | .pointer (some ⟨i, k, none⟩) => match A.heap.get i with
  | some (.cells c e _ z) => match C.under s, C.under d with
   | some (.pointer t), some .unsafePointer => match C.tys.get t with
    | some inf => match Nat.beq inf.size 0, Nat.blt k c.length with
     | false, true => .val x A
     | _, _ => .fail 293
    | none => .fail 294
   | some .unsafePointer, some (.pointer u) => match C.tys.get u with
    | some inf => match Nat.beq inf.size 0, Nat.beq e u, Nat.beq (Nat.mod k inf.size) 0, even z inf.size && roomy c k inf.size 1 with
     | false, true, true, true => .val x A
     | _, _, _, _ => .fail 295
    | none => .fail 296
   | _, _ => .fail 297
  | _ => .fail 298
 | _ => .fail 123

theorem run_viewAt {P : Program} {W : World} {b : Nat} {cc : Array Value} {e : Nat} {fr : Nat × Nat} (h : W.heap[b]? = some (.cells cc e fr)) : (viewAt b).run P W = .ok none W := by
 simp [viewAt, World.shape?, h]

theorem run_seenAt {P : Program} {W : World} {b k : Nat} {cc : Array Value} {e : Nat} {fr : Nat × Nat} (h : W.heap[b]? = some (.cells cc e fr)) : (Conv.seenAt ⟨b, k, none⟩).run P W = .ok ⟨b, k, none⟩ W := by
 simp only [Conv.seenAt, Sem.run_bind, run_viewAt h, Result.andThen_ok, Sem.run_pure]

theorem run_cellsIn {P : Program} {W : World} {b : Nat} {cc : Array Value} {e : Nat} {fr : Nat × Nat} (h : W.heap[b]? = some (.cells cc e fr)) : (cellsIn b).run P W = .ok (some cc.size) W := by
 simp [cellsIn, World.shape?, h]

theorem liesAt_row {P : Program} {e n k m : Nat} {inf : TypeInfo} (hi : P.info? e = some inf) (hs : inf.size ≠ 0) (hk : k % inf.size = 0) (hr : k + m * inf.size ≤ n) : liesAt P P.depth e (n / P.cellsOf e) k e m = true := by
 have hc : P.cellsOf e = inf.size := by simp [Program.cellsOf, hi]
 have hd : ∃ d, P.depth = d + 1 := ⟨P.depth - 1, by unfold Program.depth; omega⟩
 obtain ⟨d, hd⟩ := hd
 have hle : k / inf.size + m ≤ n / inf.size := by
  have h1 : k = inf.size * (k / inf.size) := by
   have := Nat.div_add_mod k inf.size
   omega
  rw [Nat.le_div_iff_mul_le (by omega), Nat.add_mul, Nat.mul_comm (k / inf.size)]
  omega
 rw [hc, hd]
 unfold liesAt
 rw [hd]
 unfold rowAt
 have h2 : sameLayout P (d + 1) e e = true := by unfold sameLayout; simp
 simp [hc, hs, hk, hle, h2]

theorem run_variablesAt {P : Program} {W : World} {b k m : Nat} {cc : Array Value} {e : Nat} {fr : Nat × Nat} {inf : TypeInfo} (h : W.heap[b]? = some (.cells cc e fr)) (hi : P.info? e = some inf) (hs : inf.size ≠ 0) (hk : k % inf.size = 0)
  (hr : k + m * inf.size ≤ cc.size) : (variablesAt ⟨b, k, none⟩ e m).run P W = .ok true W := by
 simp [variablesAt, World.shape?, h, liesAt_row hi hs hk hr]

theorem CellsRel.le {γ : Gam} {o : Nat} {c : List Value} {cc : Array Value} (h : CellsRel γ o c cc) (h0 : 0 < c.length) : o + c.length ≤ cc.size := by
 have hv : c[c.length - 1]? = some c[c.length - 1] := List.getElem?_eq_getElem (by omega)
 obtain ⟨v', h1, _⟩ := h _ _ hv
 have := (Array.getElem?_eq_some_iff.1 h1).1
 omega

theorem doPtrConv_ok {C : Cfg} (hC : C.Ok) {γ : Gam} {A : AW} {W : World} (hw : WRel γ A W) (s d : Nat) {x x' : Value} (hx : VRel γ x x') : VOk C.P γ W (doPtrConv C s d x A) (convert s d x') := by
 unfold doPtrConv
 split
 ·rename_i i k
  cases hx with
  | ptr _ hg =>
   rename_i g
   split
   ·rename_i c e f z hi
    obtain ⟨g', hg', ho⟩ := hw.obj _ _ hi
    rw [hg] at hg'
    cases hg'
    cases ho with
    | cells hb hf hn hz hc =>
     rename_i cc fr
     split
     ·rename_i t hs hd
      split
      ·rename_i inf hinf
       split
       ·rename_i hsz hk
        have hsz' : inf.size ≠ 0 := Nat.ne_of_beq_eq_false hsz
        have hk' := blt_lt hk
        refine .same hw (v' := .pointer (some ⟨g.blk, g.off + k, none⟩)) ?_ (.ptr k hg)
        have hle := hc.le (by omega)
        have : ¬ (cc.size ≤ g.off + k) := by omega
        simp [convert, run_underlying (hC.under hs), run_underlying (hC.under hd), Conv.unsafePointer, run_seenAt hb, run_cellsIn hb, run_sizeOf' (hC.ty _ _ hinf), hsz', this]
       ·trivial
      ·trivial
     ·rename_i u hs hd
      split
      ·rename_i inf hinf
       split
       ·rename_i h1 h2 h3 h4
        have h1' : inf.size ≠ 0 := Nat.ne_of_beq_eq_false h1
        have h2' := Nat.eq_of_beq_eq_true h2
        have h3' : k % inf.size = 0 := Nat.eq_of_beq_eq_true h3
        simp only [Bool.and_eq_true] at h4
        have h4' : k + 1 * inf.size ≤ c.length := ble_le h4.2
        have hle := hc.le (by omega)
        have hal : (g.off + k) % inf.size = 0 := by
         have ha := g.al
         have h5 := h4.1
         simp only [even, Bool.or_eq_true] at h5
         rcases h5 with h5 | h5
         ·rw [hz, Nat.eq_of_beq_eq_true h5, Nat.mod_zero] at ha
          rw [ha, Nat.zero_add]; exact h3'
         ·rw [hz, Nat.eq_of_beq_eq_true h5] at ha
          rw [Nat.add_mod, ha, h3']; rfl
        subst h2'
        refine .same hw (v' := .pointer (some ⟨g.blk, g.off + k, none⟩)) ?_ (.ptr k hg)
        have hv := run_variablesAt (P := C.P) (m := 1) (k := g.off + k) hb (hC.ty _ _ hinf) h1' hal (by omega)
        simp [convert, run_underlying (hC.under hs), run_underlying (hC.under hd), Conv.unsafePointer, run_seenAt hb, run_sizeOf' (hC.ty _ _ hinf), h1', hv]
       ·trivial
      ·trivial
     ·trivial
   ·trivial
 ·trivial

def doSliceData (args : List Value) (A : AW) : OR :=
 match args with
 | [.slice none _ _] => .val (.pointer none) A
 | [.slice (some ⟨i, k, none⟩) (_ + 1) c] => match Nat.beq c unk, Nat.beq c 0, Nat.beq c unkE with
  | true, _, false => .val (.pointer (some ⟨i, k, none⟩)) A
  | false, false, false => .val (.pointer (some ⟨i, k, none⟩)) A
  | _, _, _ => .fail 300
 | _ => .fail 301

theorem doSliceData_ok {C : Cfg} {γ : Gam} {A : AW} {W : World} (hw : WRel γ A W) (ts : Array TypeId) (ty : Nat) {args : List Value} {args' : Array Value} (ha : VsRel γ args args'.toList) :
  VOk C.P γ W (doSliceData args A) (Builtin.unsafeSliceData_ ts ty args') := by
 unfold doSliceData
 obtain ⟨la⟩ := args'
 split
 ·cases ha with
  | cons hx hl =>
   cases hl
   cases hx
   exact .same hw rfl .ptrNil
 ·rename_i i k _ c
  cases ha with
  | cons hx hl =>
   cases hl
   cases hx with
   | slice _ _ _ c' hg hc =>
    rename_i l g
    have key : c' ≠ 0 → VOk C.P γ W (.val (.pointer (some ⟨i, k, none⟩)) A) (Builtin.unsafeSliceData_ ts ty ⟨[.slice (some ⟨g.blk, g.off + k, none⟩) (l + 1) c']⟩) := fun h => by
     refine .same hw (v' := .pointer (some ⟨g.blk, g.off + k, none⟩)) ?_ (.ptr k hg)
     show Sem.run C.P (if c' ≠ 0 then _ else _) W = _
     rw [if_pos h]
     rfl
    split
    ·rename_i h1 _
     have h1' := Nat.eq_of_beq_eq_true h1
     refine key ?_
     rcases hc with ⟨rfl, hc⟩ | ⟨_, hc, _⟩
     ·exact absurd h1' hc
     ·omega
    ·rename_i h1 h2 _
     have h1' := Nat.ne_of_beq_eq_false h1
     have h2' := Nat.ne_of_beq_eq_false h2
     refine key ?_
     rcases hc with ⟨rfl, hc⟩ | ⟨hc, _, _⟩
     ·exact h2'
     ·exact absurd hc h1'
    ·trivial
 ·trivial

def bytesL : List Value → ByteArray → Option ByteArray
 | [], acc => some acc
 | .int .u8 b :: l, acc => bytesL l (acc.push b.toNat.toUInt8)
 | _ :: _, _ => none

theorem loadBytes_ok {P : Program} {γ : Gam} {W : World} {b e : Nat} {cc : Array Value} {fr : Nat × Nat} (hb : W.heap[b]? = some (.cells cc e fr)) : ∀ (vs : List Value) (k : Nat) (acc s : ByteArray), bytesL vs acc = some s →
  (∀ j v, vs[j]? = some v → ∃ v', cc[k + j]? = some v' ∧ VRel γ v v') → (loadBytes ⟨b, k, none⟩ acc vs.length).run P W = .ok s W := by
 intro vs
 induction vs with
 | nil => intro k acc s h _; simp only [bytesL, Option.some.injEq] at h; subst h; rfl
 | cons v vs ih =>
  intro k acc s h hv
  obtain ⟨v', h1, h2⟩ := hv 0 v rfl
  cases v <;> try (simp [bytesL] at h; done)
  rename_i kk n
  cases kk <;> try (simp [bytesL] at h; done)
  simp only [bytesL] at h
  cases h2
  have hl : (load ⟨b, k, none⟩).run P W = .ok (.int .u8 n) W := by
   have : cc[k]? = some (.int .u8 n) := by simpa using h1
   simp [World.cell?, hb, this]
  simp only [List.length_cons, loadBytes, Sem.run_bind, hl, Result.andThen_ok]
  exact ih (k + 1) _ s h fun j u hj => by
   have := hv (j + 1) u (by simpa using hj)
   rwa [show k + (j + 1) = k + 1 + j by omega] at this

theorem WRel.dropFam {γ : Gam} {A : AW} {W W' : World} (h : WRel γ A W) {i : Nat} {g : GI} {c : List Value} {e f z : Nat} {O : Obj} (hi : A.heap.get i = some (.cells c e f z)) (hg : γ i = some g) (hW : W' = setB W g.blk O) :
  WRel γ { A with heap := A.heap.strike (A.members f) } W' ∧ Ext γ W γ W' := by
 subst hW
 have hget : ∀ j, (A.heap.strike (A.members f)).get j = if j ∈ A.members f then none else A.heap.get j := fun j => Tr.get_strike _ _ _
 have hback : ∀ j y, (A.heap.strike (A.members f)).get j = some y → j ∉ A.members f ∧ A.heap.get j = some y := fun j y hj => by
  rw [hget] at hj
  by_cases hji : j ∈ A.members f
  ·rw [if_pos hji] at hj; cases hj
  ·rw [if_neg hji] at hj; exact ⟨hji, hj⟩
 refine ⟨⟨fun j y hj => ?_, fun j g' hj => by rw [setB_size]; exact h.lt j g' hj, h.fresh, fun j k y w gj gk hj hk => h.sep j k y w gj gk (hback j y hj).2 (hback k w hk).2,
  fun j c e f z hj => h.mem j c e f z (hback j _ hj).2, fun j c e f z hj => h.famlt j c e f z (hback j _ hj).2, h.famfresh⟩, Ext.setB _ hg⟩
 obtain ⟨hji, hy⟩ := hback j y hj
 obtain ⟨g', hg', hr⟩ := h.obj j y hy
 refine ⟨g', hg', hr.mono γ.le_refl (setB_other _ fun e => ?_)⟩
 rcases h.sep j i y _ g' g hy hi hg' hg e with he | ⟨_, _, _, _, fam, _, _, he, he', _⟩
 ·subst he
  exact hji (h.mem _ _ _ _ _ hi)
 ·cases he'
  subst he
  exact hji (h.mem _ _ _ _ _ hy)

theorem freeze_setB {W : World} {b k n e : Nat} {cc : Array Value} {fr : Nat × Nat} (hb : W.heap[b]? = some (.cells cc e fr)) (hn : n ≠ 0) : ∃ O, W.freeze ⟨b, k, none⟩ n = setB W b O := by
 have hlt := lt_of_heap hb
 obtain ⟨lo, hi⟩ := fr
 refine ⟨.cells cc e (if lo == hi then (k, k + n) else (min lo k, max hi (k + n))), ?_⟩
 simp only [World.freeze, hn, if_false, setB]
 congr 1
 apply Array.ext_getElem?
 intro j
 by_cases hj : b = j
 ·subst hj
  rw [Array.getElem?_setIfInBounds_self_of_lt hlt, Array.getElem?_modify, if_pos rfl, hb]
  rfl
 ·rw [Array.getElem?_setIfInBounds_ne hj, Array.getElem?_modify, if_neg hj]

def doUString (C : Cfg) (ts : List TypeId) (args : List Value) (A : AW) : OR :=
 match args with
 | [.pointer none, .int _ (.ofNat 0)] => .val (.string .empty) A
 | [.pointer (some ⟨i, k, none⟩), .int _ (.ofNat n)] => match Nat.beq n 0 with
  | true => .val (.string .empty) A
  | false => match A.heap.get i, ts with
   | some (.cells c e f _), pt :: _ => match C.under pt, C.tys.get e, takeAt c k n with
    | some (.pointer u), some inf, some vs => match Nat.beq e u, Nat.beq inf.size 1, Nat.ble n 9223372036854775807, bytesL vs .empty with
     | true, true, true, some s => .val (.string s) { A with heap := A.heap.strike (A.members f) }
     | _, _, _, _ => .fail 302
    | _, _, _ => .fail 303
   | _, _ => .fail 304
 | _ => .fail 305

theorem run_elemOf {P : Program} {t u : Nat} (h : P.underlying t = some (.pointer u)) (W : World) : (elemOf t).run P W = .ok u W := by
 simp [elemOf, run_underlying h]

theorem run_unsafeString_nil {P : Program} (pt : Nat) (l : List Nat) (ty : Nat) (k : IntKind) (W : World) :
  (Builtin.unsafeString_ ⟨pt :: l⟩ ty ⟨[.pointer none, .int k (.ofNat 0)]⟩).run P W = .ok (.string .empty) W := rfl

theorem run_unsafeString_zero {P : Program} (pt : Nat) (l : List Nat) (ty : Nat) (k : IntKind) (a : Addr) (W : World) :
  (Builtin.unsafeString_ ⟨pt :: l⟩ ty ⟨[.pointer (some a), .int k (.ofNat 0)]⟩).run P W = .ok (.string .empty) W := rfl

theorem run_unsafeString_some {P : Program} (pt : Nat) (l : List Nat) (ty : Nat) (k : IntKind) {a : Addr} {W : World} {n u : Nat} {s : ByteArray} (hn : n ≠ 0) (hm : n ≤ 9223372036854775807) (he : (elemOf pt).run P W = .ok u W)
  (hv : (variablesAt a u n).run P W = .ok true W) (hl : (loadBytes a .empty n).run P W = .ok s W) :
  (Builtin.unsafeString_ ⟨pt :: l⟩ ty ⟨[.pointer (some a), .int k (.ofNat n)]⟩).run P W = .ok (.string s) (W.freeze a n) := by
 have hmax : ¬ (Int.ofNat n > IntKind.i64.max) := by
  have : IntKind.i64.max = 9223372036854775807 := rfl
  rw [this]
  show ¬ ((n : Int) > _)
  omega
 have hlt : ¬ (Int.ofNat n < 0) := by show ¬ ((n : Int) < 0); omega
 have hz : ¬ (Int.ofNat n = 0) := by show ¬ ((n : Int) = 0); omega
 have has : (asInt (.int k (.ofNat n))).run P W = .ok (.ofNat n) W := rfl
 have htn : Int.toNat (Int.ofNat n) = n := rfl
 have key : ∀ e1 e2 e3, Sem.run P (do
   let m ← asInt (.int k (.ofNat n))
   if m < 0 then runtimePanic e1
   if m > IntKind.i64.max then unsupported e2
   if m = 0 then pure (Value.string .empty)
   else if ← variablesAt a (← elemOf pt) m.toNat then do
    let r ← loadBytes a .empty m.toNat
    freeze a m.toNat
    pure (Value.string r)
   else unsupported e3) W = .ok (.string s) (W.freeze a n) := fun e1 e2 e3 => by
  simp only [Sem.run_bind, has, hlt, hmax, hz, if_false, he, Result.andThen_ok, htn, hv, if_true, hl, run_freeze, Sem.run_pure]
 exact key _ _ _

theorem doUString_ok {C : Cfg} (hC : C.Ok) {γ : Gam} {A : AW} {W : World} (hw : WRel γ A W) (ts : Array TypeId) (ty : Nat) {args : List Value} {args' : Array Value} (ha : VsRel γ args args'.toList) (hts : 0 < ts.size) :
  VOk C.P γ W (doUString C ts.toList args A) (Builtin.unsafeString_ ts ty args') := by
 unfold doUString
 obtain ⟨la⟩ := args'
 obtain ⟨lt⟩ := ts
 have hts' : ∃ pt l, lt = pt :: l := by cases lt with | nil => simp at hts | cons a l => exact ⟨a, l, rfl⟩
 obtain ⟨pt, ltl, rfl⟩ := hts'
 split
 ·rename_i kk
  cases ha with
  | cons hx hl => cases hl with
   | cons hy hl => cases hl; cases hx; cases hy; exact .same hw (run_unsafeString_nil _ _ _ _ _) (.string _)
 ·rename_i i k kk n
  cases ha with
  | cons hx hl => cases hl with
   | cons hy hl =>
    cases hl
    cases hy
    cases hx with
    | ptr _ hg =>
     rename_i g
     split
     ·rename_i hn
      have hn' := Nat.eq_of_beq_eq_true hn
      subst hn'
      exact .same hw (run_unsafeString_zero _ _ _ _ _ _) (.string _)
     ·rename_i hn
      have hn' : n ≠ 0 := Nat.ne_of_beq_eq_false hn
      split
      ·rename_i c e f z pt' tl hi hl
       cases hl
       split
       ·rename_i u inf vs hu hinf htake
        split
        ·rename_i s h1 h2 h3 h4
         have h1' := Nat.eq_of_beq_eq_true h1
         subst h1'
         have h2' := Nat.eq_of_beq_eq_true h2
         have h3' : n ≤ 9223372036854775807 := ble_le h3
         obtain ⟨g', hg', ho⟩ := hw.obj _ _ hi
         rw [hg] at hg'
         cases hg'
         cases ho with
         | cells hb hf hnn hz hc =>
          rename_i cc fr
          obtain ⟨t1, t2⟩ := takeAt_spec _ _ _ _ htake
          have hsz : g.off + k + n * 1 ≤ cc.size := by
           have h5 : c[k + (n - 1)]? = vs[n - 1]? := t2 (n - 1) (by omega)
           rw [List.getElem?_eq_getElem (by omega : n - 1 < vs.length)] at h5
           have h6 := (List.getElem?_eq_some_iff.1 h5).1
           have := hc.le (by omega)
           omega
          have hv := run_variablesAt (P := C.P) (m := n) (k := g.off + k) hb (hC.ty _ _ hinf) (by omega) (by rw [h2']; omega) (by rw [h2']; exact hsz)
          have hlb := loadBytes_ok (P := C.P) (γ := γ) hb vs (g.off + k) .empty s h4 fun j v hj => by
           have hjl := (List.getElem?_eq_some_iff.1 hj).1
           rw [← t2 j (by omega)] at hj
           rw [Nat.add_assoc]
           exact hc _ _ hj
          rw [t1] at hlb
          obtain ⟨O, hO⟩ := freeze_setB (k := g.off + k) hb hn'
          obtain ⟨q1, q2⟩ := hw.dropFam (O := O) hi hg hO
          refine ⟨.string s, γ, _, ?_, .string s, q1, q2⟩
          exact run_unsafeString_some _ _ _ _ hn' h3' (run_elemOf (hC.under hu) W) hv hlb
        ·trivial
       ·trivial
      ·trivial
 ·trivial

end Go.Ev
