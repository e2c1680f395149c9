/- Single operations on values: what they answer over the abstract world, and that the model's answer corresponds. -/
import Derived.Test.YtdalaifnhppidaaDoorEvGrow
namespace Go.Ev
open Go

structure Mem where
 get : Nat → Nat → Option Value
 own : Nat → Bool
instance : CoeFun Mem (fun _ => Nat → Nat → Option Value) := ⟨Mem.get⟩
def Mem.no : Mem := ⟨fun _ _ => none, fun _ => false⟩

structure Cfg where
 P : Program
 fns : Tr Func
 tys : Tr TypeInfo
 sy : Bool
 ro : Mem
 sh : Nat := 0

structure Cfg.Ok (C : Cfg) : Prop where
 fn : ∀ f x, C.fns.get f = some x → C.P.funcs[f]? = some x
 ty : ∀ t x, C.tys.get t = some x → C.P.info? t = some x
 mixed : C.P.follows .mixedOrders = true
 named : ∀ f x, C.fns.get f = some x → x.name ≠ "runtime.NumGoroutine"

def Cfg.under (C : Cfg) (t : Nat) : Option TypeDesc :=
 match C.tys.get t with
 | some i => match i.desc with
  | .named _ u => match C.tys.get u with
   | some j => some j.desc
   | none => none
  | d => some d
 | none => none

theorem Cfg.Ok.under {C : Cfg} (h : C.Ok) {t : Nat} {d : TypeDesc} (hd : C.under t = some d) : C.P.underlying t = some d := by
 unfold Cfg.under at hd
 unfold Program.underlying
 split at hd
 ·rename_i i hi
  rw [h.ty _ _ hi]
  cases i with
  | mk desc str size bytes hp al fa zero cmp ms =>
   cases desc <;> simp_all
   rename_i nm u
   split at hd
   ·rename_i j hj
    exact ⟨j, h.ty _ _ hj, Option.some.inj hd⟩
   ·cases hd
 ·cases hd

inductive OR where
 | fail (why : Nat)
 | val (v : Value) (A : AW)
 | call (f : Nat) (args : List Value) (A : AW)
 | yield (i : Nat) (args : List Value) (A : AW)

def VOk (P : Program) (γ : Gam) (W : World) (r : OR) (s : Sem Value) : Prop :=
 match r with
 | .fail _ => True
 | .val v A' => ∃ v' γ' W', s.run P W = .ok v' W' ∧ VRel γ' v v' ∧ WRel γ' A' W' ∧ Ext γ W γ' W'
 | .call _ _ _ => False
 | .yield _ _ _ => False

theorem VOk.same {P : Program} {γ : Gam} {A : AW} {W : World} {v v' : Value} {s : Sem Value} (hw : WRel γ A W) (hr : s.run P W = .ok v' W) (hv : VRel γ v v') : VOk P γ W (.val v A) s :=
 ⟨v', γ, W, hr, hv, hw, Ext.refl _ _⟩

def vcells : Value → List Value
 | .agg ⟨l⟩ => l
 | v => [v]

theorem vcells_rel {γ : Gam} {v v' : Value} (h : VRel γ v v') : VsRel γ (vcells v) v'.cells.toList := by
 cases h <;> first | exact .cons (by constructor <;> assumption) .nil | skip
 case agg c c' h => cases c; exact h

theorem vcells_len {γ : Gam} {v v' : Value} (h : VRel γ v v') : v'.cells.size = (vcells v).length := by
 have := (vcells_rel h).length
 simpa using this

def isAggD : TypeDesc → Bool
 | .struct _ => true
 | .array _ _ => true
 | _ => false

theorem run_isAgg {P : Program} {t : TypeId} {d : TypeDesc} (h : P.underlying t = some d) (W : World) : (isAgg t).run P W = .ok (isAggD d) W := by
 unfold isAgg
 simp only [Sem.run_bind, run_underlying h, Result.andThen_ok]
 cases d <;> rfl

theorem run_sizeOf' {P : Program} {t : TypeId} {i : TypeInfo} (h : P.info? t = some i) (W : World) : (sizeOf t).run P W = .ok i.size W := by
 simp [sizeOf, typeInfo, h]

theorem run_typeInfo' {P : Program} {t : TypeId} {i : TypeInfo} (h : P.info? t = some i) (W : World) : (typeInfo t).run P W = .ok i W := by
 simp [typeInfo, h]

theorem run_zeroValue' {P : Program} {t : TypeId} {i : TypeInfo} {z : Value} (h : P.info? t = some i) (hz : i.zero = some z) (W : World) : (zeroValue t).run P W = .ok z W := by
 simp [zeroValue, typeInfo, h, hz]

structure Ro (r : Mem) (γ : Gam) (W : World) : Prop where
 rd : ∀ b k v, r b k = some v → (∀ i g, γ i = some g → g.blk ≠ b) ∧ ∃ cc e fr v', W.heap[b]? = some (.cells cc e fr) ∧ cc[k]? = some v' ∧ ∀ γ', VRel γ' v v'
 wr : ∀ b, r.own b = true → (∀ i g, γ i = some g → g.blk ≠ b) ∧ ∃ cc e fr, W.heap[b]? = some (.cells cc e fr) ∧ free fr cc.size

theorem Ro.ext {r : Mem} {γ γ' : Gam} {W W' : World} (h : Ro r γ W) (he : Ext γ W γ' W') : Ro r γ' W' := by
 have key : ∀ b O, W.heap[b]? = some O → (∀ i g, γ i = some g → g.blk ≠ b) → (∀ i g, γ' i = some g → g.blk ≠ b) ∧ W'.heap[b]? = some O := fun b O hb hno => by
  have hlt : b < W.heap.size := (Array.getElem?_eq_some_iff.1 hb).1
  refine ⟨fun i g hi hbk => ?_, by rw [he.block b hlt hno]; exact hb⟩
  rcases he.new i g hi with h1 | ⟨_, h1 | ⟨j, x, hj, hx⟩⟩
  ·exact hno i g h1 hbk
  ·omega
  ·exact hno j x hj (hx.trans hbk)
 refine ⟨fun b k v hv => ?_, fun b hv => ?_⟩
 ·obtain ⟨hno, cc, e, fr, v', hb, hc, hr⟩ := h.rd b k v hv
  obtain ⟨h1, h2⟩ := key b _ hb hno
  exact ⟨h1, cc, e, fr, v', h2, hc, hr⟩
 ·obtain ⟨hno, cc, e, fr, hb, hf⟩ := h.wr b hv
  obtain ⟨h1, h2⟩ := key b _ hb hno
  exact ⟨h1, cc, e, fr, h2, hf⟩

theorem Ro.drew {r : Mem} {γ : Gam} {W : World} (h : Ro r γ W) : Ro r γ W.drew := h.ext (Ext.drew γ W)

theorem Ro.nought {γ : Gam} {W : World} : Ro Mem.no γ W := ⟨fun _ _ _ h => (nomatch h), fun _ h => (nomatch h)⟩

theorem Ro.noG {r : Mem} {γ : Gam} {W : World} (h : Ro r γ W) (γ' : Gam) (hn : ∀ i, γ' i = none) : Ro r γ' W := ⟨fun b k v e => by
 obtain ⟨_, cc, e', fr, v', hb, hc, hr⟩ := h.rd b k v e
 exact ⟨fun i g hi => (by rw [hn i] at hi; cases hi), cc, e', fr, v', hb, hc, hr⟩, fun b e => ⟨fun i g hi => (by rw [hn i] at hi; cases hi), (h.wr b e).2⟩⟩

def takeF (f : Nat → Option Value) : Nat → Nat → Option (List Value)
 | _, 0 => some []
 | k, n + 1 => match f k with
  | some v => match takeF f (k + 1) n with
   | some r => some (v :: r)
   | none => none
  | none => none

theorem takeF_spec (f : Nat → Option Value) : ∀ (n k : Nat) (r : List Value), takeF f k n = some r → r.length = n ∧ ∀ j, j < n → f (k + j) = r[j]?
 | 0, k, r, h => by simp only [takeF, Option.some.injEq] at h; subst h; simp
 | n + 1, k, r, h => by
  simp only [takeF] at h
  split at h
  ·rename_i v hv
   split at h
   ·rename_i r' hr
    cases h
    obtain ⟨h1, h2⟩ := takeF_spec f n (k + 1) r' hr
    refine ⟨by simp [h1], fun j hj => ?_⟩
    cases j with
    | zero => simpa using hv
    | succ j =>
     have := h2 j (by omega)
     rw [show k + (j + 1) = k + 1 + j by omega, this]
     simp
   ·cases h
  ·cases h

theorem ro_rel {P : Program} {r : Mem} {γ : Gam} {W : World} (h : Ro r γ W) {b k n : Nat} {l : List Value} (hl : takeF (r b) k n = some l) :
  ∃ l', (loadCells ⟨b, k, none⟩ n).run P W = .ok (List.toArray l') W ∧ VsRel γ l l' := by
 obtain ⟨hlen, hget⟩ := takeF_spec _ _ _ _ hl
 by_cases hn : n = 0
 ·subst hn
  have : l = [] := List.eq_nil_of_length_eq_zero hlen
  subst this
  exact ⟨[], by simp [loadCells, loadCellsFrom], .nil⟩
 have hfound : ∀ j, j < n → ∃ cc e fr v', W.heap[b]? = some (.cells cc e fr) ∧ cc[k + j]? = some v' ∧ VRel γ (l.getD j undef) v' := fun j hj => by
  have h1 := hget j hj
  have h2 : l[j]? = some (l.getD j undef) := by simp [List.getD, List.getElem?_eq_getElem (show j < l.length by omega)]
  rw [h2] at h1
  obtain ⟨_, cc, e, fr, v', q1, q2, q3⟩ := h.rd b _ _ h1
  exact ⟨cc, e, fr, v', q1, q2, q3 γ⟩
 obtain ⟨cc, e, fr, _, hb, _, _⟩ := hfound 0 (by omega)
 have hf2 : ∀ j, j < n → ∃ v', cc[k + j]? = some v' ∧ VRel γ (l.getD j undef) v' := fun j hj => by
  obtain ⟨cc', _, _, v', q1, q2, q3⟩ := hfound j hj
  rw [hb] at q1
  cases q1
  exact ⟨v', q2, q3⟩
 refine ⟨(List.range n).map fun j => cc.getD (k + j) undef, ?_, ?_⟩
 ·refine run_loadCells W _ n _ fun j hj => ?_
  obtain ⟨v', hv', _⟩ := hf2 j hj
  rw [Addr.add_lit]
  simp [World.cell?, hb, hv']
 ·refine VsRel.of_get (by simp [hlen]) fun j v hv => ?_
  have hj : j < n := by
   have := (List.getElem?_eq_some_iff.1 hv).1
   omega
  obtain ⟨v', hv', hr⟩ := hf2 j hj
  refine ⟨v', by simp [hj, hv'], ?_⟩
  have : l.getD j undef = v := by simp [List.getD, hv]
  rw [this] at hr
  exact hr

theorem ro1_rel {r : Mem} {γ : Gam} {W : World} (h : Ro r γ W) {b k : Nat} {v : Value} (hl : r b k = some v) : ∃ v', W.cell? ⟨b, k, none⟩ = some v' ∧ VRel γ v v' := by
 obtain ⟨_, cc, e, fr, v', q1, q2, q3⟩ := h.rd b k v hl
 exact ⟨v', by simp [World.cell?, q1, q2], q3 γ⟩

def doLoad (C : Cfg) (t : Nat) (a : Value) (A : AW) : OR :=
 match a with
 | .pointer (some ⟨i, k, none⟩) => match C.under t with
  | some d => match isAggD d with
   | true => match C.tys.get t with
    | some inf => match A.load i k inf.size with
     | some l => .val (.agg ⟨l⟩) A
     | none => .fail 1
    | none => .fail 2
   | false => match A.load i k 1 with
    | some [v] => .val v A
    | _ => .fail 3
  | none => .fail 4
 | .pointer (some ⟨b, k, some _⟩) => match C.under t with
  | some d => match isAggD d with
   | true => match C.tys.get t with
    | some inf => match takeF (C.ro b) k inf.size with
     | some l => .val (.agg ⟨l⟩) A
     | none => .fail 1
    | none => .fail 2
   | false => match C.ro b k with
    | some v => .val v A
    | none => .fail 3
  | none => .fail 4
 | _ => .fail 5

theorem load1_rel {γ : Gam} {A : AW} {W : World} (h : WRel γ A W) {i k : Nat} {v : Value} (hl : A.load i k 1 = some [v]) :
  ∃ g v', γ i = some g ∧ W.cell? ⟨g.blk, g.off + k, none⟩ = some v' ∧ VRel γ v v' := by
 unfold AW.load at hl
 split at hl
 ·rename_i c e f z hi
  obtain ⟨g, hg, ho⟩ := h.obj _ _ hi
  cases ho with
  | cells hb hf hn hz hc =>
   obtain ⟨_, hget⟩ := takeAt_spec _ _ _ _ hl
   have h0 := hget 0 (by omega)
   simp at h0
   obtain ⟨v', hv', hr⟩ := hc k v h0
   exact ⟨g, v', hg, by simp [World.cell?, hb, hv'], hr⟩
 ·cases hl

theorem doLoad_ok {C : Cfg} (hC : C.Ok) {γ : Gam} {A : AW} {W : World} (hw : WRel γ A W) (hro : Ro C.ro γ W) (t : Nat) {a a' : Value} (ha : VRel γ a a') :
  VOk C.P γ W (doLoad C t a A) (Instr.loadAt t a') := by
 unfold doLoad
 split
 ·rename_i i k
  cases ha with
  | ptr k hg =>
   rename_i g
   split
   ·rename_i d hd
    split
    ·rename_i hagg
     split
     ·rename_i inf hinf
      split
      ·rename_i l hl
       obtain ⟨g', r', hg', hr, hrel⟩ := load_rel (P := C.P) hw hl
       rw [hg] at hg'
       cases hg'
       refine .same hw (v' := .agg ⟨r'⟩) ?_ (.agg hrel)
       simp only [Instr.loadAt, Instr.sureAddr, loadVar, Sem.run_bind, Sem.run_pure, Result.andThen_ok, run_isAgg (hC.under hd), hagg, if_true, run_sizeOf' (hC.ty _ _ hinf), hr]
      ·trivial
     ·trivial
    ·rename_i hagg
     split
     ·rename_i v hl
      obtain ⟨g', v', hg', hcell, hrel⟩ := load1_rel hw hl
      rw [hg] at hg'
      cases hg'
      refine .same hw (v' := v') ?_ hrel
      simp only [Instr.loadAt, Instr.sureAddr, loadVar, Sem.run_bind, Sem.run_pure, Result.andThen_ok, run_isAgg (hC.under hd), hagg, Bool.false_eq_true, if_false, run_load, hcell]
     ·trivial
   ·trivial
 ·rename_i b k s
  cases ha with
  | ptrRo b k s =>
   split
   ·rename_i d hd
    split
    ·rename_i hagg
     split
     ·rename_i inf hinf
      split
      ·rename_i l hl
       obtain ⟨r', hr, hrel⟩ := ro_rel (P := C.P) hro hl
       refine .same hw (v' := .agg ⟨r'⟩) ?_ (.agg hrel)
       simp only [Instr.loadAt, Instr.sureAddr, loadVar, Sem.run_bind, Sem.run_pure, Result.andThen_ok, run_isAgg (hC.under hd), hagg, if_true, run_sizeOf' (hC.ty _ _ hinf), hr]
      ·trivial
     ·trivial
    ·rename_i hagg
     split
     ·rename_i v hl
      obtain ⟨v', hcell, hrel⟩ := ro1_rel hro hl
      refine .same hw (v' := v') ?_ hrel
      simp only [Instr.loadAt, Instr.sureAddr, loadVar, Sem.run_bind, Sem.run_pure, Result.andThen_ok, run_isAgg (hC.under hd), hagg, Bool.false_eq_true, if_false, run_load, hcell]
     ·trivial
   ·trivial
 ·trivial

def UOk (P : Program) (γ : Gam) (W : World) (r : OR) (s : Sem Unit) : Prop :=
 match r with
 | .fail _ => True
 | .val v A' => v = undef ∧ ∃ γ' W', s.run P W = .ok () W' ∧ WRel γ' A' W' ∧ Ext γ W γ' W'
 | .call _ _ _ => False
 | .yield _ _ _ => False

def doStore (C : Cfg) (t : Nat) (a x : Value) (A : AW) : OR :=
 match a with
 | .pointer (some ⟨i, k, none⟩) => match C.tys.get t with
  | some inf => match Nat.beq (vcells x).length inf.size with
   | true => match A.store i k (vcells x) with
    | some A' => .val undef A'
    | none => .fail 6
   | false => .fail 7
  | none => .fail 8
 | _ => .fail 9

theorem doStore_ok {C : Cfg} (hC : C.Ok) {γ : Gam} {A : AW} {W : World} (hw : WRel γ A W) (t : Nat) {a a' x x' : Value} (ha : VRel γ a a') (hx : VRel γ x x') :
  UOk C.P γ W (doStore C t a x A) (Instr.storeAt t a' x') := by
 unfold doStore
 split
 ·rename_i i k
  cases ha with
  | ptr k hg =>
   rename_i g
   split
   ·rename_i inf hinf
    split
    ·rename_i hsz
     split
     ·rename_i A' hs
      obtain ⟨g', W', hg', hr, hw', hext⟩ := store_rel (P := C.P) hw hs (vcells_rel hx)
      rw [hg] at hg'
      cases hg'
      refine ⟨rfl, γ, W', ?_, hw', hext⟩
      have h1 : x'.cells.size = inf.size := by rw [vcells_len hx, Nat.eq_of_beq_eq_true hsz]
      simp only [Instr.storeAt, Instr.sureAddr, storeVar, Sem.run_bind, Sem.run_pure, Result.andThen_ok, run_sizeOf' (hC.ty _ _ hinf), h1, ne_eq, not_true_eq_false, if_false, hr]
     ·trivial
    ·trivial
   ·trivial
 ·trivial

def doAlloc (C : Cfg) (e : Nat) (A : AW) : OR :=
 match C.tys.get e with
 | some i => match i.zero with
  | some z => match gnd z with
   | true => .val (.pointer (some ⟨A.next, 0, none⟩)) (A.new (.cells (vcells z) e A.next 0))
   | false => .fail 10
  | none => .fail 11
 | none => .fail 12

def doBox (e : Nat) (x : Value) (A : AW) : OR := .val (.pointer (some ⟨A.next, 0, none⟩)) (A.new (.cells (vcells x) e A.next 0))

theorem run_newVar {P : Program} (e : Nat) (v : Value) (W : World) : (newVar e v).run P W = .ok ⟨W.heap.size, 0, none⟩ (W.alloc (.cells v.cells e)) := by
 simp [newVar, newRow]

theorem newVar_ok {P : Program} {γ : Gam} {A : AW} {W : World} (hw : WRel γ A W) (e : Nat) {x x' : Value} (hx : VRel γ x x') :
  VOk P γ W (.val (.pointer (some ⟨A.next, 0, none⟩)) (A.new (.cells (vcells x) e A.next 0))) (do pure (.pointer (some (← newVar e x')))) := by
 obtain ⟨h1, h2⟩ := hw.alloc_cells (vcells x) x'.cells e 0 (vcells_rel hx)
 exact ⟨_, _, _, by simp only [Sem.run_bind, run_newVar, Result.andThen_ok, Sem.run_pure], .ptr 0 (Gam.set_same _ _ _), h1, h2⟩

theorem doBox_ok {P : Program} {γ : Gam} {A : AW} {W : World} (hw : WRel γ A W) (e : Nat) {x x' : Value} (hx : VRel γ x x') : VOk P γ W (doBox e x A) (Instr.box e x') :=
 newVar_ok hw e hx

theorem doAlloc_ok {C : Cfg} (hC : C.Ok) {γ : Gam} {A : AW} {W : World} (hw : WRel γ A W) (e : Nat) : VOk C.P γ W (doAlloc C e A) (Instr.alloc e true (.tuple #[])) := by
 unfold doAlloc
 split
 ·rename_i i hi
  split
  ·rename_i z hz
   split
   ·rename_i hg
    obtain ⟨v', γ', W', hr, hv, hw', he⟩ := newVar_ok (P := C.P) hw e (VRel.of_gnd γ z hg)
    refine ⟨v', γ', W', ?_, hv, hw', he⟩
    simpa only [Instr.alloc, Sem.run_bind, run_zeroValue' (hC.ty _ _ hi) hz, Result.andThen_ok] using hr
   ·trivial
  ·trivial
 ·trivial

end Go.Ev
