/- Operations that only make an object with plain contents: carried out sooner than the walk says so, and named then. -/
import Derived.Test.YtdalaifnhppidaaDoorEvFold
namespace Go.Ev
open Go

def noG : Gam := fun _ => none
def noA : AW := ⟨0, .nil, .nil⟩

theorem WRel.nought (W : World) : WRel noG noA W where
 obj := fun i o h => by simp [noA, Tr.get] at h
 lt := fun _ _ h => nomatch h
 fresh := fun _ _ => rfl
 sep := fun _ _ _ _ _ _ h => by simp [noA, Tr.get] at h
 mem := fun _ _ _ _ _ h => by simp [noA, Tr.get] at h
 famlt := fun _ _ _ _ _ h => by simp [noA, Tr.get] at h
 famfresh := fun _ _ => rfl

def lateB (all : List Oper) : List Operand → Nat → Bool
 | [], _ => true
 | .tmp t :: l, i => (all.drop i).all (fun o => match o.dst with | some d => !Nat.beq d t | none => true) && lateB all l i
 | _ :: l, i => lateB all l i

def gndsE (m : Nat) (en : En) : List Operand → Bool
 | [] => true
 | x :: l => match opd m en x with
  | some v => gnd v && gndsE m en l
  | none => false

inductive AO where
 | row (c : List Value) (e z : Nat)
 | map

def AO.mk : AO → Nat → AObj
 | .row c e z, i => .cells c e i z
 | .map, _ => .map [] 0

def AO.gnd : AO → Bool
 | .row c _ _ => gnds c
 | .map => true

def alLike (C : Cfg) (m : Nat) (en : En) (all : List Oper) (i : Nat) (o : Oper) : Option (AO × Value) :=
 match o.op with
 | .alloc e => match C.tys.get e with
  | some i => match i.zero with
   | some z => match gnd z, gnds (vcells z) with
    | true, true => some (.row (vcells z) e 0, .pointer (some ⟨0, 0, none⟩))
    | _, _ => none
   | none => none
  | none => none
 | .buildSlice t len ps => match C.sy with
  | true => none
  | false => match lateB all o.op.operands.toList i, gndsE m en o.op.operands.toList with
   | true, true => match doBuildSlice C t len (pairsL (rho m en) ps.toList) noA with
    | .val (.slice (some ⟨0, 0, none⟩) l c) A1 => match A1.heap.get 0 with
     | some (.cells cs e _ z) => match gnds cs, Nat.blt c unk with
      | true, true => some (.row cs e z, .slice (some ⟨0, 0, none⟩) l c)
      | _, _ => none
     | _ => none
    | _ => none
   | _, _ => none
 | .makeMap _ none => match C.sy with
  | true => none
  | false => some (.map, .map (some 0))
 | _ => none

def nm (i : Nat) : Value → Value
 | .pointer _ => .pointer (some ⟨i, 0, none⟩)
 | .slice _ l c => .slice (some ⟨i, 0, none⟩) l c
 | .map _ => .map (some i)
 | v => v

def okV0 (v : Value) : Prop := v = .pointer (some ⟨0, 0, none⟩) ∨ v = .map (some 0) ∨ ∃ l c, c < unk ∧ v = .slice (some ⟨0, 0, none⟩) l c

def nmG (g : GI) : Value → Value
 | .pointer _ => .pointer (some ⟨g.blk, g.off + 0, none⟩)
 | .slice _ l c => .slice (some ⟨g.blk, g.off + 0, none⟩) l c
 | .map _ => .map (some g.blk)
 | v => v

theorem nm_rel {γ : Gam} {j : Nat} {g : GI} {v : Value} (hv : okV0 v) (h : γ j = some g) : VRel γ (nm j v) (nmG g v) := by
 rcases hv with rfl | rfl | ⟨l, c, hc, rfl⟩
 ·exact .ptr 0 h
 ·exact .map h
 ·exact .slice 0 l c c h (.inl ⟨rfl, by omega⟩)

theorem nm_inv {γ : Gam} {j : Nat} {g : GI} {v v' : Value} (hv : okV0 v) (h : γ j = some g) (hr : VRel γ (nm j v) v') : v' = nmG g v := by
 rcases hv with rfl | rfl | ⟨l, c, hc, rfl⟩
 ·cases hr with
  | ptr k hg => rw [h] at hg; cases hg; rfl
 ·cases hr with
  | map hg => rw [h] at hg; cases hg; rfl
 ·cases hr with
  | slice k l c c' hg hcc =>
   rw [h] at hg
   cases hg
   rcases hcc with hcc | hcc
   ·rw [hcc.1]; rfl
   ·omega
  | sliceE => unfold unkE at hc; unfold unk at hc; omega

theorem doBuildSlice_any {C : Cfg} {t len : Nat} {ps : List (Nat × Value)} {v : Value} {A1 : AW} (h : doBuildSlice C t len ps noA = .val v A1) :
  ∃ cs e z l, v = .slice (some ⟨0, 0, none⟩) l l ∧ A1 = noA.new (.cells cs e 0 z) ∧ ∀ A : AW, doBuildSlice C t len ps A = .val (.slice (some ⟨A.next, 0, none⟩) l l) (A.new (.cells cs e A.next z)) := by
 unfold doBuildSlice at h
 split at h
 ·rename_i e he
  split at h
  ·rename_i inf hinf
   split at h
   ·rename_i z hz
    split at h
    ·rename_i h1 h2 h3
     split at h
     ·rename_i cs hcs
      cases h
      exact ⟨cs, e, _, _, rfl, rfl, fun A => by simp only [doBuildSlice, he, hinf, hz, h1, h2, h3, hcs]⟩
     ·cases h
    ·rename_i h1 h2 h3
     split at h
     ·split at h
      ·rename_i h4
       cases h
       exact ⟨[], e, _, _, rfl, rfl, fun A => by simp only [doBuildSlice, he, hinf, hz, h1, h2, h3, h4]⟩
      ·cases h
     ·cases h
    ·cases h
   ·cases h
  ·cases h
 ·cases h

theorem pairsL_congr {ρ ρ' : Operand → Value} : ∀ (l : List (Nat × Operand)), (∀ p ∈ l, ρ p.2 = ρ' p.2) → pairsL ρ l = pairsL ρ' l
 | [], _ => rfl
 | (i, x) :: l, h => by
  simp only [pairsL]
  rw [h (i, x) (by simp), pairsL_congr l fun p hp => h p (by simp [hp])]

theorem mem_parts {t len : Nat} {ps : Array (Nat × Operand)} {p : Nat × Operand} (hp : p ∈ ps.toList) : p.2 ∈ (Op.buildSlice t len ps).operands.toList := by
 have h : p.2 ∈ (Op.buildSlice t len ps).operands := by
  simp [Op.operands]
  exact ⟨p.1, by simpa using hp⟩
 exact Array.mem_toList_iff.2 h

theorem gndsE_use {m : Nat} {en : En} : ∀ {l : List Operand}, gndsE m en l = true → ∀ x ∈ l, ∃ v, opd m en x = some v ∧ gnd v = true
 | y :: l, h, x, hx => by
  simp only [gndsE] at h
  split at h
  ·rename_i v hv
   simp only [Bool.and_eq_true] at h
   rcases List.mem_cons.1 hx with rfl | hx
   ·exact ⟨v, hv, h.1⟩
   ·exact gndsE_use h.2 x hx
  ·cases h

theorem lateB_use {all : List Oper} {i : Nat} : ∀ {l : List Operand}, lateB all l i = true → ∀ t, Operand.tmp t ∈ l → ∀ (q : Nat) (o : Oper), i ≤ q → all[q]? = some o → o.dst ≠ some t
 | y :: l, h, t, ht, q, o, hq, ho => by
  have hrest : ∀ (h : lateB all l i = true), Operand.tmp t ∈ l → o.dst ≠ some t := fun h hm => lateB_use h t hm q o hq ho
  cases y with
  | tmp u =>
   simp only [lateB, Bool.and_eq_true] at h
   rcases List.mem_cons.1 ht with e | ht
   ·cases e
    intro hd
    have hm : o ∈ all.drop i := by
     refine List.mem_iff_getElem?.2 ⟨q - i, ?_⟩
     rw [List.getElem?_drop, show i + (q - i) = q by omega]
     exact ho
    have := List.all_eq_true.1 h.1 o hm
    rw [hd] at this
    simp at this
   ·exact hrest h.2 ht
  | const c => exact hrest h (by simpa using ht)
  | global g => exact hrest h (by simpa using ht)
  | func f => exact hrest h (by simpa using ht)

theorem alLike_use {C : Cfg} {m : Nat} {en : En} {all : List Oper} {i : Nat} {o : Oper} {ao : AO} {v0 : Value} (h : alLike C m en all i o = some (ao, v0)) :
  ao.gnd = true ∧ okV0 v0 ∧ (∀ x ∈ o.op.operands.toList, ∃ v, opd m en x = some v ∧ gnd v = true) ∧ (∀ t, Operand.tmp t ∈ o.op.operands.toList → ∀ (q : Nat) (o' : Oper), i ≤ q → all[q]? = some o' → o'.dst ≠ some t) ∧
  ∀ ρ : Operand → Value, (∀ x ∈ o.op.operands.toList, ρ x = rho m en x) → ∀ A : AW, doOp C ρ o A = .val (nm A.next v0) (A.new (ao.mk A.next)) := by
 unfold alLike at h
 split at h
 ·rename_i e' hop
  have hnil : o.op.operands.toList = [] := by rw [hop]; rfl
  split at h
  ·rename_i inf h1
   split at h
   ·rename_i zz h2
    split at h
    ·rename_i h3 h4
     cases h
     refine ⟨h4, .inl rfl, fun x hx => (by rw [hnil] at hx; cases hx), fun t ht => (by rw [hnil] at ht; cases ht), fun ρ _ A => ?_⟩
     simp only [doOp, hop, doAlloc, h1, h2, h3, nm, AO.mk]
    ·cases h
   ·cases h
  ·cases h
 ·rename_i t len ps hop
  split at h
  ·cases h
  ·split at h
   ·rename_i hl hg
    split at h
    ·rename_i l c1 A1 hb
     split at h
     ·rename_i cs e1 f1 z1 hget
      split at h
      ·rename_i hgc hcu
       cases h
       obtain ⟨cs', e', z', l', hv, hA, hall⟩ := doBuildSlice_any hb
       cases hv
       subst hA
       have hget' : (noA.new (.cells cs' e' 0 z')).heap.get 0 = some (.cells cs' e' 0 z') := by simp [AW.new, noA, Tr.get_put]
       rw [hget'] at hget
       cases hget
       refine ⟨hgc, .inr (.inr ⟨_, _, blt_lt hcu, rfl⟩), gndsE_use hg, lateB_use hl, fun ρ hρ A => ?_⟩
       simp only [doOp, hop]
       rw [pairsL_congr (ρ := ρ) (ρ' := rho m en) ps.toList fun p hp => hρ p.2 (by rw [hop]; exact mem_parts hp)]
       exact hall A
      ·cases h
     ·cases h
    ·cases h
   ·cases h
 ·rename_i t hop
  split at h
  ·cases h
  ·cases h
   have hnil : o.op.operands.toList = [] := by rw [hop]; rfl
   refine ⟨rfl, .inr (.inl rfl), fun x hx => (by rw [hnil] at hx; cases hx), fun t ht => (by rw [hnil] at ht; cases ht), fun ρ _ A => ?_⟩
   simp only [doOp, hop, doMakeMap, Option.map_none, nm, AO.mk]
 ·cases h

theorem CellsRel.of_gnd {γ γ' : Gam} {x : Nat} {c : List Value} {cc : Array Value} (hg : gnds c = true) (h : CellsRel γ x c cc) : CellsRel γ' x c cc := by
 intro k v hv
 obtain ⟨v', h1, h2⟩ := h k v hv
 have hgv : gnd v = true := by
  have hm := List.mem_of_getElem? hv
  clear h hv h1 h2
  induction c with
  | nil => cases hm
  | cons x c ih =>
   simp only [gnds, Bool.and_eq_true] at hg
   rcases List.mem_cons.1 hm with rfl | hm
   ·exact hg.1
   ·exact ih hg.2 hm
 have := h2.eq_of_gnd hgv
 subst this
 exact ⟨v', h1, VRel.of_gnd γ' v' hgv⟩

def Pend (W : World) (g : GI) (ao : AO) : Prop := ORel noG W g (ao.mk 0) ∧ g.blk < W.heap.size

theorem Pend.keep {W W' : World} {g : GI} {ao : AO} (h : Pend W g ao) (hb : W'.heap[g.blk]? = W.heap[g.blk]?) : Pend W' g ao := by
 refine ⟨h.1.mono (fun _ _ e => e) hb, ?_⟩
 have h1 : W.heap[g.blk]? = some (W.heap[g.blk]'h.2) := Array.getElem?_eq_getElem h.2
 rw [← hb] at h1
 exact (Array.getElem?_eq_some_iff.1 h1).1

theorem Pend.alive {W : World} {g : GI} {ao : AO} (h : Pend W g ao) (hb : W.heap[g.blk]? = some (.deferred (some []))) : False := by
 obtain ⟨h, _⟩ := h
 cases ao <;> simp only [AO.mk] at h <;> cases h <;> simp_all

theorem ORel.plain {γ γ' : Gam} {W : World} {g : GI} {ao : AO} {i j : Nat} (hg : ao.gnd = true) (h : ORel γ W g (ao.mk i)) : ORel γ' W g (ao.mk j) := by
 cases ao with
 | row c e z => cases h with | cells hb hf hn hz hc => exact .cells hb hf hn hz (hc.of_gnd hg)
 | map =>
  cases h with
  | map hb he =>
   rename_i es'
   refine .map hb ?_
   generalize es'.toList = l at he ⊢
   cases he
   exact .nil

theorem WRel.more {γ γ' : Gam} {A : AW} {W W' : World} (h : WRel γ A W) (hx : Ext noG W γ' W') : WRel γ A W' ∧ Ext γ W γ W' := by
 have hb : ∀ b, b < W.heap.size → W'.heap[b]? = W.heap[b]? := fun b hb => hx.block b hb fun _ _ e => by cases e
 refine ⟨⟨fun i x hi => ?_, fun i g hi => Nat.lt_of_lt_of_le (h.lt i g hi) hx.size, h.fresh, h.sep, h.mem, h.famlt, h.famfresh⟩, ⟨γ.le_refl, fun _ _ h => .inl h, hx.size, fun b hlt _ => hb b hlt, hx.os, hx.tape, hx.output, hx.drawn⟩⟩
 obtain ⟨g, hg, hr⟩ := h.obj i x hi
 exact ⟨g, hg, hr.mono γ.le_refl (hb _ (h.lt _ _ hg))⟩

theorem alLike_run {C : Cfg} (hC : C.Ok) {fs : Fns} (hf : fs.Ok C) {F : Fence} (hF : Wide F) (k : Nat) {m : Nat} {en : En} {all : List Oper} {i : Nat} {o : Oper} {ao : AO} {v0 : Value} (h : alLike C m en all i o = some (ao, v0)) {a : Act} {W : World} {γ0 : Gam} (hR : Ro C.ro γ0 W)
  (hops : ∀ x ∈ o.op.operands.toList, VRel γ0 (rho m en x) (a.eval x)) {next : Act → World → Prop} {Q : Exit → Act → World → Prop}
  (hn : ∀ g γ' W', W.heap.size ≤ g.blk → g.blk < W'.heap.size → Pend W' g ao → Ext noG W γ' W' → next (a.put o.dst (nmG g v0)) W') : o.wpIn F k C.P a W next Q := by
 obtain ⟨hgc, hv0, hop, _, hdo⟩ := alLike_use h
 refine oper_ok' hC hf hF k (WRel.nought W) (hR.noG noG fun _ => rfl) o (ρ := rho m en) (fun x hx => ?_) (.inl (hdo _ (fun _ _ => rfl) _)) fun v' γ' W' hv hw hx => ?_
 ·have hx' : x ∈ o.op.operands.toList := by simpa using hx
  obtain ⟨u, hu, hg⟩ := hop x hx'
  have hr := hops x hx'
  have hrho : rho m en x = u := by simp [rho, hu]
  rw [hrho] at hr ⊢
  rw [hr.eq_of_gnd hg]
  exact VRel.of_gnd _ u hg
 ·have hget : (noA.new (ao.mk noA.next)).heap.get 0 = some (ao.mk 0) := by simp [AW.new, noA, Tr.get_put]
  obtain ⟨g, hg, ho⟩ := hw.obj _ _ hget
  have hnew : W.heap.size ≤ g.blk := by
   rcases hx.new 0 g hg with hh | ⟨_, hh | ⟨_, _, hh, _⟩⟩
   ·cases hh
   ·exact hh
   ·cases hh
  rw [nm_inv hv0 hg hv]
  exact hn g γ' W' hnew (hw.lt _ _ hg) ⟨ho.plain hgc, hw.lt _ _ hg⟩ hx

theorem WRel.adopt {γ : Gam} {A : AW} {W : World} (h : WRel γ A W) {g : GI} {ao : AO} (hgc : ao.gnd = true) (hp : Pend W g ao) (hun : ∀ i g', γ i = some g' → g'.blk ≠ g.blk) :
  WRel (γ.set A.next g) (A.new (ao.mk A.next)) W := by
 obtain ⟨hor, hblt⟩ := hp
 have hnone : γ A.next = none := h.fresh _ (Nat.le_refl _)
 have hle : γ.le (γ.set A.next g) := Gam.le_set _ hnone
 have hget : ∀ j, (A.new (ao.mk A.next)).heap.get j = if j = A.next then some (ao.mk A.next) else A.heap.get j := fun j => by simp [AW.new, Tr.get_put]
 have hmem : ∀ f, (A.new (ao.mk A.next)).members f = A.members f := fun f => rfl
 refine ⟨?_, ?_, ?_, ?_, ?_, ?_, ?_⟩
 ·intro i x hi
  rw [hget] at hi
  by_cases hin : i = A.next
  ·rw [if_pos hin] at hi
   cases hi
   exact ⟨g, by rw [hin]; exact Gam.set_same _ _ _, hor.plain hgc⟩
  ·rw [if_neg hin] at hi
   obtain ⟨g', hg', hr⟩ := h.obj i x hi
   exact ⟨g', hle _ _ hg', hr.mono hle rfl⟩
 ·intro i g' hi
  rcases Gam.set_cases hi with ⟨_, rfl⟩ | ⟨_, hi⟩
  ·exact hblt
  ·exact h.lt _ _ hi
 ·intro i hi
  have hne : i ≠ A.next := by simp [AW.new] at hi; omega
  rw [Gam.set_other _ _ hne]
  exact h.fresh i (by simp [AW.new] at hi; omega)
 ·intro i j x y gi gj hi hj hgi hgj hbb
  rw [hget] at hi hj
  rcases Gam.set_cases hgi with ⟨hi', rfl⟩ | ⟨hi', hgi'⟩ <;> rcases Gam.set_cases hgj with ⟨hj', rfl⟩ | ⟨hj', hgj'⟩
  ·exact .inl (hi'.trans hj'.symm)
  ·exact absurd hbb.symm (hun _ _ hgj')
  ·exact absurd hbb (hun _ _ hgi')
  ·rw [if_neg hi'] at hi
   rw [if_neg hj'] at hj
   exact h.sep i j x y gi gj hi hj hgi' hgj' hbb
 ·intro i c' e' fam sz hi
  rw [hget] at hi
  rw [hmem]
  by_cases hin : i = A.next
  ·rw [if_pos hin] at hi
   cases ao <;> cases hi
   rw [AW.members_next h.famfresh (Nat.le_refl _), hin]
   simp
  ·rw [if_neg hin] at hi
   exact h.mem i c' e' fam sz hi
 ·intro i c' e' fam sz hi
  rw [hget] at hi
  by_cases hin : i = A.next
  ·rw [if_pos hin] at hi
   cases ao <;> cases hi
   simp [AW.new]
  ·rw [if_neg hin] at hi
   have := h.famlt i c' e' fam sz hi
   simp [AW.new]
   omega
 ·intro f hf
  exact h.famfresh f (by simp [AW.new] at hf; omega)

end Go.Ev
