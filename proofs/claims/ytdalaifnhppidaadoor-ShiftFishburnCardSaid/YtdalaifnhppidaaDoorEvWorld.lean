/- The abstract world: blocks by name in a tree; what it says of a world of the model; new blocks and stores. No program. -/
import Derived.Test.YtdalaifnhppidaaDoorEvRel
namespace Go.Ev
open Go

inductive Tr (α : Type) where
 | nil
 | node (l : Tr α) (v : Option α) (r : Tr α)

namespace Tr
variable {α : Type}

def get : Tr α → Nat → Option α
 | .nil, _ => none
 | .node l v r, k => match k with
  | 0 => v
  | k + 1 => match Nat.beq (Nat.mod k 2) 0 with
   | true => l.get (Nat.div k 2)
   | false => r.get (Nat.div k 2)

def force {β : Type} (t : Tr α) (c : Tr α → β) : β :=
 match t with
 | .nil => c .nil
 | .node l v r => c (.node l v r)

theorem force_eq {β : Type} (t : Tr α) (c : Tr α → β) : t.force c = c t := by cases t <;> rfl

def set : Nat → Tr α → Nat → Option α → Tr α
 | 0, t, _, _ => t
 | d + 1, .nil, k, x => match k with
  | 0 => .node .nil x .nil
  | k + 1 => match Nat.beq (Nat.mod k 2) 0 with
   | true => (set d .nil (Nat.div k 2) x).force fun t => .node t none .nil
   | false => (set d .nil (Nat.div k 2) x).force fun t => .node .nil none t
 | d + 1, .node l v r, k, x => match k with
  | 0 => .node l x r
  | k + 1 => match Nat.beq (Nat.mod k 2) 0 with
   | true => (set d l (Nat.div k 2) x).force fun t => .node t v r
   | false => (set d r (Nat.div k 2) x).force fun t => .node l v t

theorem get_set (x : Option α) : ∀ (d : Nat) (t : Tr α) (k j : Nat), k + 1 < 2 ^ d → (set d t k x).get j = if j = k then x else t.get j := by
 intro d
 induction d with
 | zero => intro t k j h; simp at h
 | succ d ih =>
  intro t k j h
  have hp : 2 ^ (d + 1) = 2 * 2 ^ d := by rw [Nat.pow_succ]; omega
  cases t with
  | nil =>
   cases k with
   | zero => cases j <;> simp [set, get] <;> (split <;> rfl)
   | succ k =>
    have hk : k / 2 + 1 < 2 ^ d := by omega
    have e1 : Nat.mod k 2 = k % 2 := rfl
    have e2 : Nat.div k 2 = k / 2 := rfl
    simp only [set, force_eq, e1, e2]
    cases hb : Nat.beq (k % 2) 0 with
    | true =>
     have hb' : k % 2 = 0 := Nat.eq_of_beq_eq_true hb
     cases j with
     | zero => simp [get]
     | succ j =>
      have f1 : Nat.mod j 2 = j % 2 := rfl
      have f2 : Nat.div j 2 = j / 2 := rfl
      simp only [get, f1, f2]
      cases hj : Nat.beq (j % 2) 0 with
      | true =>
       have hj' : j % 2 = 0 := Nat.eq_of_beq_eq_true hj
       simp only [ih _ _ _ hk]
       have : (j / 2 = k / 2) ↔ (j = k) := by omega
       simp [this, get]
      | false =>
       have hj' : j % 2 ≠ 0 := Nat.ne_of_beq_eq_false hj
       have : ¬ (j = k) := by omega
       simp [this]
    | false =>
     have hb' : k % 2 ≠ 0 := Nat.ne_of_beq_eq_false hb
     cases j with
     | zero => simp [get]
     | succ j =>
      have f1 : Nat.mod j 2 = j % 2 := rfl
      have f2 : Nat.div j 2 = j / 2 := rfl
      simp only [get, f1, f2]
      cases hj : Nat.beq (j % 2) 0 with
      | true =>
       have hj' : j % 2 = 0 := Nat.eq_of_beq_eq_true hj
       have : ¬ (j = k) := by omega
       simp [this]
      | false =>
       have hj' : j % 2 ≠ 0 := Nat.ne_of_beq_eq_false hj
       simp only [ih _ _ _ hk]
       have : (j / 2 = k / 2) ↔ (j = k) := by omega
       simp [this, get]
  | node l v r =>
   cases k with
   | zero => cases j <;> simp [set, get]
   | succ k =>
    have hk : k / 2 + 1 < 2 ^ d := by omega
    have e1 : Nat.mod k 2 = k % 2 := rfl
    have e2 : Nat.div k 2 = k / 2 := rfl
    simp only [set, force_eq, e1, e2]
    cases hb : Nat.beq (k % 2) 0 with
    | true =>
     have hb' : k % 2 = 0 := Nat.eq_of_beq_eq_true hb
     cases j with
     | zero => simp [get]
     | succ j =>
      have f1 : Nat.mod j 2 = j % 2 := rfl
      have f2 : Nat.div j 2 = j / 2 := rfl
      simp only [get, f1, f2]
      cases hj : Nat.beq (j % 2) 0 with
      | true =>
       have hj' : j % 2 = 0 := Nat.eq_of_beq_eq_true hj
       simp only [ih _ _ _ hk]
       have : (j / 2 = k / 2) ↔ (j = k) := by omega
       simp [this]
      | false =>
       have hj' : j % 2 ≠ 0 := Nat.ne_of_beq_eq_false hj
       have : ¬ (j = k) := by omega
       simp [this]
    | false =>
     have hb' : k % 2 ≠ 0 := Nat.ne_of_beq_eq_false hb
     cases j with
     | zero => simp [get]
     | succ j =>
      have f1 : Nat.mod j 2 = j % 2 := rfl
      have f2 : Nat.div j 2 = j / 2 := rfl
      simp only [get, f1, f2]
      cases hj : Nat.beq (j % 2) 0 with
      | true =>
       have hj' : j % 2 = 0 := Nat.eq_of_beq_eq_true hj
       have : ¬ (j = k) := by omega
       simp [this]
      | false =>
       have hj' : j % 2 ≠ 0 := Nat.ne_of_beq_eq_false hj
       simp only [ih _ _ _ hk]
       have : (j / 2 = k / 2) ↔ (j = k) := by omega
       simp [this]

def put (t : Tr α) (k : Nat) (x : Option α) : Tr α := set (Nat.succ (Nat.log2 (Nat.succ k))) t k x

theorem get_put (t : Tr α) (k : Nat) (x : Option α) (j : Nat) : (t.put k x).get j = if j = k then x else t.get j :=
 get_set x _ t k j Nat.lt_log2_self

theorem get_put_same (t : Tr α) (k : Nat) (x : Option α) : (t.put k x).get k = x := by simp [get_put]
theorem get_put_other (t : Tr α) (k : Nat) (x : Option α) {j : Nat} (h : j ≠ k) : (t.put k x).get j = t.get j := by simp [get_put, h]

def strike (t : Tr α) : List Nat → Tr α
 | [] => t
 | k :: l => (t.put k none).strike l

theorem get_strike (t : Tr α) (l : List Nat) (j : Nat) : (t.strike l).get j = if j ∈ l then none else t.get j := by
 induction l generalizing t with
 | nil => simp [strike]
 | cons k l ih =>
  simp only [strike, ih, get_put, List.mem_cons]
  by_cases hj : j = k <;> by_cases hl : j ∈ l <;> simp [hj, hl]
end Tr

structure En where
 scr : List (Nat × Value)
 base : Tr Value

def scan : List (Nat × Value) → Nat → Option Value
 | [], _ => none
 | (k, v) :: l, t => match Nat.beq k t with
  | true => some v
  | false => scan l t

def En.get (m : Nat) (e : En) (t : Nat) : Option Value :=
 match Nat.testBit m t with
 | true => e.base.get t
 | false => scan e.scr t

def En.set (m : Nat) (e : En) (t : Nat) (v : Value) : En :=
 match Nat.testBit m t with
 | true => { e with base := e.base.put t (some v) }
 | false => { e with scr := (t, v) :: e.scr }

theorem En.get_set (m : Nat) (e : En) (t : Nat) (v : Value) (j : Nat) : (e.set m t v).get m j = if j = t then some v else e.get m j := by
 unfold En.set En.get
 cases ht : Nat.testBit m t <;> cases hj : Nat.testBit m j
 ·simp only [scan]
  by_cases h : j = t
  ·subst h; simp
  ·have : Nat.beq t j = false := by
    cases hb : Nat.beq t j with
    | false => rfl
    | true => exact absurd (Nat.eq_of_beq_eq_true hb).symm h
   simp [this, h]
 ·have : j ≠ t := fun e => by subst e; rw [ht] at hj; cases hj
  simp [this]
 ·have : j ≠ t := fun e => by subst e; rw [ht] at hj; cases hj
  simp [this]
 ·simp only [Tr.get_put]

def TRel (γ : Gam) (m : Nat) (e : En) (tmps : Array Value) : Prop := ∀ (t : Nat) (v : Value), e.get m t = some v → ∃ v', tmps[t]? = some v' ∧ VRel γ v v'

theorem TRel.mono {γ γ' : Gam} (hle : γ.le γ') {m : Nat} {e : En} {tmps : Array Value} (h : TRel γ m e tmps) : TRel γ' m e tmps :=
 fun t v hv => let ⟨v', h1, h2⟩ := h t v hv; ⟨v', h1, h2.mono hle⟩

inductive AObj where
 | loop (st : LoopState) (pend : Option Code) (m : Nat) (en : En) (n : Nat) (params : Array Tmp) (assign body : Code) (d : Nat)
 | defd
 | cells (c : List Value) (elem : TypeId) (fam sz : Nat)
 | map (es : List MapEntry) (clock : Nat)
 | siter (s : ByteArray) (pos : Nat)
 | miter (m since : Nat) (seen : List Nat) (last : Nat)

structure AW where
 next : Nat
 heap : Tr AObj
 fams : Tr (List Nat)

def AW.members (A : AW) (fam : Nat) : List Nat := match A.fams.get fam with | some l => l | none => [fam]

structure ERel (γ : Gam) (e e' : MapEntry) : Prop where
 key : VRel γ e.key e'.key
 val : VRel γ e.val e'.val
 born : e'.born = e.born

inductive EsRel (γ : Gam) : List MapEntry → List MapEntry → Prop
 | nil : EsRel γ [] []
 | cons {e e' : MapEntry} {l l' : List MapEntry} (h : ERel γ e e') (hl : EsRel γ l l') : EsRel γ (e :: l) (e' :: l')

theorem ERel.mono {γ γ' : Gam} (hle : γ.le γ') {e e' : MapEntry} (h : ERel γ e e') : ERel γ' e e' := ⟨h.key.mono hle, h.val.mono hle, h.born⟩
theorem EsRel.mono {γ γ' : Gam} (hle : γ.le γ') {l l' : List MapEntry} (h : EsRel γ l l') : EsRel γ' l l' := by
 induction h with
 | nil => exact .nil
 | cons h _ ih => exact .cons (h.mono hle) ih

def CellsRel (γ : Gam) (o : Nat) (c : List Value) (cc : Array Value) : Prop := ∀ (k : Nat) (v : Value), c[k]? = some v → ∃ v', cc[o + k]? = some v' ∧ VRel γ v v'

theorem CellsRel.mono {γ γ' : Gam} (hle : γ.le γ') {o : Nat} {c : List Value} {cc : Array Value} (h : CellsRel γ o c cc) : CellsRel γ' o c cc :=
 fun k v e => let ⟨v', a, b⟩ := h k v e; ⟨v', a, b.mono hle⟩

def free (fr : Nat × Nat) (n : Nat) : Prop := ∀ k, k < n → ¬ (fr.1 ≤ k ∧ k < fr.2)

theorem free_zero (n : Nat) : free (0, 0) n := fun k _ => by simp

inductive ORel (γ : Gam) (W : World) (g : GI) : AObj → Prop
 | cells {c : List Value} {elem : TypeId} {fam sz : Nat} {cc : Array Value} {fr : Nat × Nat} (h : W.heap[g.blk]? = some (.cells cc elem fr)) (hf : free fr cc.size) (hn : cc.size = g.n) (hz : g.sz = sz) (hc : CellsRel γ g.off c cc) :
   ORel γ W g (.cells c elem fam sz)
 | map {es : List MapEntry} {es' : Array MapEntry} {clock : Nat} (h : W.heap[g.blk]? = some (.map es' clock)) (he : EsRel γ es es'.toList) : ORel γ W g (.map es clock)
 | loop {st : LoopState} {pend : Option Code} {m n d : Nat} {en : En} {params : Array Tmp} {assign body : Code} {r : Loop} {gd : GI} (h : W.heap[g.blk]? = some (.loop r))
   (h1 : r.state = st) (h2 : r.pending = pend) (h3 : TRel γ m en r.tmps) (h4 : r.tmps.size = n) (h5 : r.params = params) (h6 : r.assign = assign) (h7 : r.body = body) (h8 : γ d = some gd) (h9 : r.defers = gd.blk) :
   ORel γ W g (.loop st pend m en n params assign body d)
 | defd (h : W.heap[g.blk]? = some (.deferred (some []))) : ORel γ W g .defd
 | siter {s : ByteArray} {pos : Nat} (h0 : g.off = 0) (h : W.heap[g.blk]? = some (.stringIter s pos)) : ORel γ W g (.siter s pos)
 | miter {m since last : Nat} {seen : List Nat} {gm : GI} (h0 : g.off = 0) (hm : γ m = some gm) (h : W.heap[g.blk]? = some (.mapIter (some gm.blk) since seen.toArray last)) : ORel γ W g (.miter m since seen last)

theorem ORel.mono {γ γ' : Gam} (hle : γ.le γ') {W W' : World} {g : GI} {o : AObj} (h : ORel γ W g o) (hw : W'.heap[g.blk]? = W.heap[g.blk]?) : ORel γ' W' g o := by
 cases h with
 | cells h hf hn hz hc => exact .cells (hw.trans h) hf hn hz (hc.mono hle)
 | map h he => exact .map (hw.trans h) (he.mono hle)
 | siter h0 h => exact .siter h0 (hw.trans h)
 | miter h0 hm h => exact .miter h0 (hle _ _ hm) (hw.trans h)
 | loop h h1 h2 h3 h4 h5 h6 h7 h8 h9 => exact .loop (hw.trans h) h1 h2 (h3.mono hle) h4 h5 h6 h7 (hle _ _ h8) h9
 | defd h => exact .defd (hw.trans h)

structure WRel (γ : Gam) (A : AW) (W : World) : Prop where
 obj : ∀ i o, A.heap.get i = some o → ∃ g, γ i = some g ∧ ORel γ W g o
 lt : ∀ i g, γ i = some g → g.blk < W.heap.size
 fresh : ∀ i, A.next ≤ i → γ i = none
 sep : ∀ i j o o' g g', A.heap.get i = some o → A.heap.get j = some o' → γ i = some g → γ j = some g' → g.blk = g'.blk →
  i = j ∨ ∃ c e c' e' fam sz sz', o = .cells c e fam sz ∧ o' = .cells c' e' fam sz' ∧ g.off = g'.off
 mem : ∀ i c e fam sz, A.heap.get i = some (.cells c e fam sz) → i ∈ A.members fam
 famlt : ∀ i c e fam sz, A.heap.get i = some (.cells c e fam sz) → fam < A.next
 famfresh : ∀ f, A.next ≤ f → A.fams.get f = none

structure Ext (γ : Gam) (W : World) (γ' : Gam) (W' : World) : Prop where
 le : γ.le γ'
 new : ∀ i g, γ' i = some g → γ i = some g ∨ (γ i = none ∧ (W.heap.size ≤ g.blk ∨ ∃ j h, γ j = some h ∧ h.blk = g.blk))
 size : W.heap.size ≤ W'.heap.size
 block : ∀ b, b < W.heap.size → (∀ i g, γ i = some g → g.blk ≠ b) → W'.heap[b]? = W.heap[b]?
 os : W'.os = W.os
 tape : W'.tape = W.tape
 output : W'.output = W.output
 drawn : W.drawn ≤ W'.drawn

theorem Ext.refl (γ : Gam) (W : World) : Ext γ W γ W := ⟨γ.le_refl, fun _ _ h => .inl h, Nat.le_refl _, fun _ _ _ => rfl, rfl, rfl, rfl, Nat.le_refl _⟩

theorem Ext.trans {γ γ' γ'' : Gam} {W W' W'' : World} (h : Ext γ W γ' W') (k : Ext γ' W' γ'' W'') : Ext γ W γ'' W'' where
 le := Gam.le_trans h.le k.le
 new := fun i g hi => by
  have from' : ∀ j x, γ' j = some x → W.heap.size ≤ x.blk ∨ ∃ j' y, γ j' = some y ∧ y.blk = x.blk := fun j x hj => by
   rcases h.new j x hj with hj | ⟨_, hj⟩
   ·exact .inr ⟨j, x, hj, rfl⟩
   ·exact hj
  rcases k.new i g hi with hi' | ⟨hn, hb⟩
  ·exact h.new i g hi'
  ·have hnone : γ i = none := by
    cases hγ : γ i with
    | none => rfl
    | some x => rw [h.le i x hγ] at hn; cases hn
   refine .inr ⟨hnone, ?_⟩
   rcases hb with hb | ⟨j, x, hj, hx⟩
   ·exact .inl (Nat.le_trans h.size hb)
   ·rw [← hx]; exact from' j x hj
 size := Nat.le_trans h.size k.size
 drawn := Nat.le_trans h.drawn k.drawn
 block := fun b hb hno => by
  rw [k.block b (Nat.lt_of_lt_of_le hb h.size) fun i g hi => ?_, h.block b hb hno]
  rcases h.new i g hi with hi' | ⟨_, hi' | ⟨j, x, hj, hx⟩⟩
  ·exact hno i g hi'
  ·omega
  ·rw [← hx]; exact hno j x hj
 os := k.os.trans h.os
 tape := k.tape.trans h.tape
 output := k.output.trans h.output

end Go.Ev
