/- New blocks, stores and growth keep the two worlds in relation. No program. -/
import Derived.Test.YtdalaifnhppidaaDoorEvMem
namespace Go.Ev
open Go

def Gam.set (γ : Gam) (i : Nat) (g : GI) : Gam := fun j => match Nat.beq j i with | true => some g | false => γ j

theorem Gam.set_same (γ : Gam) (i : Nat) (g : GI) : γ.set i g i = some g := by simp [Gam.set]
theorem Gam.set_other (γ : Gam) {i j : Nat} (g : GI) (h : j ≠ i) : γ.set i g j = γ j := by
 have : Nat.beq j i = false := by
  cases hb : Nat.beq j i with
  | false => rfl
  | true => exact absurd (Nat.eq_of_beq_eq_true hb) h
 simp only [Gam.set, this]
theorem Gam.le_set {γ : Gam} {i : Nat} (g : GI) (h : γ i = none) : γ.le (γ.set i g) := fun j x hx => by
 rw [Gam.set_other γ g (fun e => by subst e; rw [h] at hx; cases hx)]; exact hx
theorem Gam.set_cases {γ : Gam} {i j : Nat} {g x : GI} (h : γ.set i g j = some x) : (j = i ∧ x = g) ∨ (j ≠ i ∧ γ j = some x) := by
 by_cases hj : j = i
 ·subst hj; rw [Gam.set_same] at h; exact .inl ⟨rfl, (Option.some.inj h).symm⟩
 ·rw [Gam.set_other γ g hj] at h; exact .inr ⟨hj, h⟩

def AW.new (A : AW) (o : AObj) : AW := { next := Nat.succ A.next, heap := A.heap.put A.next (some o), fams := A.fams }

theorem heap_alloc_old {W : World} {o : Obj} {b : Nat} (h : b < W.heap.size) : (W.alloc o).heap[b]? = W.heap[b]? := by
 show (W.heap.push o)[b]? = _
 rw [Array.getElem?_push, if_neg (by omega)]
theorem heap_alloc_new (W : World) (o : Obj) : (W.alloc o).heap[W.heap.size]? = some o := by
 show (W.heap.push o)[W.heap.size]? = _
 simp

theorem AW.members_next {A : AW} (hf : ∀ f, A.next ≤ f → A.fams.get f = none) {f : Nat} (h : A.next ≤ f) : A.members f = [f] := by
 simp [AW.members, hf f h]

theorem WRel.alloc {γ : Gam} {A : AW} {W : World} (h : WRel γ A W) (o : AObj) (O : Obj) (n z : Nat)
  (ho : ORel (γ.set A.next (gi W.heap.size n z)) (W.alloc O) (gi W.heap.size n z) o)
  (hfam : ∀ c e fam sz, o = .cells c e fam sz → fam = A.next) :
  WRel (γ.set A.next (gi W.heap.size n z)) (A.new o) (W.alloc O) ∧ Ext γ W (γ.set A.next (gi W.heap.size n z)) (W.alloc O) := by
 have hnone : γ A.next = none := h.fresh _ (Nat.le_refl _)
 have hle : γ.le (γ.set A.next (gi W.heap.size n z)) := Gam.le_set _ hnone
 have hget : ∀ j, (A.new o).heap.get j = if j = A.next then some o else A.heap.get j := fun j => by simp [AW.new, Tr.get_put]
 have hlow : ∀ j x, A.heap.get j = some x → j ≠ A.next := fun j x hj e => by
  obtain ⟨g, hg, _⟩ := h.obj j x hj
  rw [e, hnone] at hg
  cases hg
 have hmem : ∀ f, (A.new o).members f = A.members f := fun f => rfl
 refine ⟨⟨?_, ?_, ?_, ?_, ?_, ?_, ?_⟩, ⟨hle, ?_, by simp, fun b hb _ => heap_alloc_old hb, rfl, rfl, rfl, Nat.le_refl _⟩⟩
 ·intro i x hi
  rw [hget] at hi
  by_cases hin : i = A.next
  ·rw [if_pos hin] at hi
   cases hi
   exact ⟨_, by rw [hin]; exact Gam.set_same _ _ _, ho⟩
  ·rw [if_neg hin] at hi
   obtain ⟨g, hg, hr⟩ := h.obj i x hi
   exact ⟨g, hle _ _ hg, hr.mono hle (heap_alloc_old (h.lt _ _ hg))⟩
 ·intro i g hi
  rcases Gam.set_cases hi with ⟨_, rfl⟩ | ⟨_, hi⟩
  ·simp
  ·have := h.lt _ _ hi
   simp
   omega
 ·intro i hi
  have hne : i ≠ A.next := by simp [AW.new] at hi; omega
  rw [Gam.set_other _ _ hne]
  exact h.fresh i (by simp [AW.new] at hi; omega)
 ·intro i j x y g g' hi hj hgi hgj hb
  rw [hget] at hi hj
  rcases Gam.set_cases hgi with ⟨hi', rfl⟩ | ⟨hi', hgi'⟩ <;> rcases Gam.set_cases hgj with ⟨hj', rfl⟩ | ⟨hj', hgj'⟩
  ·exact .inl (hi'.trans hj'.symm)
  ·have := h.lt _ _ hgj'
   simp at hb
   omega
  ·have := h.lt _ _ hgi'
   simp at hb
   omega
  ·rw [if_neg hi'] at hi
   rw [if_neg hj'] at hj
   exact h.sep i j x y g g' hi hj hgi' hgj' hb
 ·intro i c e fam sz hi
  rw [hget] at hi
  rw [hmem]
  by_cases hin : i = A.next
  ·rw [if_pos hin] at hi
   cases hi
   rw [hfam _ _ _ _ rfl, AW.members_next h.famfresh (Nat.le_refl _), hin]
   simp
  ·rw [if_neg hin] at hi
   exact h.mem i c e fam sz hi
 ·intro i c e fam sz hi
  rw [hget] at hi
  by_cases hin : i = A.next
  ·rw [if_pos hin] at hi
   cases hi
   rw [hfam _ _ _ _ rfl]
   simp [AW.new]
  ·rw [if_neg hin] at hi
   have := h.famlt i c e fam sz hi
   simp [AW.new]
   omega
 ·intro f hf
  exact h.famfresh f (by simp [AW.new] at hf; omega)
 ·intro i g hi
  rcases Gam.set_cases hi with ⟨hi', rfl⟩ | ⟨_, hi'⟩
  ·exact .inr ⟨by rw [hi']; exact hnone, .inl (Nat.le_refl _)⟩
  ·exact .inl hi'

theorem WRel.alloc_cells {γ : Gam} {A : AW} {W : World} (h : WRel γ A W) (c : List Value) (cc : Array Value) (e sz : Nat) (hc : VsRel γ c cc.toList) :
  WRel (γ.set A.next (gi W.heap.size cc.size sz)) (A.new (.cells c e A.next sz)) (W.alloc (.cells cc e)) ∧
   Ext γ W (γ.set A.next (gi W.heap.size cc.size sz)) (W.alloc (.cells cc e)) := by
 refine h.alloc _ _ _ _ (.cells (heap_alloc_new _ _) (free_zero _) rfl rfl fun k v hk => ?_) (fun _ _ _ _ he => by cases he; rfl)
 obtain ⟨v', hv', hr⟩ := (hc.mono (Gam.le_set _ (h.fresh _ (Nat.le_refl _)))).get hk
 exact ⟨v', by simpa using hv', hr⟩

theorem WRel.drew {γ : Gam} {A : AW} {W : World} (h : WRel γ A W) : WRel γ A W.drew :=
 ⟨fun i o hi => let ⟨g, hg, hr⟩ := h.obj i o hi; ⟨g, hg, hr.mono γ.le_refl rfl⟩, h.lt, h.fresh, h.sep, h.mem, h.famlt, h.famfresh⟩

theorem Ext.drew (γ : Gam) (W : World) : Ext γ W γ W.drew := ⟨γ.le_refl, fun _ _ h => .inl h, Nat.le_refl _, fun _ _ _ => rfl, rfl, rfl, rfl, Nat.le_succ _⟩

theorem Ext.setB {γ : Gam} {W : World} {i : Nat} {g : GI} (o : Obj) (h : γ i = some g) : Ext γ W γ (setB W g.blk o) :=
 ⟨γ.le_refl, fun _ _ h => .inl h, by simp [setB_size], fun b _ hno => setB_other o (fun e => hno i g h e.symm), rfl, rfl, rfl, Nat.le_refl _⟩

theorem WRel.setObj {γ : Gam} {A : AW} {W : World} (h : WRel γ A W) {i : Nat} {x x' : AObj} {g : GI} {O : Obj} (hi : A.heap.get i = some x) (hg : γ i = some g)
  (hx : ∀ c e f z, x ≠ .cells c e f z) (hx' : ∀ c e f z, x' ≠ .cells c e f z) (ho : ORel γ (Go.Ev.setB W g.blk O) g x') :
  WRel γ { A with heap := A.heap.put i (some x') } (Go.Ev.setB W g.blk O) := by
 have hget : ∀ j, (A.heap.put i (some x')).get j = if j = i then some x' else A.heap.get j := fun j => Tr.get_put _ _ _ _
 have hback : ∀ j y, (A.heap.put i (some x')).get j = some y → ∃ y₀, A.heap.get j = some y₀ ∧ ((∀ c e f z, y ≠ .cells c e f z) ∧ (∀ c e f z, y₀ ≠ .cells c e f z) ∨ y = y₀) := fun j y hj => by
  rw [hget] at hj
  by_cases hji : j = i
  ·rw [if_pos hji] at hj; cases hj; rw [hji]; exact ⟨x, hi, .inl ⟨hx', hx⟩⟩
  ·rw [if_neg hji] at hj; exact ⟨y, hj, .inr rfl⟩
 refine ⟨?_, fun j g' hj => by rw [setB_size]; exact h.lt j g' hj, h.fresh, ?_, ?_, ?_, h.famfresh⟩
 ·intro j y hj
  rw [hget] at hj
  by_cases hji : j = i
  ·rw [if_pos hji] at hj; cases hj; exact ⟨g, by rw [hji]; exact hg, ho⟩
  ·rw [if_neg hji] at hj
   obtain ⟨g', hg', hr⟩ := h.obj j y hj
   refine ⟨g', hg', hr.mono γ.le_refl (setB_other _ fun e => ?_)⟩
   rcases h.sep j i y x g' g hj hi hg' hg e with he | ⟨_, _, _, _, _, _, _, _, he, _⟩
   ·exact hji he
   ·exact hx _ _ _ _ he
 ·intro j k y z gj gk hj hk hgj hgk hb
  obtain ⟨y₀, hy₀, hy⟩ := hback j y hj
  obtain ⟨z₀, hz₀, hz⟩ := hback k z hk
  rcases h.sep j k y₀ z₀ gj gk hy₀ hz₀ hgj hgk hb with he | ⟨c, e, c', e', f, s, s', h1, h2, h3⟩
  ·exact .inl he
  ·rcases hy with ⟨_, hy⟩ | rfl
   ·exact absurd h1 (hy _ _ _ _)
   ·rcases hz with ⟨_, hz⟩ | rfl
    ·exact absurd h2 (hz _ _ _ _)
    ·exact .inr ⟨c, e, c', e', f, s, s', h1, h2, h3⟩
 ·intro j c e f z hj
  obtain ⟨y₀, hy₀, ⟨hy, _⟩ | rfl⟩ := hback j _ hj
  ·exact absurd rfl (hy _ _ _ _)
  ·exact h.mem j c e f z hy₀
 ·intro j c e f z hj
  obtain ⟨y₀, hy₀, ⟨hy, _⟩ | rfl⟩ := hback j _ hj
  ·exact absurd rfl (hy _ _ _ _)
  ·exact h.famlt j c e f z hy₀

def AW.only (A : AW) (f i : Nat) (o : AObj) : AW :=
 match A.members f with
 | [_] => { A with heap := A.heap.put i (some o) }
 | l => { A with heap := (A.heap.strike l).put i (some o), fams := A.fams.put f (some [i]) }

theorem AW.only_next (A : AW) (f i : Nat) (o : AObj) : (A.only f i o).next = A.next := by unfold AW.only; split <;> rfl

theorem AW.only_get (A : AW) {f i : Nat} (o : AObj) (hi : i ∈ A.members f) (j : Nat) :
  (A.only f i o).heap.get j = if j = i then some o else if j ∈ A.members f then none else A.heap.get j := by
 unfold AW.only
 split
 ·rename_i x hx
  rw [hx] at hi ⊢
  simp only [List.mem_singleton] at hi ⊢
  subst hi
  rw [Tr.get_put]
  by_cases hj : j = i <;> simp [hj]
 ·rw [Tr.get_put, Tr.get_strike]

theorem AW.only_members (A : AW) {f i : Nat} (o : AObj) (hi : i ∈ A.members f) (k : Nat) : (A.only f i o).members k = if k = f then [i] else A.members k := by
 unfold AW.only
 split
 ·rename_i x hx
  rw [hx] at hi
  simp only [List.mem_singleton] at hi
  subst hi
  show A.members k = _
  by_cases hk : k = f
  ·rw [if_pos hk, hk, hx]
  ·rw [if_neg hk]
 ·simp only [AW.members, Tr.get_put]
  by_cases hk : k = f <;> simp [hk]

theorem AW.only_fams (A : AW) {f i : Nat} (o : AObj) {k : Nat} (hk : k ≠ f) : (A.only f i o).fams.get k = A.fams.get k := by
 unfold AW.only
 split
 ·rfl
 ·exact Tr.get_put_other _ _ _ hk

theorem WRel.setRow {γ : Gam} {A : AW} {W : World} (h : WRel γ A W) {i : Nat} {c c' : List Value} {e e' f z : Nat} {g : GI} {O : Obj} (hi : A.heap.get i = some (.cells c e f z)) (hg : γ i = some g)
  (ho : ORel γ (setB W g.blk O) g (.cells c' e' f z)) : WRel γ (A.only f i (.cells c' e' f z)) (Go.Ev.setB W g.blk O) := by
 have hm := h.mem _ _ _ _ _ hi
 have hget := A.only_get (.cells c' e' f z) hm
 have hback : ∀ j y, (A.only f i (.cells c' e' f z)).heap.get j = some y → (j = i ∧ y = .cells c' e' f z) ∨ (j ≠ i ∧ A.heap.get j = some y ∧ j ∉ A.members f) := fun j y hj => by
  rw [hget] at hj
  by_cases hji : j = i
  ·rw [if_pos hji] at hj; cases hj; exact .inl ⟨hji, rfl⟩
  ·rw [if_neg hji] at hj
   by_cases hjm : j ∈ A.members f
   ·rw [if_pos hjm] at hj; cases hj
   ·rw [if_neg hjm] at hj; exact .inr ⟨hji, hj, hjm⟩
 refine ⟨?_, fun j g' hj => by rw [setB_size]; exact h.lt j g' hj, fun j hj => h.fresh j (by rwa [AW.only_next] at hj), ?_, ?_, ?_, ?_⟩
 ·intro j y hj
  rcases hback j y hj with ⟨rfl, rfl⟩ | ⟨hji, hy, hjm⟩
  ·exact ⟨g, hg, ho⟩
  ·obtain ⟨g', hg', hr⟩ := h.obj j y hy
   refine ⟨g', hg', hr.mono γ.le_refl (setB_other _ fun e1 => ?_)⟩
   rcases h.sep j i y _ g' g hy hi hg' hg e1 with he | ⟨_, _, _, _, _, _, _, he, he', _⟩
   ·exact hji he
   ·cases he'; subst he; exact hjm (h.mem _ _ _ _ _ hy)
 ·intro j k y y' gj gk hj hk hgj hgk hb
  rcases hback j y hj with ⟨rfl, rfl⟩ | ⟨hji, hy, hjm⟩ <;> rcases hback k y' hk with ⟨rfl, rfl⟩ | ⟨hki, hy', hkm⟩
  ·exact .inl rfl
  ·rcases h.sep _ _ _ _ _ _ hi hy' hgj hgk hb with he | ⟨_, _, _, _, _, _, _, he, he', _⟩
   ·exact .inl he
   ·cases he; subst he'; exact absurd (h.mem _ _ _ _ _ hy') hkm
  ·rcases h.sep _ _ _ _ _ _ hy hi hgj hgk hb with he | ⟨_, _, _, _, _, _, _, he, he', _⟩
   ·exact .inl he
   ·cases he'; subst he; exact absurd (h.mem _ _ _ _ _ hy) hjm
  ·exact h.sep _ _ _ _ _ _ hy hy' hgj hgk hb
 ·intro j c₁ e₁ f₁ z₁ hj
  rw [A.only_members _ hm]
  rcases hback j _ hj with ⟨rfl, hc⟩ | ⟨hji, hy, hjm⟩
  ·cases hc; simp
  ·have := h.mem _ _ _ _ _ hy
   by_cases hf : f₁ = f
   ·subst hf; exact absurd this hjm
   ·rw [if_neg hf]; exact this
 ·intro j c₁ e₁ f₁ z₁ hj
  rw [AW.only_next]
  rcases hback j _ hj with ⟨rfl, hc⟩ | ⟨hji, hy, hjm⟩
  ·cases hc; exact h.famlt _ _ _ _ _ hi
  ·exact h.famlt _ _ _ _ _ hy
 ·intro k hk
  rw [AW.only_next] at hk
  have := h.famlt _ _ _ _ _ hi
  rw [A.only_fams _ (by omega)]
  exact h.famfresh k hk

def AW.store (A : AW) (i k : Nat) (vs : List Value) : Option AW :=
 match A.heap.get i with
 | some (.cells c e f z) => match ones vs with
  | true => match setAt c k vs with
   | some c' => some (A.only f i (.cells c' e f z))
   | none => none
  | false => none
 | _ => none

theorem store_rel {P : Program} {γ : Gam} {A A' : AW} {W : World} (h : WRel γ A W) {i k : Nat} {vs vs' : List Value} (hs : A.store i k vs = some A') (hv : VsRel γ vs vs') :
  ∃ g W', γ i = some g ∧ (storeCells ⟨g.blk, g.off + k, none⟩ vs').run P W = .ok () W' ∧ WRel γ A' W' ∧ Ext γ W γ W' := by
 unfold AW.store at hs
 split at hs
 ·rename_i c e f z hi
  split at hs
  ·rename_i h1
   split at hs
   ·rename_i c' hc'
    cases hs
    obtain ⟨g, hg, ho⟩ := h.obj _ _ hi
    cases ho with
    | cells hb hf hn hz hc =>
     rename_i cc fr
     obtain ⟨hl, hfit, hset⟩ := setAt_spec _ _ _ _ hc'
     have hlen := hv.length
     by_cases hnil : vs = []
     ·subst hnil
      cases hv
      have hcc : c' = c := by simp [setAt] at hc'; exact hc'.symm
      subst hcc
      refine ⟨g, W, hg, rfl, ?_, Ext.refl _ _⟩
      have := h.setRow (O := .cells cc e fr) hi hg (c' := c') (e' := e) (by rw [setB_eq hb]; exact .cells hb hf hn hz hc)
      rwa [setB_eq hb] at this
     ·have hfit' : k + vs.length ≤ c.length := hfit.resolve_left hnil
      have hcl : g.off + c.length ≤ cc.size := by
       by_cases h0 : c.length = 0
       ·have := List.length_pos_iff.2 hnil; omega
       ·obtain ⟨v', hv', _⟩ := hc (c.length - 1) (c[c.length - 1]'(by omega)) (List.getElem?_eq_getElem (by omega))
        have := (Array.getElem?_eq_some_iff.1 hv').1
        omega
      obtain ⟨cc', hrun, hsz, hget⟩ := run_store_row (P := P) (e := e) vs' 0 W g.blk (g.off + k) cc hb hf (by omega) (ones_rel hv h1)
      refine ⟨g, _, hg, hrun, ?_, Ext.setB _ hg⟩
      refine h.setRow hi hg (.cells (setB_same _ (lt_of_heap hb)) (by rw [hsz]; exact hf) (hsz.trans hn) hz fun j v hj => ?_)
      rw [hset j] at hj
      rw [hget (g.off + j)]
      by_cases hin : k ≤ j ∧ j < k + vs.length
      ·rw [if_pos hin] at hj
       rw [if_pos (by omega), show g.off + j - (g.off + k + 0) = j - k by omega]
       simpa using hv.get hj
      ·rw [if_neg hin] at hj
       rw [if_neg (by omega)]
       exact hc j v hj
   ·cases hs
  ·cases hs
 ·cases hs

end Go.Ev
