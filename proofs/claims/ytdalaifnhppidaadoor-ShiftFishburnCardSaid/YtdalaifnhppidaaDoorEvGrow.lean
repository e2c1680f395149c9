/- append: within the capacity, or into a new row, or in an order that is not known. -/
import Derived.Test.YtdalaifnhppidaaDoorEvHeap
import Derived.Laws.Append
namespace Go.Ev
open Go

def AW.short (A : AW) (n m : Nat) : Bool :=
 match A.heap.get m with
 | some (.cells c _ _ _) => Nat.ble c.length n
 | _ => false

def AW.keep (A : AW) (q : Bool) (f n : Nat) : List Nat :=
 match q with
 | true => []
 | false => ((A.members f).filter (A.short n)).take 4

def AW.grow (A : AW) (q : Bool) (f n : Nat) (o : AObj) : AW :=
 { next := Nat.succ A.next, heap := (A.heap.strike ((A.members f).filter fun m => !(A.keep q f n).contains m)).put A.next (some o), fams := A.fams.put f (some (A.next :: A.keep q f n)) }

theorem AW.grow_get (A : AW) (q : Bool) (f n : Nat) (o : AObj) (j : Nat) :
  (A.grow q f n o).heap.get j = if j = A.next then some o else if j ∈ A.members f ∧ j ∉ A.keep q f n then none else A.heap.get j := by
 simp only [AW.grow, Tr.get_put, Tr.get_strike, List.mem_filter]
 by_cases h1 : j = A.next
 ·simp [h1]
 ·simp [h1]

theorem AW.grow_members (A : AW) (q : Bool) (f n : Nat) (o : AObj) (k : Nat) : (A.grow q f n o).members k = if k = f then A.next :: A.keep q f n else A.members k := by
 simp only [AW.members, AW.grow, Tr.get_put]
 by_cases hk : k = f <;> simp [hk]

theorem AW.keep_short {A : AW} {q : Bool} {f n j : Nat} (h : j ∈ A.keep q f n) : ∃ c e g z, A.heap.get j = some (.cells c e g z) ∧ c.length ≤ n := by
 cases q
 case true => simp [AW.keep] at h
 have h1 := (List.mem_filter.1 (List.mem_of_mem_take h)).2
 unfold AW.short at h1
 split at h1
 ·rename_i c e g z hj
  exact ⟨c, e, g, z, hj, Nat.le_of_ble_eq_true h1⟩
 ·cases h1

section
variable {γ : Gam} {A : AW} {q : Bool} {W : World} {i : Nat} {c c' : List Value} {e e' f n z : Nat} {g : GI}

theorem grow_back (A : AW) (q : Bool) (f n : Nat) (o : AObj) {j : Nat} {y : AObj} (hj : (A.grow q f n o).heap.get j = some y) :
  (j = A.next ∧ y = o) ∨ (j ≠ A.next ∧ A.heap.get j = some y ∧ (j ∈ A.members f → j ∈ A.keep q f n)) := by
 rw [A.grow_get] at hj
 by_cases h1 : j = A.next
 ·rw [if_pos h1] at hj; cases hj; exact .inl ⟨h1, rfl⟩
 ·rw [if_neg h1] at hj
  by_cases h2 : j ∈ A.members f ∧ j ∉ A.keep q f n
  ·rw [if_pos h2] at hj; cases hj
  ·rw [if_neg h2] at hj
   refine .inr ⟨h1, hj, fun hm => ?_⟩
   by_cases hk : j ∈ A.keep q f n
   ·exact hk
   ·exact absurd ⟨hm, hk⟩ h2

theorem grow_mem (h : WRel γ A W) (hi : A.heap.get i = some (.cells c e f z)) (j : Nat) (c₁ : List Value) (e₁ f₁ z₁ : Nat)
  (hj : (A.grow q f n (.cells c' e' f z)).heap.get j = some (.cells c₁ e₁ f₁ z₁)) :
  j ∈ (A.grow q f n (.cells c' e' f z)).members f₁ ∧ f₁ < (A.grow q f n (.cells c' e' f z)).next := by
 rw [A.grow_members]
 have hf := h.famlt _ _ _ _ _ hi
 rcases grow_back _ _ _ _ _ hj with ⟨rfl, hc⟩ | ⟨hne, hy, hk⟩
 ·cases hc; simp [AW.grow]; omega
 ·have hm := h.mem _ _ _ _ _ hy
  have hl := h.famlt _ _ _ _ _ hy
  refine ⟨?_, by simp [AW.grow]; omega⟩
  by_cases hff : f₁ = f
  ·subst hff; rw [if_pos rfl]; exact List.mem_cons.2 (.inr (hk hm))
  ·rw [if_neg hff]; exact hm

theorem grow_famfresh (h : WRel γ A W) (hi : A.heap.get i = some (.cells c e f z)) (k : Nat) (hk : (A.grow q f n (.cells c' e' f z)).next ≤ k) : (A.grow q f n (.cells c' e' f z)).fams.get k = none := by
 have hf := h.famlt _ _ _ _ _ hi
 simp only [AW.grow] at hk ⊢
 rw [Tr.get_put_other _ _ _ (by omega)]
 exact h.famfresh k (by omega)

def GI.at (g : GI) (x : Nat) (h : x % g.sz = 0) : GI := ⟨g.blk, g.n, g.sz, g.off + x, by rw [Nat.add_mod, g.al, h]; rfl⟩

theorem WRel.grow_in (h : WRel γ A W) (hi : A.heap.get i = some (.cells c e f z)) (hg : γ i = some g) {cc cc' : Array Value} {fr : Nat × Nat} (hb : W.heap[g.blk]? = some (.cells cc e fr))
  (hsz : cc'.size = cc.size) {x : Nat} (hx : x % g.sz = 0) (hq : q = true ∨ x = 0) (hsame : ∀ j, j < g.off + n → cc'[j]? = cc[j]?)
  (ho : ORel (γ.set A.next (g.at x hx)) (setB W g.blk (.cells cc' e fr)) (g.at x hx) (.cells c' e' f z)) :
  WRel (γ.set A.next (g.at x hx)) (A.grow q f n (.cells c' e' f z)) (setB W g.blk (.cells cc' e fr)) ∧ Ext γ W (γ.set A.next (g.at x hx)) (setB W g.blk (.cells cc' e fr)) := by
 have hnone : γ A.next = none := h.fresh _ (Nat.le_refl _)
 have hle : γ.le (γ.set A.next (g.at x hx)) := Gam.le_set _ hnone
 have hne : ∀ j x, γ j = some x → j ≠ A.next := fun j x hj e1 => by rw [e1, hnone] at hj; cases hj
 have hkept : ∀ j y g', A.heap.get j = some y → γ j = some g' → g'.blk = g.blk → (j ∈ A.members f → j ∈ A.keep q f n) → x = 0 ∧ g'.off = g.off ∧ ∃ c₁ e₁ z₁, y = .cells c₁ e₁ f z₁ ∧ c₁.length ≤ n := fun j y g' hy hg' hbk hk => by
  have hcell : g'.off = g.off ∧ ∃ c₁ e₁ z₁, y = .cells c₁ e₁ f z₁ := by
   rcases h.sep j i y _ g' g hy hi hg' hg hbk with he | ⟨c₁, e₁, _, _, f₁, z₁, _, he, he', hoff⟩
   ·subst he; rw [hi] at hy; cases hy; rw [hg] at hg'; cases hg'; exact ⟨rfl, _, _, _, rfl⟩
   ·cases he'; exact ⟨hoff, c₁, e₁, z₁, he⟩
  obtain ⟨hoff, c₁, e₁, z₁, rfl⟩ := hcell
  have hin := hk (h.mem _ _ _ _ _ hy)
  obtain ⟨c₂, e₂, f₂, z₂, hj2, hlen⟩ := AW.keep_short hin
  rw [hy] at hj2
  cases hj2
  refine ⟨?_, hoff, _, _, _, rfl, hlen⟩
  rcases hq with hq | hq
  ·rw [hq] at hin; simp [AW.keep] at hin
  ·exact hq
 refine ⟨⟨?_, ?_, ?_, ?_, fun j c₁ e₁ f₁ z₁ hj => (grow_mem h hi j c₁ e₁ f₁ z₁ hj).1, fun j c₁ e₁ f₁ z₁ hj => (grow_mem h hi j c₁ e₁ f₁ z₁ hj).2, fun k hk => grow_famfresh h hi k hk⟩, ⟨hle, ?_, by simp [setB_size], ?_, rfl, rfl, rfl, Nat.le_refl _⟩⟩
 ·intro j y hj
  rcases grow_back _ _ _ _ _ hj with ⟨rfl, rfl⟩ | ⟨hjn, hy, hk⟩
  ·exact ⟨g.at x hx, Gam.set_same _ _ _, ho⟩
  ·obtain ⟨g', hg', hr⟩ := h.obj j y hy
   refine ⟨g', hle _ _ hg', ?_⟩
   by_cases hbk : g'.blk = g.blk
   ·obtain ⟨_, hoff, c₁, e₁, z₁, rfl, hlen⟩ := hkept j y g' hy hg' hbk hk
    cases hr with
    | cells hb' hf' hn' hz' hc' =>
     rename_i cc₁ fr₁
     rw [hbk, hb] at hb'
     cases hb'
     refine .cells (cc := cc') ?_ (by rw [hsz]; exact hf') (hsz.trans hn') hz' fun k v hkv => ?_
     ·rw [hbk]; exact setB_same _ (lt_of_heap hb)
     ·have hkl : k < c₁.length := (List.getElem?_eq_some_iff.1 hkv).1
      rw [hsame (g'.off + k) (by omega)]
      obtain ⟨v', h1, h2⟩ := hc' k v hkv
      exact ⟨v', h1, h2.mono hle⟩
   ·exact hr.mono hle (setB_other _ hbk)
 ·intro j x hj
  rw [setB_size]
  rcases Gam.set_cases hj with ⟨_, rfl⟩ | ⟨_, hj⟩
  ·exact h.lt _ g hg
  ·exact h.lt _ _ hj
 ·intro j hj
  have : A.next < j := by simp [AW.grow] at hj; omega
  rw [Gam.set_other _ _ (by omega)]
  exact h.fresh j (by omega)
 ·intro j k y y' gj gk hj hk hgj hgk hbk
  rcases grow_back _ _ _ _ _ hj with ⟨rfl, rfl⟩ | ⟨hjn, hy, hkj⟩ <;> rcases grow_back _ _ _ _ _ hk with ⟨rfl, rfl⟩ | ⟨hkn, hy', hkk⟩
  ·exact .inl rfl
  ·rw [Gam.set_same] at hgj; cases hgj
   rw [Gam.set_other _ _ hkn] at hgk
   obtain ⟨hx0, hoff, c₁, e₁, z₁, rfl, _⟩ := hkept _ _ _ hy' hgk hbk.symm hkk
   exact .inr ⟨_, _, _, _, _, _, _, rfl, rfl, by show _ = _; simp [GI.at, hx0, hoff]⟩
  ·rw [Gam.set_same] at hgk; cases hgk
   rw [Gam.set_other _ _ hjn] at hgj
   obtain ⟨hx0, hoff, c₁, e₁, z₁, rfl, _⟩ := hkept _ _ _ hy hgj hbk hkj
   exact .inr ⟨_, _, _, _, _, _, _, rfl, rfl, by show _ = _; simp [GI.at, hx0, hoff]⟩
  ·rw [Gam.set_other _ _ hjn] at hgj
   rw [Gam.set_other _ _ hkn] at hgk
   exact h.sep _ _ _ _ _ _ hy hy' hgj hgk hbk
 ·intro j x hj
  rcases Gam.set_cases hj with ⟨hj', rfl⟩ | ⟨_, hj'⟩
  ·exact .inr ⟨by rw [hj']; exact hnone, .inr ⟨i, g, hg, rfl⟩⟩
  ·exact .inl hj'
 ·intro b _ hno
  exact setB_other _ fun e1 => hno i g hg e1.symm

theorem WRel.grow_new (h : WRel γ A W) (hi : A.heap.get i = some (.cells c e f z)) (cc : Array Value) (hc : VsRel γ c' (cc.toList.take c'.length)) :
  WRel (γ.set A.next (gi W.heap.size cc.size z)) (A.grow q f n (.cells c' e' f z)) (W.alloc (.cells cc e')) ∧ Ext γ W (γ.set A.next (gi W.heap.size cc.size z)) (W.alloc (.cells cc e')) := by
 have hnone : γ A.next = none := h.fresh _ (Nat.le_refl _)
 have hle : γ.le (γ.set A.next (gi W.heap.size cc.size z)) := Gam.le_set _ hnone
 refine ⟨⟨?_, ?_, ?_, ?_, fun j c₁ e₁ f₁ z₁ hj => (grow_mem h hi j c₁ e₁ f₁ z₁ hj).1, fun j c₁ e₁ f₁ z₁ hj => (grow_mem h hi j c₁ e₁ f₁ z₁ hj).2, fun k hk => grow_famfresh h hi k hk⟩, ⟨hle, ?_, by simp, fun b hb _ => heap_alloc_old hb, rfl, rfl, rfl, Nat.le_refl _⟩⟩
 ·intro j y hj
  rcases grow_back _ _ _ _ _ hj with ⟨rfl, rfl⟩ | ⟨hjn, hy, hk⟩
  ·refine ⟨_, Gam.set_same _ _ _, .cells (heap_alloc_new _ _) (free_zero _) rfl rfl fun k v hk => ?_⟩
   obtain ⟨v', hv', hr⟩ := hc.get hk
   refine ⟨v', ?_, hr.mono hle⟩
   rw [List.getElem?_take] at hv'
   split at hv'
   ·simpa using hv'
   ·cases hv'
  ·obtain ⟨g', hg', hr⟩ := h.obj j y hy
   exact ⟨g', hle _ _ hg', hr.mono hle (heap_alloc_old (h.lt _ _ hg'))⟩
 ·intro j x hj
  rcases Gam.set_cases hj with ⟨_, rfl⟩ | ⟨_, hj⟩
  ·simp
  ·have := h.lt _ _ hj
   simp
   omega
 ·intro j hj
  have : A.next < j := by simp [AW.grow] at hj; omega
  rw [Gam.set_other _ _ (by omega)]
  exact h.fresh j (by omega)
 ·intro j k y y' gj gk hj hk hgj hgk hbk
  rcases grow_back _ _ _ _ _ hj with ⟨rfl, rfl⟩ | ⟨hjn, hy, _⟩ <;> rcases grow_back _ _ _ _ _ hk with ⟨rfl, rfl⟩ | ⟨hkn, hy', _⟩
  ·exact .inl rfl
  ·rw [Gam.set_same] at hgj; cases hgj
   rw [Gam.set_other _ _ hkn] at hgk
   have := h.lt _ _ hgk
   simp at hbk
   omega
  ·rw [Gam.set_same] at hgk; cases hgk
   rw [Gam.set_other _ _ hjn] at hgj
   have := h.lt _ _ hgj
   simp at hbk
   omega
  ·rw [Gam.set_other _ _ hjn] at hgj
   rw [Gam.set_other _ _ hkn] at hgk
   exact h.sep _ _ _ _ _ _ hy hy' hgj hgk hbk
 ·intro j x hj
  rcases Gam.set_cases hj with ⟨hj', rfl⟩ | ⟨_, hj'⟩
  ·exact .inr ⟨by rw [hj']; exact hnone, .inl (Nat.le_refl _)⟩
  ·exact .inl hj'
end

section runs
variable {P : Program} (W : World)

theorem nextslicecap_le {need cap : Nat} (h : cap < need) : Builtin.nextslicecap need cap ≤ 6 * need + 6000 := by
 unfold Builtin.nextslicecap
 rw [growBy_four]
 repeat' split
 all_goals omega
end runs

end Go.Ev
