/- Operations that only make an object with plain contents: carried out sooner than the walk says so, and named then. -/
import Derived.Test.YtffcidnblfckcaaGreatDoorEvFold
namespace Go.Ev
open Go

def noG : Gam := fun _ => none
def noA : AW := ⟨0, .nil, .nil⟩

theorem WRel.nought (W : World) : WRel noG noA W where
  obj := fun i o h => by simp [noA, Tr.get] at h
  lt := fun _ _ h => nomatch h
  fresh := fun _ _ => rfl
  sep := fun _ _ _ _ _ _ h => by simp [noA, Tr.get] at h
  mem := fun _ _ _ _ _ h => by simp [noA, Tr.get] at h
  famlt := fun _ _ _ _ _ h => by simp [noA, Tr.get] at h
  famfresh := fun _ _ => rfl

/-- The cells of a variable that an operation makes. -/
def alLike (C : Cfg) (o : Oper) : Option (List Value × Nat) :=
  match o.op with
  | .alloc e => match C.tys.get e with
    | some i => match i.zero with
      | some z => match gnd z, gnds (vcells z) with
        | true, true => some (vcells z, e)
        | _, _ => none
      | none => none
    | none => none
  | _ => none

theorem alLike_gnd {C : Cfg} {o : Oper} {c : List Value} {e : Nat} (h : alLike C o = some (c, e)) : gnds c = true := by
  unfold alLike at h
  repeat' (first | (cases h; done) | (cases h; assumption) | split at h)

theorem alLike_op {C : Cfg} {o : Oper} {c : List Value} {e : Nat} (h : alLike C o = some (c, e)) (ρ : Operand → Value) (A : AW) : doOp C ρ o A = .val (.pointer (some ⟨A.next, 0, none⟩)) (A.new (.cells c e A.next 0)) := by
  unfold alLike at h
  split at h
  · rename_i e' hop
    split at h
    · rename_i inf h1
      split at h
      · rename_i z h2
        split at h
        · rename_i h3 _
          cases h
          simp only [doOp, hop, doAlloc, h1, h2, h3]
        · cases h
      · cases h
    · cases h
  · cases h

theorem alLike_operands {C : Cfg} {o : Oper} {c : List Value} {e : Nat} (h : alLike C o = some (c, e)) : o.op.operands = #[] := by
  unfold alLike at h
  split at h
  · rename_i e' hop; rw [hop]; rfl
  · cases h

theorem CellsRel.of_gnd {γ γ' : Gam} {c : List Value} {cc : Array Value} (hg : gnds c = true) (h : CellsRel γ c cc) : CellsRel γ' c cc := by
  intro k v hv
  obtain ⟨v', h1, h2⟩ := h k v hv
  have hgv : gnd v = true := by
    have hm := List.mem_of_getElem? hv
    clear h hv h1 h2
    induction c with
    | nil => cases hm
    | cons x c ih =>
      simp only [gnds, Bool.and_eq_true] at hg
      rcases List.mem_cons.1 hm with rfl | hm
      · exact hg.1
      · exact ih hg.2 hm
  have := h2.eq_of_gnd hgv
  subst this
  exact ⟨v', h1, VRel.of_gnd γ' v' hgv⟩

/-- A block that has been made and has no name yet. -/
def Pend (W : World) (g : GI) (c : List Value) (e : Nat) : Prop := ∃ cc fr, W.heap[g.blk]? = some (.cells cc e fr) ∧ free fr cc.size ∧ cc.size = g.n ∧ g.sz = 0 ∧ CellsRel noG c cc

theorem Pend.keep {W W' : World} {g : GI} {c : List Value} {e : Nat} (h : Pend W g c e) (hb : W'.heap[g.blk]? = W.heap[g.blk]?) : Pend W' g c e := by
  obtain ⟨cc, fr, h1, h2⟩ := h
  exact ⟨cc, fr, hb.trans h1, h2⟩

/-- A world in which nothing has changed but that there is more of it. -/
theorem WRel.more {γ γ' : Gam} {A : AW} {W W' : World} (h : WRel γ A W) (hx : Ext noG W γ' W') : WRel γ A W' ∧ Ext γ W γ W' := by
  have hb : ∀ b, b < W.heap.size → W'.heap[b]? = W.heap[b]? := fun b hb => hx.block b hb fun _ _ e => by cases e
  refine ⟨⟨fun i x hi => ?_, fun i g hi => Nat.lt_of_lt_of_le (h.lt i g hi) hx.size, h.fresh, h.sep, h.mem, h.famlt, h.famfresh⟩, ⟨γ.le_refl, fun _ _ h => .inl h, hx.size, fun b hlt _ => hb b hlt, hx.os, hx.tape, hx.output, hx.drawn⟩⟩
  obtain ⟨g, hg, hr⟩ := h.obj i x hi
  exact ⟨g, hg, hr.mono γ.le_refl (hb _ (h.lt _ _ hg))⟩

/-- The operation, carried out: a block without a name. -/
theorem alLike_run {C : Cfg} (hC : C.Ok) {fs : Fns} (hf : fs.Ok C) {F : Fence} (hF : Wide F) (k : Nat) {o : Oper} {c : List Value} {e : Nat} (h : alLike C o = some (c, e)) {a : Act} {W : World} {γ0 : Gam} (hR : Ro C.ro γ0 W) {next : Act → World → Prop} {Q : Exit → Act → World → Prop}
    (hn : ∀ g γ' W', W.heap.size ≤ g.blk → g.blk < W'.heap.size → Pend W' g c e → Ext noG W γ' W' → next (a.put o.dst (.pointer (some ⟨g.blk, 0, none⟩))) W') : o.wpIn F k C.P a W next Q := by
  refine oper_ok' hC hf hF k (WRel.nought W) (hR.noG noG fun _ => rfl) o (ρ := fun _ => undef) (fun x hx => by rw [alLike_operands h] at hx; simp at hx) (.inl (alLike_op h _ _)) fun v' γ' W' hv hw hx => ?_
  cases hv with
  | ptr _ hg =>
    rename_i g
    have hget : (noA.new (.cells c e noA.next 0)).heap.get 0 = some (.cells c e 0 0) := by simp [AW.new, noA, Tr.get_put]
    obtain ⟨g', hg', ho⟩ := hw.obj _ _ hget
    have hgg : γ' 0 = some g := hg
    rw [hgg] at hg'
    cases hg'
    cases ho with
    | cells hb hfr hnn hz hc =>
      refine hn g γ' W' ?_ (hw.lt _ _ hgg) ⟨_, _, hb, hfr, hnn, hz, hc.of_gnd (alLike_gnd h)⟩ hx
      rcases hx.new 0 g hgg with hh | ⟨_, hh | ⟨_, _, hh, _⟩⟩
      · cases hh
      · exact hh
      · cases hh

/-- The block gets its name. -/
theorem WRel.adopt {γ : Gam} {A : AW} {W : World} (h : WRel γ A W) {g : GI} {c : List Value} {e : Nat} (hp : Pend W g c e) (hun : ∀ i g', γ i = some g' → g'.blk ≠ g.blk) :
    WRel (γ.set A.next g) (A.new (.cells c e A.next 0)) W := by
  obtain ⟨cc, fr, hb, hfr, hnn, hz, hc⟩ := hp
  have hnone : γ A.next = none := h.fresh _ (Nat.le_refl _)
  have hle : γ.le (γ.set A.next g) := Gam.le_set _ hnone
  have hget : ∀ j, (A.new (.cells c e A.next 0)).heap.get j = if j = A.next then some (.cells c e A.next 0) else A.heap.get j := fun j => by simp [AW.new, Tr.get_put]
  have hmem : ∀ f, (A.new (.cells c e A.next 0)).members f = A.members f := fun f => rfl
  refine ⟨?_, ?_, ?_, ?_, ?_, ?_, ?_⟩
  · intro i x hi
    rw [hget] at hi
    by_cases hin : i = A.next
    · rw [if_pos hin] at hi
      cases hi
      exact ⟨g, by rw [hin]; exact Gam.set_same _ _ _, .cells hb hfr hnn hz (hc.mono fun _ _ e => by cases e)⟩
    · rw [if_neg hin] at hi
      obtain ⟨g', hg', hr⟩ := h.obj i x hi
      exact ⟨g', hle _ _ hg', hr.mono hle rfl⟩
  · intro i g' hi
    rcases Gam.set_cases hi with ⟨_, rfl⟩ | ⟨_, hi⟩
    · exact lt_of_heap hb
    · exact h.lt _ _ hi
  · intro i hi
    have hne : i ≠ A.next := by simp [AW.new] at hi; omega
    rw [Gam.set_other _ _ hne]
    exact h.fresh i (by simp [AW.new] at hi; omega)
  · intro i j x y gi gj hi hj hgi hgj hbb
    rw [hget] at hi hj
    rcases Gam.set_cases hgi with ⟨hi', rfl⟩ | ⟨hi', hgi'⟩ <;> rcases Gam.set_cases hgj with ⟨hj', rfl⟩ | ⟨hj', hgj'⟩
    · exact .inl (hi'.trans hj'.symm)
    · exact absurd hbb.symm (hun _ _ hgj')
    · exact absurd hbb (hun _ _ hgi')
    · rw [if_neg hi'] at hi
      rw [if_neg hj'] at hj
      exact h.sep i j x y gi gj hi hj hgi' hgj' hbb
  · intro i c' e' fam sz hi
    rw [hget] at hi
    rw [hmem]
    by_cases hin : i = A.next
    · rw [if_pos hin] at hi
      cases hi
      rw [AW.members_next h.famfresh (Nat.le_refl _), hin]
      simp
    · rw [if_neg hin] at hi
      exact h.mem i c' e' fam sz hi
  · intro i c' e' fam sz hi
    rw [hget] at hi
    by_cases hin : i = A.next
    · rw [if_pos hin] at hi
      cases hi
      simp [AW.new]
    · rw [if_neg hin] at hi
      have := h.famlt i c' e' fam sz hi
      simp [AW.new]
      omega
  · intro f hf
    exact h.famfresh f (by simp [AW.new] at hf; omega)

end Go.Ev
