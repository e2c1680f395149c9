/- Memory: loads, stores, new blocks, and what append makes, in the abstract world and in the world of the model. No program. -/
import Derived.Test.YtdalaifnhppidaaDoorEvWorld
import Derived.Laws.Cells
import Derived.Laws.Entries
namespace Go.Ev
open Go

def takeA0 : List Value → Nat → Nat → Option (List Value)
 | _, _, 0 => some []
 | [], _, _ + 1 => none
 | x :: l, 0, n + 1 => match takeA0 l 0 n with
  | some r => some (x :: r)
  | none => none
 | _ :: l, o + 1, n + 1 => takeA0 l o (n + 1)

theorem takeA0_spec : ∀ (l : List Value) (o n : Nat) (r : List Value), takeA0 l o n = some r → r.length = n ∧ ∀ j, j < n → l[o + j]? = r[j]? := by
 intro l
 induction l with
 | nil =>
  intro o n r h
  cases n with
  | zero => simp [takeA0] at h; subst h; exact ⟨rfl, fun j hj => by omega⟩
  | succ n => simp [takeA0] at h
 | cons x l ih =>
  intro o n r h
  cases n with
  | zero => simp [takeA0] at h; subst h; exact ⟨rfl, fun j hj => by omega⟩
  | succ n =>
   cases o with
   | zero =>
    simp only [takeA0] at h
    cases ht : takeA0 l 0 n with
    | none => simp [ht] at h
    | some q =>
     simp only [ht, Option.some.injEq] at h
     subst h
     obtain ⟨h1, h2⟩ := ih 0 n q ht
     refine ⟨by simp [h1], fun j hj => ?_⟩
     cases j with
     | zero => simp
     | succ j => have := h2 j (by omega); simpa using this
   | succ o =>
    simp only [takeA0] at h
    obtain ⟨h1, h2⟩ := ih o (n + 1) r h
    refine ⟨h1, fun j hj => ?_⟩
    have := h2 j hj
    rw [show o + 1 + j = (o + j) + 1 by omega]
    simpa using this

/- The same, eight cells at a time. -/
def tail8 : List Value → List Value
 | _ :: _ :: _ :: _ :: _ :: _ :: _ :: _ :: l => l
 | _ => []
def skip8 : Nat → List Value → List Value
 | 0, l => l
 | k + 1, l => skip8 k (tail8 l)

theorem tail8_eq (l : List Value) : tail8 l = l.drop 8 := by
 unfold tail8
 split
 ·rfl
 ·rename_i h
  rcases l with _ | ⟨a, _ | ⟨b, _ | ⟨c, _ | ⟨d, _ | ⟨e, _ | ⟨f, _ | ⟨g, _ | ⟨x, l⟩⟩⟩⟩⟩⟩⟩⟩
  all_goals first | rfl | exact absurd rfl (h _ _ _ _ _ _ _ _ _)
theorem skip8_eq : ∀ (k : Nat) (l : List Value), skip8 k l = l.drop (8 * k)
 | 0, l => rfl
 | k + 1, l => by
  rw [skip8, skip8_eq k, tail8_eq, List.drop_drop]
  congr 1
  omega
theorem takeA0_drop : ∀ (l : List Value) (o q n : Nat), takeA0 (l.drop o) q n = takeA0 l (o + q) n
 | l, 0, q, n => by simp
 | [], o + 1, q, n => by cases n <;> simp [takeA0]
 | x :: l, o + 1, q, n => by
  rw [List.drop_succ_cons, takeA0_drop l o q n, show o + 1 + q = (o + q) + 1 by omega]
  cases n <;> simp [takeA0]

def takeAt (l : List Value) (o n : Nat) : Option (List Value) := takeA0 (skip8 (Nat.div o 8) l) (Nat.mod o 8) n

theorem takeAt_old (l : List Value) (o n : Nat) : takeAt l o n = takeA0 l o n := by
 unfold takeAt
 rw [skip8_eq, takeA0_drop]
 congr 1
 exact Nat.div_add_mod o 8

theorem takeAt_spec (l : List Value) (o n : Nat) (r : List Value) (h : takeAt l o n = some r) : r.length = n ∧ ∀ j, j < n → l[o + j]? = r[j]? := takeA0_spec l o n r (by rw [← takeAt_old]; exact h)

def setA0 : List Value → Nat → List Value → Option (List Value)
 | l, _, [] => some l
 | [], _, _ :: _ => none
 | _ :: l, 0, v :: vs => match setA0 l 0 vs with
  | some r => some (v :: r)
  | none => none
 | x :: l, o + 1, v :: vs => match setA0 l o (v :: vs) with
  | some r => some (x :: r)
  | none => none

theorem setA0_spec : ∀ (l : List Value) (o : Nat) (vs r : List Value), setA0 l o vs = some r →
  r.length = l.length ∧ (vs = [] ∨ o + vs.length ≤ l.length) ∧ ∀ j, r[j]? = if o ≤ j ∧ j < o + vs.length then vs[j - o]? else l[j]? := by
 intro l
 induction l with
 | nil =>
  intro o vs r h
  cases vs with
  | nil =>
   simp [setA0] at h; subst h
   exact ⟨rfl, .inl rfl, fun j => by
    have : ¬ (o ≤ j ∧ j < o + ([] : List Value).length) := by simp
    simp⟩
  | cons v vs => simp [setA0] at h
 | cons x l ih =>
  intro o vs r h
  cases vs with
  | nil =>
   simp [setA0] at h; subst h
   refine ⟨rfl, .inl rfl, fun j => ?_⟩
   rw [if_neg (fun hh => by have := hh.2; simp at this; omega)]
  | cons v vs =>
   cases o with
   | zero =>
    simp only [setA0] at h
    cases ht : setA0 l 0 vs with
    | none => simp [ht] at h
    | some q =>
     simp only [ht, Option.some.injEq] at h
     subst h
     obtain ⟨h1, h2, h3⟩ := ih 0 vs q ht
     refine ⟨by simp [h1], .inr ?_, fun j => ?_⟩
     ·rcases h2 with rfl | h2
      ·simp
      ·simp; omega
     ·cases j with
      | zero => simp
      | succ j =>
       have := h3 j
       simp only [Nat.zero_le, true_and, Nat.zero_add, Nat.sub_zero] at this
       simp only [List.getElem?_cons_succ, Nat.zero_le, true_and, Nat.zero_add, List.length_cons, Nat.add_lt_add_iff_right, Nat.sub_zero, this]
   | succ o =>
    simp only [setA0] at h
    cases ht : setA0 l o (v :: vs) with
    | none => simp [ht] at h
    | some q =>
     simp only [ht, Option.some.injEq] at h
     subst h
     obtain ⟨h1, h2, h3⟩ := ih o (v :: vs) q ht
     refine ⟨by simp [h1], .inr ?_, fun j => ?_⟩
     ·rcases h2 with h2 | h2
      ·cases h2
      ·simp at h2 ⊢; omega
     ·cases j with
      | zero => simp
      | succ j =>
       have := h3 j
       simp only [List.getElem?_cons_succ, this, List.length_cons]
       by_cases hj : o ≤ j ∧ j < o + (vs.length + 1)
       ·rw [if_pos hj, if_pos (by omega), show j + 1 - (o + 1) = j - o by omega]
       ·rw [if_neg hj, if_neg (by omega)]

def set8 : Nat → List Value → Nat → List Value → Option (List Value)
 | 0, l, q, vs => setA0 l q vs
 | k + 1, a :: b :: c :: d :: e :: f :: g :: h :: l, q, vs => match set8 k l q vs with
  | some r => some (a :: b :: c :: d :: e :: f :: g :: h :: r)
  | none => none
 | k + 1, l, q, vs => setA0 l (8 * (k + 1) + q) vs

def setAt (l : List Value) (o : Nat) (vs : List Value) : Option (List Value) :=
 match vs with
 | [] => some l
 | v :: vs => set8 (Nat.div o 8) l (Nat.mod o 8) (v :: vs)

theorem setA0_cons (x : Value) (l : List Value) (o : Nat) (v : Value) (vs : List Value) : setA0 (x :: l) (o + 1) (v :: vs) = match setA0 l o (v :: vs) with | some r => some (x :: r) | none => none := rfl

theorem set8_eq (v : Value) (vs : List Value) : ∀ (k : Nat) (l : List Value) (q : Nat), set8 k l q (v :: vs) = setA0 l (8 * k + q) (v :: vs)
 | 0, l, q => by rw [set8]; congr 1; omega
 | k + 1, l, q => by
  rcases l with _ | ⟨a, _ | ⟨b, _ | ⟨c, _ | ⟨d, _ | ⟨e, _ | ⟨f, _ | ⟨g, _ | ⟨x, l⟩⟩⟩⟩⟩⟩⟩⟩
  all_goals first | rfl | skip
  rw [set8, set8_eq v vs k l q, show 8 * (k + 1) + q = (8 * k + q) + 1 + 1 + 1 + 1 + 1 + 1 + 1 + 1 by omega]
  simp only [setA0_cons]
  cases setA0 l (8 * k + q) (v :: vs) <;> rfl

theorem setAt_old (l : List Value) (o : Nat) (vs : List Value) : setAt l o vs = setA0 l o vs := by
 cases vs with
 | nil => cases l <;> rfl
 | cons v vs =>
  show set8 (Nat.div o 8) l (Nat.mod o 8) (v :: vs) = _
  rw [set8_eq]
  congr 1
  exact Nat.div_add_mod o 8

theorem setAt_spec (l : List Value) (o : Nat) (vs r : List Value) (h : setAt l o vs = some r) :
  r.length = l.length ∧ (vs = [] ∨ o + vs.length ≤ l.length) ∧ ∀ j, r[j]? = if o ≤ j ∧ j < o + vs.length then vs[j - o]? else l[j]? := setA0_spec l o vs r (by rw [← setAt_old]; exact h)

def one : Value → Bool
 | .agg _ | .tuple _ => false
 | _ => true

def ones : List Value → Bool
 | [] => true
 | v :: l => match one v with
  | true => ones l
  | false => false

theorem one_rel {γ : Gam} {v v' : Value} (h : VRel γ v v') (h1 : one v = true) : v'.oneCell' = true := by
 cases h <;> simp_all [one, Value.oneCell']

theorem ones_rel {γ : Gam} : {l l' : List Value} → VsRel γ l l' → ones l = true → ∀ v ∈ l', v.oneCell' = true
 | _, _, .nil, _ => by simp
 | _, _, .cons (v := v) h hl, h1 => by
  simp only [ones] at h1
  cases hv : one v with
  | false => simp [hv] at h1
  | true =>
   simp only [hv] at h1
   intro x hx
   rcases List.mem_cons.1 hx with rfl | hx
   ·exact one_rel h hv
   ·exact ones_rel hl h1 x hx

def setB (W : World) (b : Nat) (o : Obj) : World := { W with heap := W.heap.setIfInBounds b o }

theorem setB_size (W : World) (b : Nat) (o : Obj) : (setB W b o).heap.size = W.heap.size := by simp [setB]
theorem setB_same {W : World} {b : Nat} (o : Obj) (h : b < W.heap.size) : (setB W b o).heap[b]? = some o := by simp [setB, h]
theorem setB_other {W : World} {b c : Nat} (o : Obj) (h : c ≠ b) : (setB W b o).heap[c]? = W.heap[c]? := by
 simp [setB, Array.getElem?_setIfInBounds_ne (Ne.symm h)]
theorem setB_setB (W : World) (b : Nat) (o o' : Obj) : setB (setB W b o) b o' = setB W b o' := by simp [setB]
theorem setB_eq {W : World} {b : Nat} {o : Obj} (h : W.heap[b]? = some o) : setB W b o = W := by
 have hb := (Array.getElem?_eq_some_iff.1 h).1
 have he := (Array.getElem?_eq_some_iff.1 h).2
 have : W.heap.setIfInBounds b o = W.heap := by
  apply Array.ext_getElem?
  intro j
  rw [Array.getElem?_setIfInBounds]
  by_cases hj : b = j
  ·subst hj; simp [hb, he]
  ·simp [hj]
 unfold setB
 rw [this]

theorem lt_of_heap {W : World} {b : Nat} {o : Obj} (h : W.heap[b]? = some o) : b < W.heap.size := (Array.getElem?_eq_some_iff.1 h).1

theorem setCell_setB {W : World} {b k : Nat} {cc : Array Value} {e : TypeId} {fr : Nat × Nat} (v : Value) (h : W.heap[b]? = some (.cells cc e fr)) :
  W.setCell ⟨b, k, none⟩ v = setB W b (.cells (cc.setIfInBounds k v) e fr) := by
 unfold World.setCell setB
 congr 1
 apply Array.ext_getElem?
 intro j
 rw [Array.getElem?_setIfInBounds, Array.getElem?_modify]
 by_cases hj : b = j
 ·subst hj
  have he := (Array.getElem?_eq_some_iff.1 h).2
  simp [lt_of_heap h, he]
 ·simp [hj]

variable {P : Program}

theorem run_store_row {e : TypeId} {fr : Nat × Nat} : ∀ (vs : List Value) (i : Nat) (W : World) (b o : Nat) (cc : Array Value), W.heap[b]? = some (.cells cc e fr) → free fr cc.size → o + i + vs.length ≤ cc.size → (∀ v ∈ vs, v.oneCell' = true) →
  ∃ cc', (storeCells ⟨b, o, none⟩ vs i).run P W = .ok () (setB W b (.cells cc' e fr)) ∧ cc'.size = cc.size ∧
   ∀ j, cc'[j]? = if o + i ≤ j ∧ j < o + i + vs.length then vs[j - (o + i)]? else cc[j]? := by
 intro vs
 induction vs with
 | nil =>
  intro i W b o cc h _ _ _
  refine ⟨cc, ?_, rfl, fun j => ?_⟩
  ·rw [setB_eq h]; rfl
  ·rw [if_neg (fun hh => by have := hh.2; simp at this; omega)]
 | cons v vs ih =>
  intro i W b o cc h hfree hle h1
  simp only [List.length_cons] at hle
  have hst : (store ((⟨b, o, none⟩ : Addr).add i) v).run P W = .ok () (setB W b (.cells (cc.setIfInBounds (o + i) v) e fr)) := by
   rw [Addr.add_lit, run_store P W _ v _ (h1 v (by simp))]
   have hc : W.cell? ⟨b, o + i, none⟩ = some (cc[o + i]'(by omega)) := by simp [World.cell?, h]
   have hf : W.frozen? ⟨b, o + i, none⟩ = false := by
    have := hfree (o + i) (by omega)
    simp only [World.frozen?, h]
    simpa using this
   rw [hc]
   simp only [hf, Bool.false_eq_true, if_false]
   rw [setCell_setB v h]
  obtain ⟨cc', hr, hs, hg⟩ := ih (i + 1) (setB W b (.cells (cc.setIfInBounds (o + i) v) e fr)) b o (cc.setIfInBounds (o + i) v) (setB_same _ (lt_of_heap h)) (by simpa using hfree) (by simp; omega) (fun x hx => h1 x (by simp [hx]))
  refine ⟨cc', ?_, by simpa using hs, fun j => ?_⟩
  ·simp only [storeCells, Sem.run_bind, hst, Result.andThen_ok, hr, setB_setB]
  ·rw [hg j]
   by_cases hj : o + i ≤ j ∧ j < o + i + (vs.length + 1)
   ·rw [if_pos (show o + i ≤ j ∧ j < o + i + (v :: vs).length by simpa using hj)]
    by_cases h0 : j = o + i
    ·subst h0
     rw [if_neg (by omega), Array.getElem?_setIfInBounds]
     simp
     omega
    ·rw [if_pos (by omega), show j - (o + i) = (j - (o + (i + 1))) + 1 by omega]
     simp
   ·rw [if_neg (by omega), if_neg (show ¬ (o + i ≤ j ∧ j < o + i + (v :: vs).length) by simpa using hj), Array.getElem?_setIfInBounds_ne (by omega)]

def AW.load (A : AW) (i k n : Nat) : Option (List Value) :=
 match A.heap.get i with
 | some (.cells c _ _ _) => takeAt c k n
 | _ => none

theorem VsRel.of_get {γ : Gam} : ∀ {l l' : List Value}, l.length = l'.length → (∀ (j : Nat) (v : Value), l[j]? = some v → ∃ v', l'[j]? = some v' ∧ VRel γ v v') → VsRel γ l l'
 | [], [], _, _ => .nil
 | [], _ :: _, h, _ => by simp at h
 | _ :: _, [], h, _ => by simp at h
 | v :: l, v' :: l', h, hr => by
  obtain ⟨x, hx, hv⟩ := hr 0 v rfl
  simp at hx
  subst hx
  exact .cons hv (VsRel.of_get (by simpa using h) fun j u hu => by simpa using hr (j + 1) u (by simpa using hu))

theorem load_rel {γ : Gam} {A : AW} {W : World} (h : WRel γ A W) {i k n : Nat} {r : List Value} (hl : A.load i k n = some r) :
  ∃ g r', γ i = some g ∧ (loadCells ⟨g.blk, g.off + k, none⟩ n).run P W = .ok (List.toArray r') W ∧ VsRel γ r r' := by
 unfold AW.load at hl
 split at hl
 ·rename_i c e f z hi
  obtain ⟨g, hg, ho⟩ := h.obj _ _ hi
  cases ho with
  | cells hb hf hn hz hc =>
   rename_i cc fr
   obtain ⟨hlen, hget⟩ := takeAt_spec _ _ _ _ hl
   have hfound : ∀ j, j < n → ∃ v', cc[g.off + k + j]? = some v' ∧ VRel γ (r.getD j undef) v' := fun j hj => by
    have h1 := hget j hj
    have h2 : r[j]? = some (r.getD j undef) := by simp [List.getD, List.getElem?_eq_getElem (show j < r.length by omega)]
    rw [h2] at h1
    rw [Nat.add_assoc]
    exact hc _ _ h1
   refine ⟨g, (List.range n).map fun j => cc.getD (g.off + k + j) undef, hg, ?_, ?_⟩
   ·refine run_loadCells W _ n _ fun j hj => ?_
    obtain ⟨v', hv', _⟩ := hfound j hj
    rw [Addr.add_lit]
    simp [World.cell?, hb, hv']
   ·refine VsRel.of_get (by simp [hlen]) fun j v hv => ?_
    have hj : j < n := by
     have := (List.getElem?_eq_some_iff.1 hv).1
     omega
    obtain ⟨v', hv', hr⟩ := hfound j hj
    refine ⟨v', by simp [hj, hv'], ?_⟩
    have : r.getD j undef = v := by simp [List.getD, hv]
    rw [this] at hr
    exact hr
 ·cases hl

end Go.Ev
