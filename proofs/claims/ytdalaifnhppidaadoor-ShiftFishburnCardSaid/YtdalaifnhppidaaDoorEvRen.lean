/- A state by other names. -/
import Derived.Test.YtdalaifnhppidaaDoorEvReach
namespace Go.Ev
open Go

def renF (τ : Nat → Nat) (N : Nat) : Fn → Option Fn
 | .yield i => match Nat.blt i N with
  | true => some (.yield (τ i))
  | false => none
 | f => some f

mutual
def renV (τ : Nat → Nat) (N : Nat) : Value → Option Value
 | .pointer (some ⟨i, k, none⟩) => match Nat.blt i N with
  | true => some (.pointer (some ⟨τ i, k, none⟩))
  | false => none
 | .slice (some ⟨i, k, none⟩) l c => match Nat.blt i N with
  | true => some (.slice (some ⟨τ i, k, none⟩) l c)
  | false => none
 | .map (some i) => match Nat.blt i N with
  | true => some (.map (some (τ i)))
  | false => none
 | .func f ⟨a⟩ ⟨c⟩ => match renF τ N f, renVs τ N a, renVs τ N c with
  | some f, some a, some c => some (.func f ⟨a⟩ ⟨c⟩)
  | _, _, _ => none
 | .iface t v => match renV τ N v with
  | some v => some (.iface t v)
  | none => none
 | .agg ⟨l⟩ => match renVs τ N l with
  | some l => some (.agg ⟨l⟩)
  | none => none
 | .tuple ⟨l⟩ => match renVs τ N l with
  | some l => some (.tuple ⟨l⟩)
  | none => none
 | v => some v
def renVs (τ : Nat → Nat) (N : Nat) : List Value → Option (List Value)
 | [] => some []
 | v :: l => match renV τ N v, renVs τ N l with
  | some v, some l => some (v :: l)
  | _, _ => none
end

def renG (τ : Nat → Nat) (N : Nat) (γ : Gam) : Gam := fun i => match Nat.blt i N with
 | true => γ (τ i)
 | false => none

theorem renG_of {τ : Nat → Nat} {N : Nat} {γ : Gam} {i : Nat} (h : Nat.blt i N = true) : renG τ N γ i = γ (τ i) := by
 unfold renG
 rw [h]

theorem renF_ok {τ : Nat → Nat} {N : Nat} {γ : Gam} {f f0 g : Fn} (h : renF τ N f = some f0) (hr : FRel γ f0 g) : FRel (renG τ N γ) f g := by
 unfold renF at h
 split at h
 ·split at h
  ·rename_i hb
   cases h
   cases hr with
   | yield hg => exact .yield (by rw [renG_of hb]; exact hg)
  ·cases h
 ·rename_i hn
  cases h
  cases hr with
  | func f => exact .func f
  | method s => exact .method s
  | methodOf t s => exact .methodOf t s
  | via t p f b => exact .via t p f b
  | yield h => exact absurd rfl (hn _)

mutual
theorem renV_ok (τ : Nat → Nat) (N : Nat) (γ : Gam) : (v : Value) → ∀ {v0 x : Value}, renV τ N v = some v0 → VRel γ v0 x → VRel (renG τ N γ) v x
 | .bool b, _, _, h, hr => by simp only [renV, Option.some.injEq] at h; subst h; cases hr; exact .bool _
 | .int k n, _, _, h, hr => by simp only [renV, Option.some.injEq] at h; subst h; cases hr; exact .int _ _
 | .float k n, _, _, h, hr => by simp only [renV, Option.some.injEq] at h; subst h; cases hr; exact .float _ _
 | .complex k m n, _, _, h, hr => by simp only [renV, Option.some.injEq] at h; subst h; cases hr; exact .complex _ _ _
 | .string s, _, _, h, hr => by simp only [renV, Option.some.injEq] at h; subst h; cases hr; exact .string _
 | .pointer none, _, _, h, hr => by simp only [renV, Option.some.injEq] at h; subst h; cases hr; exact .ptrNil
 | .pointer (some ⟨i, k, none⟩), _, _, h, hr => by
  simp only [renV] at h
  split at h
  ·rename_i hb
   cases h
   cases hr with
   | ptr k hg => exact .ptr k (by rw [renG_of hb]; exact hg)
  ·cases h
 | .pointer (some ⟨i, k, some s⟩), _, _, h, hr => by
  simp only [renV, Option.some.injEq] at h
  subst h
  cases hr
  exact .ptrRo _ _ _
 | .slice none l c, _, _, h, hr => by
  simp only [renV, Option.some.injEq] at h
  subst h
  cases hr
  exact .sliceNil
 | .slice (some ⟨i, k, none⟩) l c, _, _, h, hr => by
  simp only [renV] at h
  split at h
  ·rename_i hb
   cases h
   cases hr with
   | slice k l c c' hg hc => exact .slice _ _ _ _ (by rw [renG_of hb]; exact hg) hc
   | sliceE a a' c' => exact .sliceE _ _ _
  ·cases h
 | .slice (some ⟨i, k, some s⟩) l c, _, _, h, hr => by
  simp only [renV, Option.some.injEq] at h
  subst h
  cases hr with
  | sliceRo b k s l c c' h hc => exact .sliceRo _ _ _ _ _ _ h hc
  | sliceE a a' c' => exact .sliceE _ _ _
 | .map none, _, _, h, hr => by simp only [renV, Option.some.injEq] at h; subst h; cases hr; exact .mapNil
 | .map (some i), _, _, h, hr => by
  simp only [renV] at h
  split at h
  ·rename_i hb
   cases h
   cases hr with
   | map hg => exact .map (by rw [renG_of hb]; exact hg)
  ·cases h
 | .chan c, _, _, h, hr => by simp only [renV, Option.some.injEq] at h; subst h; cases hr; exact .chanNil
 | .func f ⟨a⟩ ⟨c⟩, _, _, h, hr => by
  simp only [renV] at h
  split at h
  ·rename_i f1 a1 c1 e1 e2 e3
   cases h
   cases hr with
   | func hf ha hc => exact .func (renF_ok e1 hf) (renVs_ok τ N γ a e2 ha) (renVs_ok τ N γ c e3 hc)
  ·cases h
 | .nilFunc, _, _, h, hr => by simp only [renV, Option.some.injEq] at h; subst h; cases hr; exact .nilFunc
 | .iface t v, _, _, h, hr => by
  simp only [renV] at h
  split at h
  ·rename_i v1 e1
   cases h
   cases hr with
   | iface t hv => exact .iface t (renV_ok τ N γ v e1 hv)
  ·cases h
 | .nilIface, _, _, h, hr => by simp only [renV, Option.some.injEq] at h; subst h; cases hr; exact .nilIface
 | .agg ⟨l⟩, _, _, h, hr => by
  simp only [renV] at h
  split at h
  ·rename_i l1 e1
   cases h
   cases hr with
   | agg hl => exact .agg (renVs_ok τ N γ l e1 hl)
  ·cases h
 | .tuple ⟨l⟩, _, _, h, hr => by
  simp only [renV] at h
  split at h
  ·rename_i l1 e1
   cases h
   cases hr with
   | tuple hl => exact .tuple (renVs_ok τ N γ l e1 hl)
  ·cases h
theorem renVs_ok (τ : Nat → Nat) (N : Nat) (γ : Gam) : (l : List Value) → ∀ {l0 x : List Value}, renVs τ N l = some l0 → VsRel γ l0 x → VsRel (renG τ N γ) l x
 | [], _, _, h, hr => by simp only [renVs, Option.some.injEq] at h; subst h; cases hr; exact .nil
 | v :: l, _, _, h, hr => by
  simp only [renVs] at h
  split at h
  ·rename_i v1 l1 e1 e2
   cases h
   cases hr with
   | cons hv hl => exact .cons (renV_ok τ N γ v e1 hv) (renVs_ok τ N γ l e2 hl)
  ·cases h
end

theorem renVs_get {τ : Nat → Nat} {N : Nat} : ∀ {l l0 : List Value}, renVs τ N l = some l0 → ∀ {k : Nat} {v : Value}, l[k]? = some v → ∃ v0, l0[k]? = some v0 ∧ renV τ N v = some v0
 | [], _, h, k, v, hk => by simp at hk
 | u :: l, _, h, k, v, hk => by
  simp only [renVs] at h
  split at h
  ·rename_i v1 l1 e1 e2
   cases h
   cases k with
   | zero => simp only [List.getElem?_cons_zero, Option.some.injEq] at hk; subst hk; exact ⟨v1, rfl, e1⟩
   | succ k => simpa using renVs_get e2 (by simpa using hk)
  ·cases h

inductive RenO (τ : Nat → Nat) (N : Nat) : AObj → AObj → Prop
 | plain {c : List Value} {e : TypeId} {fam fam' sz : Nat} (h : ∀ v ∈ c, gnd v = true) : RenO τ N (.cells c e fam' sz) (.cells c e fam sz)
 | cells {c c' : List Value} {e : TypeId} {fam fam' sz : Nat} (h : renVs τ N c' = some c) : RenO τ N (.cells c' e fam' sz) (.cells c e fam sz)
 | defd : RenO τ N .defd .defd
 | siter (s : ByteArray) (pos : Nat) : RenO τ N (.siter s pos) (.siter s pos)
 | map {es : List MapEntry} {clock : Nat} (h : ∀ e ∈ es, gnd e.key = true ∧ gnd e.val = true) : RenO τ N (.map es clock) (.map es clock)
 | miter {m m' since last : Nat} {seen : List Nat} (hm : τ m' = m) (hm' : Nat.blt m' N = true) : RenO τ N (.miter m' since seen last) (.miter m since seen last)
 | loop {st : LoopState} {pend : Option Code} {m n d d' : Nat} {en en' : En} {params : Array Tmp} {assign body : Code} (he : ∀ t v', en'.get m t = some v' → ∃ v, en.get m t = some v ∧ renV τ N v' = some v) (hd : τ d' = d) (hd' : Nat.blt d' N = true) :
   RenO τ N (.loop st pend m en' n params assign body d') (.loop st pend m en n params assign body d)

theorem EsRel.of_gnds {γ γ' : Gam} {l l' : List MapEntry} (h : EsRel γ l l') (hg : ∀ e ∈ l, gnd e.key = true ∧ gnd e.val = true) : EsRel γ' l l' := by
 induction h with
 | nil => exact .nil
 | cons h _ ih =>
  obtain ⟨g1, g2⟩ := hg _ (List.mem_cons_self ..)
  refine .cons ⟨?_, ?_, h.born⟩ (ih fun e he => hg e (List.mem_cons_of_mem _ he))
  ·rw [h.key.eq_of_gnd g1]; exact VRel.of_gnd _ _ g1
  ·rw [h.val.eq_of_gnd g2]; exact VRel.of_gnd _ _ g2

theorem RenO.ok {τ : Nat → Nat} {N : Nat} {γ : Gam} {W : World} {g : GI} {o' o : AObj} (h : RenO τ N o' o) (hr : ORel γ W g o) : ORel (renG τ N γ) W g o' := by
 cases h with
 | plain hg =>
  cases hr with
  | cells h hf hn hz hc =>
   refine .cells h hf hn hz fun k v hv => ?_
   obtain ⟨x, hx, hrel⟩ := hc k v hv
   have := hrel.eq_of_gnd (hg v (List.mem_of_getElem? hv))
   subst this
   exact ⟨_, hx, VRel.of_gnd _ _ (hg _ (List.mem_of_getElem? hv))⟩
 | cells hg =>
  cases hr with
  | cells h hf hn hz hc =>
   refine .cells h hf hn hz fun k v hv => ?_
   obtain ⟨v0, h0, h1⟩ := renVs_get hg hv
   obtain ⟨x, hx, hrel⟩ := hc k v0 h0
   exact ⟨x, hx, renV_ok τ N γ v h1 hrel⟩
 | defd => cases hr with | defd h => exact .defd h
 | siter s pos => cases hr with | siter h0 h => exact .siter h0 h
 | map hg => cases hr with | map h he => exact .map h (EsRel.of_gnds he hg)
 | miter hm hm' => cases hr with | miter h0 h1 h2 => exact .miter h0 (by rw [renG_of hm', hm]; exact h1) h2
 | loop he hd hd' =>
  cases hr with
  | loop h h1 h2 h3 h4 h5 h6 h7 h8 h9 =>
   refine .loop h h1 h2 (fun t v hv => ?_) h4 h5 h6 h7 (by rw [renG_of hd', hd]; exact h8) h9
   obtain ⟨v0, e0, e1⟩ := he t v hv
   obtain ⟨x, hx, hrel⟩ := h3 t v0 e0
   exact ⟨x, hx, renV_ok τ N γ v e1 hrel⟩

/- All that a tree holds. -/
def Tr.All {α : Type} (p : Nat → α → Prop) : Tr α → (Nat → Nat) → Prop
 | .nil, _ => True
 | .node l v r, ix => (match v with | some x => p (ix 0) x | none => True) ∧ Tr.All p l (fun k => ix (2 * k + 1)) ∧ Tr.All p r (fun k => ix (2 * k + 2))

theorem Tr.All.get {α : Type} {p : Nat → α → Prop} : ∀ {t : Tr α} {ix : Nat → Nat}, Tr.All p t ix → ∀ {k : Nat} {x : α}, t.get k = some x → p (ix k) x := by
 intro t
 induction t with
 | nil => intro ix _ k x h; simp [Tr.get] at h
 | node l v r ihl ihr =>
  intro ix ha k x h
  obtain ⟨h0, h1, h2⟩ := ha
  cases k with
  | zero =>
   simp only [Tr.get] at h
   subst h
   exact h0
  | succ k =>
   simp only [Tr.get] at h
   have hd : k.div 2 = k / 2 := rfl
   split at h
   ·rename_i hb
    have hb' : k % 2 = 0 := Nat.eq_of_beq_eq_true hb
    have := ihl h1 h
    rw [hd] at this
    rwa [show 2 * (k / 2) + 1 = k + 1 by omega] at this
   ·rename_i hb
    have hb' : k % 2 ≠ 0 := Nat.ne_of_beq_eq_false hb
    have := ihr h2 h
    rw [hd] at this
    rwa [show 2 * (k / 2) + 2 = k + 1 by omega] at this

def scrFix (τ : Nat → Nat) (N : Nat) : List (Nat × Value) → Prop
 | [] => True
 | (_, v) :: l => renV τ N v = some v ∧ scrFix τ N l

theorem scrFix_get {τ : Nat → Nat} {N : Nat} : ∀ {l : List (Nat × Value)}, scrFix τ N l → ∀ {t : Nat} {v : Value}, scan l t = some v → renV τ N v = some v
 | [], _, t, v, h => by simp [scan] at h
 | (k, u) :: l, hf, t, v, h => by
  simp only [scan] at h
  split at h
  ·cases h; exact hf.1
  ·exact scrFix_get hf.2 h

theorem RenO.same {τ : Nat → Nat} {N : Nat} {st : LoopState} {pend : Option Code} {m n d : Nat} {en : En} {params : Array Tmp} {assign body : Code} (hb : Tr.All (fun _ v => renV τ N v = some v) en.base id) (hs : scrFix τ N en.scr)
  (hd : τ d = d) (hd' : Nat.blt d N = true) : RenO τ N (.loop st pend m en n params assign body d) (.loop st pend m en n params assign body d) :=
 .loop (fun t v h => by
  refine ⟨v, h, ?_⟩
  simp only [En.get] at h
  split at h
  ·exact hb.get h
  ·exact scrFix_get hs h) hd hd'

def famAt (A : AW) (i : Nat) : Nat :=
 match A.heap.get i with
 | some (.cells _ _ f _) => Nat.succ f
 | _ => 0

def apartN (A : AW) (i j : Nat) : Bool := !Nat.beq i j && (Nat.beq (famAt A i) 0 || !Nat.beq (famAt A i) (famAt A j))

def renM (τ : Nat → Nat) (N : Nat) : List Nat → Option (List Nat)
 | [] => some []
 | i :: l => match Nat.blt i N, renM τ N l with
  | true, some l => some (τ i :: l)
  | _, _ => none

theorem DRel.fewer {β : Nat} {γ γ' : Gam} {W : World} (hle : ∀ i g, γ' i = some g → ∃ j, γ j = some g) {D : List Deferred} (h : DRel β γ W [] D) : DRel β γ' W [] D := by
 generalize hl : ([] : List Nat) = l at h
 induction h with
 | nil => exact .nil
 | cons _ _ _ => cases hl
 | dead hB hb hu hd _ ih => exact .dead hB hb (fun i g hg => by obtain ⟨j, hj⟩ := hle i g hg; exact hu j g hj) hd (ih hl)

theorem renM_ok {β : Nat} {τ : Nat → Nat} {N : Nat} {γ : Gam} {W : World} {l0 : List Nat} {D : List Deferred} (hr : DRel β γ W l0 D) : ∀ {l : List Nat}, renM τ N l = some l0 → DRel β (renG τ N γ) W l D := by
 induction hr with
 | nil =>
  intro l h
  cases l with
  | nil => exact .nil
  | cons i l => simp only [renM] at h; split at h <;> cases h
 | cons hg hl ih =>
  intro l h
  cases l with
  | nil => cases h
  | cons i l =>
   simp only [renM] at h
   split at h
   ·rename_i l1 hb e
    cases h
    exact .cons (by rw [renG_of hb]; exact hg) (ih e)
   ·cases h
 | dead hB hb hu hd hl ih =>
  intro l h
  refine .dead hB hb (fun i g hg => ?_) hd (ih h)
  unfold renG at hg
  split at hg
  ·exact hu _ _ hg
  ·cases hg

theorem Ren.of {C : Cfg} {m n : Nat} {γ0 : Gam} {W0 : World} (τ : Nat → Nat) (n0 : Nat) {s s1 : List (Nat × Value)} {T T1 : Tr Value} {ms ms1 : List Nat} {A A1 : AW} (hs1 : s1 = [])
  (h0 : ∀ i, n0 ≤ i → γ0 i = none) (hn : n0 ≤ A1.next) (hτ : ∀ i, i < n0 → τ i = i)
  (hT : Tr.All (fun t v' => ∃ v, T.get t = some v ∧ renV τ A1.next v' = some v) T1 id)
  (hms : renM τ A1.next ms1 = some ms)
  (hobj : Tr.All (fun i o' => Nat.blt i A1.next = true ∧ (∃ o, A.heap.get (τ i) = some o ∧ RenO τ A1.next o' o) ∧ (match o' with | .cells _ _ f _ => i ∈ A1.members f ∧ Nat.blt f A1.next = true | _ => True) ∧
   Tr.All (fun j _ => (Nat.beq i j || apartN A (τ i) (τ j)) = true) A1.heap id) A1.heap id)
  (hfam : Tr.All (fun f _ => Nat.blt f A1.next = true) A1.fams id) : Ren C m n γ0 W0 ⟨⟨s, T⟩, ms, A⟩ ⟨⟨s1, T1⟩, ms1, A1⟩ := by
 subst hs1
 intro γ a W hs hb
 refine ⟨renG τ A1.next γ, ⟨fun t v hv => ?_, hs.size, renM_ok hs.df hms, ⟨fun i o hi => ?_, fun i g hg => ?_, fun i hi => ?_, fun i j o o' g g' hi hj hg hg' he => ?_, fun i c e f sz hi => ?_, fun i c e f sz hi => ?_, fun f hf => ?_⟩⟩, ⟨⟨fun i g hg => ?_, fun i g hg => ?_, hb.ext.size, hb.ext.block, hb.ext.os, hb.ext.tape, hb.ext.output, hb.ext.drawn⟩, ⟨fun b k v hv => ?_, fun b hv => ?_⟩⟩⟩
 ·simp only [En.get] at hv
  split at hv
  ·rename_i hbit
   obtain ⟨v0, e0, e1⟩ := hT.get hv
   obtain ⟨x, hx, hr⟩ := hs.tm t v0 (by simp only [En.get, hbit]; exact e0)
   exact ⟨x, hx, renV_ok τ _ γ v e1 hr⟩
  ·simp [scan] at hv
 ·obtain ⟨hlt, ⟨o0, ho0, hr⟩, _, _⟩ := hobj.get hi
  obtain ⟨g, hg, hor⟩ := hs.w.obj _ _ ho0
  have hlt : Nat.blt i A1.next = true := hlt
  exact ⟨g, by rw [renG_of hlt]; exact hg, hr.ok hor⟩
 ·unfold renG at hg
  split at hg
  ·exact hs.w.lt _ _ hg
  ·cases hg
 ·unfold renG
  split
  ·rename_i hlt
   have := blt_lt hlt
   have hi : A1.next ≤ i := hi
   omega
  ·rfl
 ·obtain ⟨hlt, ⟨o0, ho0, hr⟩, _, hap⟩ := hobj.get hi
  obtain ⟨hlt', ⟨p0, hp0, hr'⟩, _, _⟩ := hobj.get hj
  have hap := hap.get hj
  have hlt : Nat.blt i A1.next = true := hlt
  have hlt' : Nat.blt j A1.next = true := hlt'
  rw [renG_of hlt] at hg
  rw [renG_of hlt'] at hg'
  simp only [id, Bool.or_eq_true] at hap
  rcases hap with hap | hap
  ·exact .inl (Nat.eq_of_beq_eq_true hap)
  ·exfalso
   simp only [apartN, Bool.and_eq_true, Bool.or_eq_true, Bool.not_eq_true'] at hap
   obtain ⟨q1, q2⟩ := hap
   have hne := Nat.ne_of_beq_eq_false q1
   rcases hs.w.sep _ _ _ _ _ _ ho0 hp0 hg hg' he with h | ⟨c, e, c', e', fam, sz, sz', h1, h2, h3⟩
   ·exact hne h
   ·subst h1 h2
    have f1 : famAt A (τ i) = Nat.succ fam := by unfold famAt; rw [show τ i = τ (id i) from rfl, ho0]
    have f2 : famAt A (τ j) = Nat.succ fam := by unfold famAt; rw [show τ j = τ (id j) from rfl, hp0]
    rw [f1, f2] at q2
    rcases q2 with q2 | q2
    ·have := Nat.eq_of_beq_eq_true q2; omega
    ·exact Nat.ne_of_beq_eq_false q2 rfl
 ·obtain ⟨_, _, hm, _⟩ := hobj.get hi
  exact hm.1
 ·obtain ⟨_, _, hm, _⟩ := hobj.get hi
  exact blt_lt hm.2
 ·cases hf' : A1.fams.get f with
  | none => rfl
  | some l =>
   have : f < A1.next := blt_lt (hfam.get hf')
   have hf : A1.next ≤ f := hf
   omega
 ·have hi : i < n0 := by
   by_cases c : i < n0
   ·exact c
   ·rw [h0 i (by omega)] at hg; cases hg
  have hlt : Nat.blt i A1.next = true := Nat.ble_eq_true_of_le (by omega)
  rw [renG_of hlt, hτ i hi]
  exact hb.ext.le i g hg
 ·unfold renG at hg
  split at hg
  ·by_cases c : i < n0
   ·rw [hτ i c] at hg
    exact hb.ext.new i g hg
   ·refine .inr ⟨h0 i (by omega), ?_⟩
    rcases hb.ext.new _ _ hg with h | ⟨_, h⟩
    ·exact .inr ⟨_, g, h, rfl⟩
    ·exact h
  ·cases hg
 ·obtain ⟨h1, h2⟩ := hb.ro.rd b k v hv
  refine ⟨fun i g hg => ?_, h2⟩
  unfold renG at hg
  split at hg
  ·exact h1 _ _ hg
  ·cases hg
 ·obtain ⟨h1, h2⟩ := hb.ro.wr b hv
  refine ⟨fun i g hg => ?_, h2⟩
  unfold renG at hg
  split at hg
  ·exact h1 _ _ hg
  ·cases hg

end Go.Ev
