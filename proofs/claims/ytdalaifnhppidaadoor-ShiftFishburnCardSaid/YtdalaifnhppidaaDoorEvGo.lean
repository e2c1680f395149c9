/- Memory that grows: a row that is made loses its name, and is read from then on. -/
import Derived.Test.YtdalaifnhppidaaDoorEvRd
namespace Go.Ev
open Go
set_option linter.unusedVariables false
set_option linter.unusedSimpArgs false

structure Mem.le (r r' : Mem) : Prop where
 sub : ∀ b k u, r b k = some u → r' b k = some u
 new : ∀ b k u, r' b k = some u → r b k = some u ∨ ∀ k', r b k' = none
 own : ∀ b, r.own b = true → r'.own b = true
instance {r r' : Mem} : CoeFun (Mem.le r r') fun _ => ∀ b k u, r b k = some u → r' b k = some u := ⟨Mem.le.sub⟩
theorem Mem.le_refl (r : Mem) : Mem.le r r := ⟨fun _ _ _ h => h, fun _ _ _ h => .inl h, fun _ h => h⟩
theorem Mem.le_trans {a b c : Mem} (h : Mem.le a b) (k : Mem.le b c) : Mem.le a c := ⟨fun x y u e => k.sub x y u (h.sub x y u e), fun x y u e => by
 have low : (∀ j, b x j = none) → ∀ j, a x j = none := fun hn j => by
  cases q : a x j with
  | none => rfl
  | some v => have := h.sub _ _ _ q; rw [hn j] at this; cases this
 rcases k.new x y u e with q | q
 ·exact h.new x y u q
 ·exact .inr (low q), fun x e => k.own x (h.own x e)⟩

/-! ### a name is taken away -/

def frzC (c : Nat) : Nat := match Nat.blt c unk with
 | true => c
 | false => 0

mutual
def frzV (j b o : Nat) : Value → Option Value
 | .pointer (some ⟨i, k, none⟩) => match Nat.beq i j with
  | true => some (.pointer (some ⟨b, o + k, some 0⟩))
  | false => some (.pointer (some ⟨i, k, none⟩))
 | .slice (some ⟨i, k, none⟩) l c => match Nat.beq i j with
  | true => match Nat.beq l 0 && Nat.beq c unkE with
   | true => some (.slice (some ⟨i, k, none⟩) l c)
   | false => some (.slice (some ⟨b, o + k, some 0⟩) l (frzC c))
  | false => some (.slice (some ⟨i, k, none⟩) l c)
 | .map (some i) => match Nat.beq i j with
  | true => none
  | false => some (.map (some i))
 | .func f ⟨a⟩ ⟨c⟩ => match gnd (.func f ⟨a⟩ ⟨c⟩) with
  | true => some (.func f ⟨a⟩ ⟨c⟩)
  | false => none
 | .iface t v => match frzV j b o v with
  | some v => some (.iface t v)
  | none => none
 | .agg ⟨l⟩ => match frzVs j b o l with
  | some l => some (.agg ⟨l⟩)
  | none => none
 | .tuple ⟨l⟩ => match gnds l with
  | true => some (.tuple ⟨l⟩)
  | false => none
 | v => some v
def frzVs (j b o : Nat) : List Value → Option (List Value)
 | [] => some []
 | v :: l => match frzV j b o v, frzVs j b o l with
  | some v, some l => some (v :: l)
  | _, _ => none
end

def offG (j : Nat) (γ : Gam) : Gam := fun i => match Nat.beq i j with
 | true => none
 | false => γ i
theorem offG_of {j i : Nat} {γ : Gam} (h : Nat.beq i j = false) : offG j γ i = γ i := by unfold offG; rw [h]
theorem offG_sub {j i : Nat} {γ : Gam} {g : GI} (h : offG j γ i = some g) : i ≠ j ∧ γ i = some g := by
 unfold offG at h
 split at h
 ·cases h
 ·rename_i hb
  exact ⟨Nat.ne_of_beq_eq_false hb, h⟩

theorem FRel.off {j : Nat} {γ : Gam} {f f' : Fn} (h : FRel γ f f') (hg : ∀ i, f ≠ .yield i) : FRel (offG j γ) f f' := by
 cases h with
 | func f => exact .func f
 | method s => exact .method s
 | methodOf t s => exact .methodOf t s
 | via t p f b => exact .via t p f b
 | yield h => exact absurd rfl (hg _)

section
variable {γ : Gam} {j : Nat} {g : GI}
mutual
theorem frzV_ok (hj : γ j = some g) : (v : Value) → ∀ {u x : Value}, frzV j g.blk g.off v = some u → VRel γ v x → VRel (offG j γ) u x
 | .bool b, _, _, h, hr => by simp only [frzV, Option.some.injEq] at h; subst h; cases hr; exact .bool _
 | .int k n, _, _, h, hr => by simp only [frzV, Option.some.injEq] at h; subst h; cases hr; exact .int _ _
 | .float k n, _, _, h, hr => by simp only [frzV, Option.some.injEq] at h; subst h; cases hr; exact .float _ _
 | .complex k m n, _, _, h, hr => by simp only [frzV, Option.some.injEq] at h; subst h; cases hr; exact .complex _ _ _
 | .string s, _, _, h, hr => by simp only [frzV, Option.some.injEq] at h; subst h; cases hr; exact .string _
 | .pointer none, _, _, h, hr => by simp only [frzV, Option.some.injEq] at h; subst h; cases hr; exact .ptrNil
 | .pointer (some ⟨i, k, none⟩), _, _, h, hr => by
  simp only [frzV] at h
  split at h
  ·rename_i hb
   have e := Nat.eq_of_beq_eq_true hb
   subst e
   cases h
   cases hr with
   | ptr k hg => rw [hj] at hg; cases hg; exact .ptrRo _ _ _
  ·rename_i hb
   cases h
   cases hr with
   | ptr k hg => exact .ptr k (by rw [offG_of hb]; exact hg)
 | .pointer (some ⟨i, k, some s⟩), _, _, h, hr => by
  simp only [frzV, Option.some.injEq] at h
  subst h
  cases hr
  exact .ptrRo _ _ _
 | .slice none l c, _, _, h, hr => by
  simp only [frzV, Option.some.injEq] at h
  subst h
  cases hr
  exact .sliceNil
 | .slice (some ⟨i, k, none⟩) l c, _, _, h, hr => by
  simp only [frzV] at h
  split at h
  ·rename_i hb
   have e := Nat.eq_of_beq_eq_true hb
   subst e
   split at h
   ·rename_i hz
    cases h
    simp only [Bool.and_eq_true] at hz
    have e1 := Nat.eq_of_beq_eq_true hz.1
    have e2 := Nat.eq_of_beq_eq_true hz.2
    subst e1 e2
    cases hr with
    | slice k l c c' hg hc => exact .sliceE _ _ _
    | sliceE a a' c' => exact .sliceE _ _ _
   ·rename_i hz
    cases h
    cases hr with
    | slice k l c c' hg hc =>
     rw [hj] at hg
     cases hg
     refine .sliceRo _ _ _ _ _ _ ?_ ?_
     ·unfold frzC
      split
      ·rename_i hb; exact blt_lt hb
      ·decide
     ·unfold frzC
      split
      ·rename_i hb
       have := blt_lt hb
       rcases hc with ⟨rfl, _⟩ | ⟨rfl, _⟩
       ·exact Nat.le_refl _
       ·omega
      ·exact Nat.zero_le _
    | sliceE a a' c' =>
     exfalso
     simp at hz
  ·rename_i hb
   cases h
   cases hr with
   | slice k l c c' hg hc => exact .slice _ _ _ _ (by rw [offG_of hb]; exact hg) hc
   | sliceE a a' c' => exact .sliceE _ _ _
 | .slice (some ⟨i, k, some s⟩) l c, _, _, h, hr => by
  simp only [frzV, Option.some.injEq] at h
  subst h
  cases hr with
  | sliceRo b k s l c c' h hc => exact .sliceRo _ _ _ _ _ _ h hc
  | sliceE a a' c' => exact .sliceE _ _ _
 | .map none, _, _, h, hr => by simp only [frzV, Option.some.injEq] at h; subst h; cases hr; exact .mapNil
 | .map (some i), _, _, h, hr => by
  simp only [frzV] at h
  split at h
  ·cases h
  ·rename_i hb
   cases h
   cases hr with
   | map hg => exact .map (by rw [offG_of hb]; exact hg)
 | .chan c, _, _, h, hr => by simp only [frzV, Option.some.injEq] at h; subst h; cases hr; exact .chanNil
 | .func f ⟨a⟩ ⟨c⟩, _, _, h, hr => by
  simp only [frzV] at h
  split at h
  ·rename_i hg
   cases h
   have := hr.eq_of_gnd hg
   rw [this]
   exact VRel.of_gnd _ _ hg
  ·cases h
 | .nilFunc, _, _, h, hr => by simp only [frzV, Option.some.injEq] at h; subst h; cases hr; exact .nilFunc
 | .iface t v, _, _, h, hr => by
  simp only [frzV] at h
  split at h
  ·rename_i v1 e1
   cases h
   cases hr with
   | iface t hv => exact .iface t (frzV_ok hj v e1 hv)
  ·cases h
 | .nilIface, _, _, h, hr => by simp only [frzV, Option.some.injEq] at h; subst h; cases hr; exact .nilIface
 | .agg ⟨l⟩, _, _, h, hr => by
  simp only [frzV] at h
  split at h
  ·rename_i l1 e1
   cases h
   cases hr with
   | agg hv => exact .agg (frzVs_ok hj l e1 hv)
  ·cases h
 | .tuple ⟨l⟩, _, _, h, hr => by
  simp only [frzV] at h
  split at h
  ·rename_i hg
   cases h
   have := hr.eq_of_gnd hg
   rw [this]
   exact VRel.of_gnd _ _ hg
  ·cases h
theorem frzVs_ok (hj : γ j = some g) : (l : List Value) → ∀ {l1 l' : List Value}, frzVs j g.blk g.off l = some l1 → VsRel γ l l' → VsRel (offG j γ) l1 l'
 | [], _, _, h, hr => by simp only [frzVs, Option.some.injEq] at h; subst h; cases hr; exact .nil
 | v :: l, _, _, h, hr => by
  simp only [frzVs] at h
  split at h
  ·rename_i v1 l1 e1 e2
   cases h
   cases hr with
   | cons hv hl => exact .cons (frzV_ok hj v e1 hv) (frzVs_ok hj l e2 hl)
  ·cases h
end
end

mutual
theorem frzV_nn (j b o : Nat) : (v : Value) → nn v = true → frzV j b o v = some v
 | .bool _, _ => rfl
 | .int _ _, _ => rfl
 | .float _ _, _ => rfl
 | .complex _ _ _, _ => rfl
 | .string _, _ => rfl
 | .pointer none, _ => rfl
 | .pointer (some ⟨_, _, none⟩), h => by simp [nn, gnd] at h
 | .pointer (some ⟨_, _, some _⟩), _ => rfl
 | .slice none _ _, _ => rfl
 | .slice (some ⟨_, _, none⟩) _ _, h => by simp [nn, gnd] at h
 | .slice (some ⟨_, _, some _⟩) _ _, _ => rfl
 | .map none, _ => rfl
 | .map (some _), h => by simp [nn, gnd] at h
 | .chan _, _ => rfl
 | .func f ⟨a⟩ ⟨c⟩, h => by
  have h' : gnd (.func f ⟨a⟩ ⟨c⟩) = true := h
  simp only [frzV, h']
 | .nilFunc, _ => rfl
 | .iface t v, h => by simp only [frzV, frzV_nn j b o v h]
 | .nilIface, _ => rfl
 | .agg ⟨l⟩, h => by simp only [frzV, frzVs_nn j b o l h]
 | .tuple ⟨l⟩, h => by
  have h' : gnds l = true := h
  simp only [frzV, h']
theorem frzVs_nn (j b o : Nat) : (l : List Value) → nns l = true → frzVs j b o l = some l
 | [], _ => rfl
 | v :: l, h => by
  simp only [nns, Bool.and_eq_true] at h
  simp only [frzVs, frzV_nn j b o v h.1, frzVs_nn j b o l h.2]
end

theorem frzVs_app (j b o : Nat) : ∀ (l l2 l' l2' : List Value), frzVs j b o l = some l' → frzVs j b o l2 = some l2' → frzVs j b o (l ++ l2) = some (l' ++ l2')
 | [], _, _, _, h, h2 => by simp only [frzVs, Option.some.injEq] at h; subst h; exact h2
 | v :: l, l2, l', l2', h, h2 => by
  simp only [frzVs] at h
  split at h
  ·rename_i v1 l1 e1 e2
   cases h
   simp only [List.cons_append, frzVs, e1, frzVs_app j b o l l2 l1 l2' e2 h2]
  ·cases h

theorem frzVs_get {j b o : Nat} : ∀ {l l' : List Value} {k : Nat} {u : Value}, frzVs j b o l = some l' → l'[k]? = some u → ∃ v, l[k]? = some v ∧ frzV j b o v = some u
 | [], _, k, u, h, hk => by simp only [frzVs, Option.some.injEq] at h; subst h; simp at hk
 | v :: l, l', k, u, h, hk => by
  simp only [frzVs] at h
  split at h
  ·rename_i v1 l1 e1 e2
   cases h
   cases k with
   | zero => simp at hk; subst hk; exact ⟨v, rfl, e1⟩
   | succ k =>
    obtain ⟨x, h1, h2⟩ := frzVs_get e2 (by simpa using hk)
    exact ⟨x, by simpa using h1, h2⟩
  ·cases h

def frzO (j b o : Nat) : List (Option Value) → Option (List (Option Value))
 | [] => some []
 | none :: l => match frzO j b o l with
  | some l => some (none :: l)
  | none => none
 | some v :: l => match frzV j b o v, frzO j b o l with
  | some v, some l => some (some v :: l)
  | _, _ => none

def frzA (j b o : Nat) : AObj → Option AObj
 | .cells c e f z => match frzVs j b o c with
  | some c => some (.cells c e f z)
  | none => none
 | .defd => some .defd
 | _ => none

def frzAs (j b o : Nat) : List (Option AObj) → Option (List (Option AObj))
 | [] => some []
 | none :: l => match frzAs j b o l with
  | some l => some (none :: l)
  | none => none
 | some v :: l => match frzA j b o v, frzAs j b o l with
  | some v, some l => some (some v :: l)
  | _, _ => none

theorem frzAs_get {j b o : Nat} : ∀ {l l' : List (Option AObj)} {k : Nat} {u : AObj}, frzAs j b o l = some l' → l'[k]? = some (some u) → ∃ v, l[k]? = some (some v) ∧ frzA j b o v = some u
 | [], _, k, u, h, hk => by simp only [frzAs, Option.some.injEq] at h; subst h; simp at hk
 | none :: l, l', k, u, h, hk => by
  simp only [frzAs] at h
  split at h
  ·rename_i l1 e2
   cases h
   cases k with
   | zero => simp at hk
   | succ k =>
    obtain ⟨x, h1, h2⟩ := frzAs_get e2 (by simpa using hk)
    exact ⟨x, by simpa using h1, h2⟩
  ·cases h
 | some v :: l, l', k, u, h, hk => by
  simp only [frzAs] at h
  split at h
  ·rename_i v1 l1 e1 e2
   cases h
   cases k with
   | zero => simp at hk; subst hk; exact ⟨v, rfl, e1⟩
   | succ k =>
    obtain ⟨x, h1, h2⟩ := frzAs_get e2 (by simpa using hk)
    exact ⟨x, by simpa using h1, h2⟩
  ·cases h
theorem frzAs_len {j b o : Nat} : ∀ {l l' : List (Option AObj)}, frzAs j b o l = some l' → l'.length = l.length
 | [], _, h => by simp only [frzAs, Option.some.injEq] at h; subst h; rfl
 | none :: l, l', h => by
  simp only [frzAs] at h
  split at h
  ·rename_i l1 e2
   cases h
   simp [frzAs_len e2]
  ·cases h
 | some v :: l, l', h => by
  simp only [frzAs] at h
  split at h
  ·rename_i v1 l1 e1 e2
   cases h
   simp [frzAs_len e2]
  ·cases h

theorem bT_frz {j b o : Nat} : ∀ {lv : List Nat} {vs vs' : List (Option Value)} {T T' : Tr Value}, frzO j b o vs = some vs' → (∀ t v', T'.get t = some v' → ∃ v, T.get t = some v ∧ frzV j b o v = some v') →
  ∀ t v', (bT lv vs' T').get t = some v' → ∃ v, (bT lv vs T).get t = some v ∧ frzV j b o v = some v'
 | [], vs, vs', T, T', h, hT => by cases vs <;> cases vs' <;> exact hT
 | t0 :: lv, [], vs', T, T', h, hT => by
  simp only [frzO, Option.some.injEq] at h
  subst h
  exact hT
 | t0 :: lv, none :: vs, vs', T, T', h, hT => by
  simp only [frzO] at h
  split at h
  ·rename_i l1 e2
   cases h
   exact bT_frz (lv := lv) e2 hT
  ·cases h
 | t0 :: lv, some v :: vs, vs', T, T', h, hT => by
  simp only [frzO] at h
  split at h
  ·rename_i v1 l1 e1 e2
   cases h
   refine bT_frz (lv := lv) e2 fun t v' ht => ?_
   rw [Tr.get_put] at ht ⊢
   by_cases c : t = t0
   ·rw [if_pos c] at ht ⊢
    cases ht
    exact ⟨v, rfl, e1⟩
   ·rw [if_neg c] at ht ⊢
    exact hT t v' ht
  ·cases h

theorem bH_old : ∀ {os : List (Option AObj)} {i : Nat} {t : Tr AObj} {j : Nat}, j < i → (bH i os t).get j = t.get j
 | [], _, _, _, _ => rfl
 | none :: os, i, t, j, h => bH_old (os := os) (i := i + 1) (by omega)
 | some o :: os, i, t, j, h => by
  show (bH (i + 1) os (t.put i (some o))).get j = _
  rw [bH_old (os := os) (i := i + 1) (by omega), Tr.get_put_other _ _ _ (by omega)]
theorem bH_at : ∀ {os : List (Option AObj)} {i : Nat} {t : Tr AObj} {k : Nat} {o : AObj}, os[k]? = some (some o) → (bH i os t).get (i + k) = some o
 | none :: os, i, t, 0, o, h => by simp at h
 | some x :: os, i, t, 0, o, h => by
  simp at h
  subst h
  show (bH (i + 1) os (t.put i (some x))).get i = _
  rw [bH_old (by omega), Tr.get_put_same]
 | none :: os, i, t, k + 1, o, h => by
  have := bH_at (os := os) (i := i + 1) (t := t) (k := k) (o := o) (by simpa using h)
  rw [show i + (k + 1) = i + 1 + k by omega]
  exact this
 | some x :: os, i, t, k + 1, o, h => by
  have := bH_at (os := os) (i := i + 1) (t := t.put i (some x)) (k := k) (o := o) (by simpa using h)
  rw [show i + (k + 1) = i + 1 + k by omega]
  exact this
theorem mkA_at {os : List (Option AObj)} {k : Nat} {o : AObj} (h : os[k]? = some (some o)) : (mkA os).heap.get k = some o := by
 have := bH_at (i := 0) (t := .nil) h
 rwa [Nat.zero_add] at this

theorem DRel.off {β : Nat} {γ : Gam} {W : World} {j : Nat} {l : List Nat} {D : List Deferred} (hd : DRel β γ W l D) : l = [] → DRel β (offG j γ) W [] D := by
 induction hd with
 | nil => exact fun _ => .nil
 | cons h hl ih => intro h; cases h
 | dead hB hb hu hd hl ih => exact fun h => .dead hB hb (fun i g hg => hu i g (offG_sub hg).2) hd (ih h)

structure Frz (γ0 : Gam) (W0 : World) (r r1 : Mem) (b : Nat) : Prop where
 fresh : ∀ k, r b k = none
 own : r1.own b = true
 other : ∀ b', b' ≠ b → (∀ k, r1 b' k = r b' k) ∧ r1.own b' = r.own b'
 may : b < W0.heap.size → ∃ i g, γ0 i = some g ∧ g.blk = b

theorem freeze_rel {P : Program} {m n : Nat} {γ0 γ : Gam} {W0 W : World} {a : Act} {r : Mem} {lv : List Nat} {vs : List (Option Value)} {os0 : List (Option AObj)} {c : List Value} {e j z : Nat}
  (hs : SRel W0.heap.size γ m n (St.of lv vs [] (os0 ++ [some (.cells c e j z)])) a W) (hb : Base (Cfg.sym P r) γ0 W0 γ W) (h0 : γ0 j = none) (hj : os0.length = j) (hsm : someAs os0 = true) (hc : m_nns c = true) :
  ∃ b off r1, Mem.le r r1 ∧ Frz γ0 W0 r r1 b ∧ (∀ k u, c[k]? = some u → r1 b (off + k) = some u) ∧ ∀ vs' os', frzO j b off vs = some vs' → frzAs j b off os0 = some os' →
   SRel W0.heap.size (offG j γ) m n (St.of lv vs' [] os') a W ∧ Base (Cfg.sym P r1) γ0 W0 (offG j γ) W := by
 have hw : WRel γ (mkA (os0 ++ [some (.cells c e j z)])) W := hs.w
 have hgetj : (mkA (os0 ++ [some (.cells c e j z)])).heap.get j = some (.cells c e j z) := mkA_at (by rw [List.getElem?_append_right (by omega), hj, Nat.sub_self]; rfl)
 obtain ⟨g, hg, ho⟩ := hw.obj _ _ hgetj
 have hnext : (mkA (os0 ++ [some (.cells c e j z)])).next = j + 1 := by
  show lenO _ = _
  rw [lenO_eq, List.length_append, hj]; rfl
 have hmem : ∀ i c' e' f' z', (mkA (os0 ++ [some (.cells c e j z)])).heap.get i = some (.cells c' e' f' z') → f' = i := fun i c' e' f' z' hi => by
  have h := hw.mem i c' e' f' z' hi
  have : i ∈ (match (Tr.nil : Tr (List Nat)).get f' with | some l => l | none => [f']) := h
  simp [Tr.get] at this
  exact this.symm
 have hfar : ∀ i g', offG j γ i = some g' → g'.blk ≠ g.blk := fun i g' hi hbk => by
  obtain ⟨hne, hi⟩ := offG_sub hi
  have hlt : i < j := by
   by_cases hc : i < j
   ·exact hc
   ·have := hw.fresh i (by rw [hnext]; omega)
    rw [this] at hi; cases hi
  obtain ⟨o, ho'⟩ := someAs_ok hsm i (by omega)
  have hgi : (mkA (os0 ++ [some (.cells c e j z)])).heap.get i = some o := mkA_at (by rw [List.getElem?_append_left (by omega)]; exact ho')
  rcases hw.sep i j _ _ _ _ hgi hgetj hi hg hbk with h | ⟨c1, e1, c2, e2, fam, s1, s2, h1, h2, _⟩
  ·exact hne h
  ·subst h1
   cases h2
   exact hne (hmem _ _ _ _ _ hgi).symm
 cases ho with
 | cells hbk hf hn hz hcr =>
  rename_i cc fr
  let r1 : Mem := ⟨fun b k => if b = g.blk then (if g.off ≤ k then c[k - g.off]? else none) else r b k, fun b => Nat.beq b g.blk || r.own b⟩
  have hro : Ro r γ W := hb.ro
  have hle : Mem.le r r1 := ⟨fun b k u hu => by
   have hne : b ≠ g.blk := fun e => (hro.rd b k u hu).1 _ _ hg e.symm
   show (if b = g.blk then _ else _) = _
   rw [if_neg hne]; exact hu, fun b k u hu => by
   by_cases e : b = g.blk
   ·refine .inr fun k' => ?_
    rw [e]
    cases hk : r g.blk k' with
    | none => rfl
    | some u => exact absurd rfl ((hro.rd _ _ _ hk).1 _ _ hg)
   ·refine .inl ?_
    have h2 : (if b = g.blk then (if g.off ≤ k then c[k - g.off]? else none) else r b k) = some u := hu
    rwa [if_neg e] at h2, fun b hb => by
   show (Nat.beq b g.blk || r.own b) = true
   rw [hb, Bool.or_true]⟩
  have hrow : ∀ k u, c[k]? = some u → r1 g.blk (g.off + k) = some u := fun k u hu => by
   show (if g.blk = g.blk then (if g.off ≤ g.off + k then c[g.off + k - g.off]? else none) else _) = _
   rw [if_pos rfl, if_pos (by omega), show g.off + k - g.off = k by omega]; exact hu
  have hF : Frz γ0 W0 r r1 g.blk := by
   refine ⟨fun k => ?_, ?_, fun b' hne => ⟨fun k => if_neg hne, ?_⟩, fun hlt => ?_⟩
   ·cases hk : r g.blk k with
    | none => rfl
    | some u => exact absurd rfl ((hro.rd _ _ _ hk).1 _ _ hg)
   ·show (Nat.beq g.blk g.blk || r.own g.blk) = true
    rw [Nat.beq_refl]; rfl
   ·show (Nat.beq b' g.blk || r.own b') = r.own b'
    rw [natF hne]; rfl
   ·rcases hb.ext.new _ _ hg with h | ⟨_, h | ⟨i, x, h1, h2⟩⟩
    ·rw [h0] at h; cases h
    ·omega
    ·exact ⟨i, x, h1, h2⟩
  refine ⟨g.blk, g.off, r1, hle, hF, hrow, fun vs' os' hv ha => ⟨⟨fun t v ht => ?_, hs.size, DRel.off hs.df rfl, ⟨fun i o hi => ?_, fun i g' hi => hw.lt _ _ (offG_sub hi).2, fun i hi => ?_, fun i k o o' g' g'' hi hk hgi hgk hbb => ?_, fun i c' e' f' z' hi => ?_, fun i c' e' f' z' hi => ?_, fun _ _ => rfl⟩⟩, ⟨⟨fun i g' hi => ?_, fun i g' hi => ?_, hb.ext.size, hb.ext.block, hb.ext.os, hb.ext.tape, hb.ext.output, hb.ext.drawn⟩, ⟨fun b k v hr => ?_, fun b hr => ?_⟩⟩⟩⟩
  ·simp only [St.of, En.get] at ht
   split at ht
   ·rename_i hbit
    obtain ⟨v0, h1, h2⟩ := bT_frz (lv := lv) (T := .nil) (T' := .nil) hv (fun t v' h => by simp [Tr.get] at h) t v ht
    obtain ⟨x, hx, hr⟩ := hs.tm t v0 (by simp only [St.of, En.get, hbit]; exact h1)
    exact ⟨x, hx, frzV_ok hg v0 h2 hr⟩
   ·simp [scan] at ht
  ·obtain ⟨o0, h1, h2⟩ := frzAs_get ha (mkA_get hi)
   have hlt : i < os0.length := (List.getElem?_eq_some_iff.1 h1).1
   have hgi : (mkA (os0 ++ [some (.cells c e j z)])).heap.get i = some o0 := mkA_at (by rw [List.getElem?_append_left hlt]; exact h1)
   obtain ⟨g', hg', hor⟩ := hw.obj _ _ hgi
   refine ⟨g', by rw [offG_of (natF (by omega))]; exact hg', ?_⟩
   unfold frzA at h2
   split at h2
   ·split at h2
    ·rename_i c1 e1
     cases h2
     cases hor with
     | cells q1 q2 q3 q4 q5 =>
      refine .cells q1 q2 q3 q4 fun k v hk => ?_
      obtain ⟨v0, w1, w2⟩ := frzVs_get e1 hk
      obtain ⟨x, w3, w4⟩ := q5 k v0 w1
      exact ⟨x, w3, frzV_ok hg v0 w2 w4⟩
    ·cases h2
   ·cases h2
    cases hor with
    | defd h => exact .defd h
   ·cases h2
  ·have hi' : os'.length ≤ i := by have : lenO os' ≤ i := hi; rwa [lenO_eq] at this
   rw [frzAs_len ha, hj] at hi'
   by_cases c : i = j
   ·unfold offG; rw [c, Nat.beq_refl]
   ·rw [offG_of (natF c)]
    exact hw.fresh i (by rw [hnext]; omega)
  ·obtain ⟨o1, h1, h2⟩ := frzAs_get ha (mkA_get hi)
   obtain ⟨o2, h3, h4⟩ := frzAs_get ha (mkA_get hk)
   have l1 : i < os0.length := (List.getElem?_eq_some_iff.1 h1).1
   have l2 : k < os0.length := (List.getElem?_eq_some_iff.1 h3).1
   have e1 : (mkA (os0 ++ [some (.cells c e j z)])).heap.get i = some o1 := mkA_at (by rw [List.getElem?_append_left l1]; exact h1)
   have e2 : (mkA (os0 ++ [some (.cells c e j z)])).heap.get k = some o2 := mkA_at (by rw [List.getElem?_append_left l2]; exact h3)
   rcases hw.sep i k _ _ _ _ e1 e2 (offG_sub hgi).2 (offG_sub hgk).2 hbb with h | ⟨c1, e1', c2, e2', fam, s1, s2, q1, q2, q3⟩
   ·exact .inl h
   ·subst q1 q2
    exact .inl ((hmem _ _ _ _ _ e1).symm.trans (hmem _ _ _ _ _ e2))
  ·obtain ⟨o1, h1, h2⟩ := frzAs_get ha (mkA_get hi)
   have l1 : i < os0.length := (List.getElem?_eq_some_iff.1 h1).1
   have e1 : (mkA (os0 ++ [some (.cells c e j z)])).heap.get i = some o1 := mkA_at (by rw [List.getElem?_append_left l1]; exact h1)
   unfold frzA at h2
   split at h2
   ·split at h2
    ·cases h2
     have := hmem _ _ _ _ _ e1
     subst this
     show f' ∈ (match (Tr.nil : Tr (List Nat)).get f' with | some l => l | none => [f'])
     simp [Tr.get]
    ·cases h2
   ·cases h2
   ·cases h2
  ·obtain ⟨o1, h1, h2⟩ := frzAs_get ha (mkA_get hi)
   have l1 : i < os0.length := (List.getElem?_eq_some_iff.1 h1).1
   have e1 : (mkA (os0 ++ [some (.cells c e j z)])).heap.get i = some o1 := mkA_at (by rw [List.getElem?_append_left l1]; exact h1)
   show f' < lenO os'
   rw [lenO_eq, frzAs_len ha]
   unfold frzA at h2
   split at h2
   ·split at h2
    ·cases h2
     have := hmem _ _ _ _ _ e1
     subst this
     exact l1
    ·cases h2
   ·cases h2
   ·cases h2
  ·have hne : i ≠ j := fun e => by subst e; rw [h0] at hi; cases hi
   rw [offG_of (natF hne)]
   exact hb.ext.le i g' hi
  ·exact hb.ext.new i g' (offG_sub hi).2
  ·have hr' : (if b = g.blk then (if g.off ≤ k then c[k - g.off]? else none) else r b k) = some v := hr
   by_cases c1 : b = g.blk
   ·rw [if_pos c1] at hr'
    by_cases c2 : g.off ≤ k
    ·rw [if_pos c2] at hr'
     obtain ⟨v', w1, w2⟩ := hcr _ _ hr'
     rw [show g.off + (k - g.off) = k by omega] at w1
     exact ⟨fun i g' hi => by rw [c1]; exact hfar i g' hi, cc, e, fr, v', by rw [c1]; exact hbk, w1, fun γ' => w2.of_nn (nns_get hc hr')⟩
    ·rw [if_neg c2] at hr'; cases hr'
   ·rw [if_neg c1] at hr'
    obtain ⟨w1, w2⟩ := hro.rd b k v hr'
    exact ⟨fun i g' hi => w1 i g' (offG_sub hi).2, w2⟩
  ·have hr' : (Nat.beq b g.blk || r.own b) = true := hr
   by_cases c1 : b = g.blk
   ·exact ⟨fun i g' hi => by rw [c1]; exact hfar i g' hi, cc, e, fr, by rw [c1]; exact hbk, hf⟩
   ·rw [natF c1, Bool.false_or] at hr'
    obtain ⟨w1, w2⟩ := hro.wr b hr'
    exact ⟨fun i g' hi => w1 i g' (offG_sub hi).2, w2⟩

end Go.Ev
