/- Contracts used where the arguments are the caller's own, or in memory of any kind; answers that lie in one new row. -/
import Derived.Test.YtdalaifnhppidaaDoorEvSym
namespace Go.Ev
open Go

def mark : Value → Option Value
 | .slice (some ⟨b, k, none⟩) l c => some (.slice (some ⟨b, k, some 0⟩) l (match Nat.blt c unk with | true => c | false => 0))
 | v => match gnd v with
  | true => some v
  | false => none

theorem mark_rel {v v' : Value} (h : mark v' = some v) (γ : Gam) : VRel γ v v' := by
 unfold mark at h
 split at h
 ·rename_i b k l c
  cases h
  refine .sliceRo _ _ _ _ _ _ ?_ ?_
  ·cases hb : Nat.blt c unk with
   | true => exact Nat.le_of_ble_eq_true hb
   | false => show 0 < unk; unfold unk; omega
  ·cases hb : Nat.blt c unk with
   | true => exact Nat.le_refl _
   | false => exact Nat.zero_le _
 ·split at h
  ·rename_i hg
   cases h
   exact VRel.of_gnd γ _ hg
  ·cases h

def memW (W : World) : Mem := ⟨fun b j =>
 match W.heap[b]? with
 | some (.cells cc _ _) => (cc[j]?).bind mark
 | _ => none, fun _ => false⟩

theorem memW_ro (W : World) : Ro (memW W) noG W := ⟨fun b j v h => by
 refine ⟨fun _ _ e => (nomatch e), ?_⟩
 simp only [memW] at h
 split at h
 ·rename_i cc e fr hb
  cases hc : cc[j]? with
  | none => rw [hc] at h; cases h
  | some v' =>
   rw [hc] at h
   exact ⟨cc, e, fr, v', hb, hc, mark_rel h⟩
 ·exact (nomatch h), fun _ h => (nomatch h)⟩

theorem mark_gnd {v : Value} (h : gnd v = true) : mark v = some v := by
 unfold mark
 split
 ·simp [gnd] at h
 ·rw [h]

def AW.rd (A : AW) (r : Mem) (a : Addr) (j : Nat) : Option Value :=
 match a.spot with
 | none => A.cell a.block (Nat.add a.off j)
 | some _ => r a.block (Nat.add a.off j)

theorem rd_world {r : Mem} {γ : Gam} {A : AW} {W : World} (hw : WRel γ A W) (hR : Ro r γ W) {a : Addr} {len cap : Nat} {v' : Value} (hv : VRel γ (.slice (some a) len cap) v') (hE : Nat.beq cap unkE = false) :
  ∃ b k c', v' = .slice (some ⟨b, k, none⟩) len c' ∧ ∀ j v, A.rd r a j = some v → gnd v = true → memW W b (k + j) = some v := by
 cases hv with
 | slice k l c c' hg hc =>
  rename_i i g
  refine ⟨g.blk, g.off + k, c', rfl, fun j v hj hgv => ?_⟩
  simp only [AW.rd, AW.cell] at hj
  split at hj
  ·rename_i cs e f z hi
   obtain ⟨g', hg', ho⟩ := hw.obj _ _ hi
   rw [hg] at hg'
   cases hg'
   cases ho with
   | cells hb _ _ _ hcs =>
    obtain ⟨u, hu, hr⟩ := hcs _ v hj
    have := hr.eq_of_gnd hgv
    subst this
    have hu' : _ = _ := hu
    simp only [memW, hb]
    rw [Nat.add_assoc, show k + j = k.add j from rfl, hu']
    exact mark_gnd hgv
  ·cases hj
 | sliceRo b k s l c c' h hc =>
  refine ⟨b, k, c', rfl, fun j v hj hgv => ?_⟩
  simp only [AW.rd] at hj
  obtain ⟨_, cc, e, fr, u, hb, hu, hr⟩ := hR.rd _ _ _ hj
  have := (hr γ).eq_of_gnd hgv
  subst this
  simp only [memW, hb]
  rw [show k + j = k.add j from rfl, hu]
  exact mark_gnd hgv
 | sliceE => simp at hE

theorem POk.of {C : Cfg} {f : Nat} {args : List Value} {A : AW} {v : Value} (hg : gnd v = true)
  (h : ∀ γ W args', WRel γ A W → Ro C.ro γ W → VsRel γ args (Array.toList args') → ∃ r args0, Ro r noG W ∧ VsRel noG args0 args'.toList ∧ GrT C.P r f args0 v) : POk C f args A v :=
 ⟨hg, fun F hF k γ W args' hw hR ha => by
  obtain ⟨r, args0, h1, h2, h3⟩ := h γ W args' hw hR ha
  exact h3.2 F hF k W args' h1 h2⟩

/-! ### answers in one new row -/

def rowA (c : List Value) (e sz : Nat) : AW := ⟨1, Tr.nil.put 0 (some (.cells c e 0 sz)), .nil⟩

def GrM (P : Program) (r : Mem) (f : Nat) (args : List Value) (v : Value) (A0 : AW) : Prop :=
 ∀ F, Wide F → ∀ k W args', Ro r noG W → VsRel noG args (Array.toList args') → CallsIn F k P f args' W (Ends noG W v A0)

def name1 (i : Nat) : Value → Value
 | .slice (some ⟨_, k, none⟩) l c => .slice (some ⟨i, k, none⟩) l c
 | v => v

def nameV (i : Nat) : Value → Value
 | .tuple ⟨l⟩ => .tuple ⟨l.map (name1 i)⟩
 | v => name1 i v

def of1 (i : Nat) : Value → Bool
 | .slice (some ⟨j, _, none⟩) l c => Nat.beq j i || (Nat.beq l 0 && Nat.beq c unkE)
 | v => gnd v

def ofV (i : Nat) : Value → Bool
 | .tuple ⟨l⟩ => l.all (of1 i)
 | v => of1 i v

def row1 : Value → Option Nat
 | .slice (some ⟨j, _, none⟩) l c => match Nat.beq c unkE && Nat.beq l 0 with
  | true => none
  | false => some j
 | _ => none

def rowsOf : List Value → Option Nat
 | [] => none
 | v :: l => match row1 v with
  | some j => some j
  | none => rowsOf l

def rowOf : Value → Option Nat
 | .tuple ⟨l⟩ => rowsOf l
 | v => row1 v

def finM : KV := fun v A =>
 match rowOf v with
 | none => match gnd v with
  | true => .ret v emptyA
  | false => .fail 450
 | some i => match A.heap.get i, ofV i v with
  | some (.cells c e _ sz), true => guardK (gnds c) (.ret (nameV 0 v) (rowA c e sz))
  | _, _ => .fail 451

theorem name1_rel {γ γ' : Gam} {i j : Nat} {v v' : Value} (h : VRel γ v v') (hv : of1 i v = true) (he : ∀ g, γ i = some g → γ' j = some g) : VRel γ' (name1 j v) v' := by
 unfold of1 at hv
 split at hv
 ·simp only [name1]
  cases h with
  | slice k l c c' hg hc =>
   simp only [Bool.or_eq_true, Bool.and_eq_true] at hv
   rcases hv with hv | hv
   ·have := Nat.eq_of_beq_eq_true hv
    subst this
    exact .slice _ _ _ _ (he _ hg) hc
   ·have e1 := Nat.eq_of_beq_eq_true hv.1
    have e2 := Nat.eq_of_beq_eq_true hv.2
    subst e1 e2
    exact .sliceE _ _ _
  | sliceE a a' c' => exact .sliceE _ _ _
 ·have hn : name1 j v = v := by
   unfold name1
   split
   ·rename_i hx; exact absurd rfl (hx _ _ _ _)
   ·rfl
  rw [hn, h.eq_of_gnd hv]
  exact VRel.of_gnd γ' v hv

theorem names_rel {γ γ' : Gam} {i j : Nat} (he : ∀ g, γ i = some g → γ' j = some g) : ∀ {l l' : List Value}, VsRel γ l l' → l.all (of1 i) = true → VsRel γ' (l.map (name1 j)) l'
 | _, _, .nil, _ => .nil
 | _, _, .cons h hl, hv => by
  simp only [List.all_cons, Bool.and_eq_true] at hv
  exact .cons (name1_rel h hv.1 he) (names_rel he hl hv.2)

theorem nameV_rel {γ γ' : Gam} {i j : Nat} {v v' : Value} (h : VRel γ v v') (hv : ofV i v = true) (he : ∀ g, γ i = some g → γ' j = some g) : VRel γ' (nameV j v) v' := by
 unfold ofV at hv
 split at hv
 ·cases h with
  | tuple hl => exact .tuple (names_rel he hl hv)
 ·rename_i hnt
  have : nameV j v = name1 j v := by
   unfold nameV
   split
   ·exact absurd rfl (hnt _)
   ·rfl
  rw [this]
  exact name1_rel h hv he

def g0 (g : GI) : Gam := fun j => match j with
 | 0 => some g
 | _ => none

theorem finM_rel {γ : Gam} {A A0 : AW} {W W' : World} {v v' u : Value} (h : finM v A = .ret u A0) (hv : VRel γ v v') (hw : WRel γ A W') (hx : Ext noG W γ W') : ∃ γ0, VRel γ0 u v' ∧ WRel γ0 A0 W' ∧ Ext noG W γ0 W' := by
 unfold finM at h
 split at h
 ·split at h
  ·rename_i hg
   cases h
   refine ⟨noG, ?_, WRel.empty W', ⟨fun _ _ e => (nomatch e), fun _ _ e => (nomatch e), hx.size, fun b hb _ => hx.block b hb fun _ _ e => (nomatch e), hx.os, hx.tape, hx.output, hx.drawn⟩⟩
   rw [hv.eq_of_gnd hg]
   exact VRel.of_gnd _ _ hg
  ·cases h
 ·rename_i i hi
  split at h
  ·rename_i c e f sz hget hof
   obtain ⟨hgc, h⟩ := guardK_use h
   cases h
   obtain ⟨g, hg, ho⟩ := hw.obj _ _ hget
   have hnew : W.heap.size ≤ g.blk := by
    rcases hx.new i g hg with hh | ⟨_, hh | ⟨_, _, hh, _⟩⟩
    ·cases hh
    ·exact hh
    ·cases hh
   have hget0 : ∀ j o, (rowA c e sz).heap.get j = some o → j = 0 ∧ o = .cells c e 0 sz := fun j o hj => by
    simp only [rowA, Tr.get_put] at hj
    by_cases hj0 : j = 0
    ·rw [if_pos hj0] at hj; cases hj; exact ⟨hj0, rfl⟩
    ·rw [if_neg hj0] at hj; simp [Tr.get] at hj
   have hg0 : ∀ j x, g0 g j = some x → j = 0 ∧ x = g := fun j x hj => by
    unfold g0 at hj
    split at hj
    ·cases hj; exact ⟨rfl, rfl⟩
    ·cases hj
   refine ⟨g0 g, nameV_rel hv hof fun g' hg' => ?_, ⟨fun j o hj => ?_, fun j x hj => ?_, fun j hj => ?_, fun j k o o' x x' hj hk _ _ _ => ?_, fun j c' e' f' z' hj => ?_, fun j c' e' f' z' hj => ?_, fun f' _ => rfl⟩, ⟨fun _ _ e => (nomatch e), fun j x hj => ?_, hx.size, fun b hb _ => hx.block b hb fun _ _ e => (nomatch e), hx.os, hx.tape, hx.output, hx.drawn⟩⟩
   ·rw [hg] at hg'; cases hg'; rfl
   ·obtain ⟨rfl, rfl⟩ := hget0 j o hj
    refine ⟨g, rfl, ?_⟩
    cases ho with
    | cells hb hf hn hz hc =>
     refine .cells hb hf hn hz fun k v hk => ?_
     obtain ⟨v', h1, h2⟩ := hc k v hk
     have hgv : gnd v = true := by
      have hall : ∀ (l : List Value) (k : Nat) (v : Value), gnds l = true → l[k]? = some v → gnd v = true := fun l => by
       induction l with
       | nil => intro k v _ h; simp at h
       | cons x l ih =>
        intro k v hl h
        simp only [gnds, Bool.and_eq_true] at hl
        cases k with
        | zero => simp at h; subst h; exact hl.1
        | succ k => exact ih k v hl.2 (by simpa using h)
      exact hall c k v hgc hk
     exact ⟨v', h1, by rw [h2.eq_of_gnd hgv]; exact VRel.of_gnd _ v hgv⟩
   ·obtain ⟨rfl, rfl⟩ := hg0 j x hj
    exact hw.lt _ _ hg
   ·have : j ≠ 0 := by simp [rowA] at hj; omega
    unfold g0
    split
    ·exact absurd rfl this
    ·rfl
   ·exact .inl ((hget0 j o hj).1.trans (hget0 k o' hk).1.symm)
   ·obtain ⟨rfl, h⟩ := hget0 j _ hj
    cases h
    simp [AW.members, rowA, Tr.get]
   ·obtain ⟨rfl, h⟩ := hget0 j _ hj
    cases h
    simp [rowA]
   ·obtain ⟨rfl, rfl⟩ := hg0 j x hj
    exact .inr ⟨rfl, .inl hnew⟩
  ·cases h

theorem GrM.of {C : Cfg} (hC : C.Ok) {t : Tbl} (ht : TOk C t) (ms : Tr Nat) {f : Nat} {args : List Value} {v : Value} {A0 : AW}
  (h : ∃ L d, (lvlT C t ms L d).call f args emptyA finM = .ret v A0) : GrM C.P C.ro f args v A0 := by
 intro F hF k W args' hR ha
 obtain ⟨L, d, hr⟩ := h
 have h1 := (lvlT_le (C := C) t ms L d).call _ _ _ _ _ _ hr
 cases hc : (lvlU C t ms L d).call f args emptyA with
 | fail w => rw [hc] at h1; cases h1
 | ret u A' =>
  rw [hc] at h1
  refine ((lvlU_ok hC ht ms L d).call noG _ W f args args' u A' hc (WRel.empty W) hR ha F hF k).mono fun e W' he => ?_
  obtain ⟨v', γ', rfl, hv, hw', hx⟩ := he
  obtain ⟨γ0, q1, q2, q3⟩ := finM_rel h1 hv hw' hx
  exact ⟨v', γ0, rfl, q1, q2, q3⟩

theorem WRel.add {γ : Gam} {A : AW} {W : World} (h : WRel γ A W) {g : GI} {c : List Value} {e sz : Nat} (ho : ORel γ W g (.cells c e A.next sz)) (hun : ∀ i g', γ i = some g' → g'.blk ≠ g.blk) :
  WRel (γ.set A.next g) (A.new (.cells c e A.next sz)) W := by
 have hnone : γ A.next = none := h.fresh _ (Nat.le_refl _)
 have hle : γ.le (γ.set A.next g) := Gam.le_set _ hnone
 have hget : ∀ j, (A.new (.cells c e A.next sz)).heap.get j = if j = A.next then some (.cells c e A.next sz) else A.heap.get j := fun j => by simp [AW.new, Tr.get_put]
 have hmem : ∀ f, (A.new (.cells c e A.next sz)).members f = A.members f := fun f => rfl
 refine ⟨?_, ?_, ?_, ?_, ?_, ?_, ?_⟩
 ·intro i x hi
  rw [hget] at hi
  by_cases hin : i = A.next
  ·rw [if_pos hin] at hi
   cases hi
   exact ⟨g, by rw [hin]; exact Gam.set_same _ _ _, ho.mono hle rfl⟩
  ·rw [if_neg hin] at hi
   obtain ⟨g', hg', hr⟩ := h.obj i x hi
   exact ⟨g', hle _ _ hg', hr.mono hle rfl⟩
 ·intro i g' hi
  rcases Gam.set_cases hi with ⟨_, rfl⟩ | ⟨_, hi⟩
  ·cases ho with
   | cells hb _ _ _ _ => exact lt_of_heap hb
  ·exact h.lt _ _ hi
 ·intro i hi
  have hne : i ≠ A.next := by simp [AW.new] at hi; omega
  rw [Gam.set_other _ _ hne]
  exact h.fresh i (by simp [AW.new] at hi; omega)
 ·intro i j x y gi gj hi hj hgi hgj hbb
  rw [hget] at hi hj
  rcases Gam.set_cases hgi with ⟨hi', rfl⟩ | ⟨hi', hgi'⟩ <;> rcases Gam.set_cases hgj with ⟨hj', rfl⟩ | ⟨hj', hgj'⟩
  ·exact .inl (hi'.trans hj'.symm)
  ·exact absurd hbb.symm (hun _ _ hgj')
  ·exact absurd hbb (hun _ _ hgi')
  ·rw [if_neg hi'] at hi
   rw [if_neg hj'] at hj
   exact h.sep i j x y gi gj hi hj hgi' hgj' hbb
 ·intro i c' e' fam sz' hi
  rw [hget] at hi
  rw [hmem]
  by_cases hin : i = A.next
  ·rw [if_pos hin] at hi
   cases hi
   rw [AW.members_next h.famfresh (Nat.le_refl _), hin]
   simp
  ·rw [if_neg hin] at hi
   exact h.mem i c' e' fam sz' hi
 ·intro i c' e' fam sz' hi
  rw [hget] at hi
  by_cases hin : i = A.next
  ·rw [if_pos hin] at hi
   cases hi
   simp [AW.new]
  ·rw [if_neg hin] at hi
   have := h.famlt i c' e' fam sz' hi
   simp [AW.new]
   omega
 ·intro f hf
  exact h.famfresh f (by simp [AW.new] at hf; omega)

theorem GrM.ends {P : Program} {r : Mem} {f : Nat} {args0 args : List Value} {v : Value} {c : List Value} {e sz : Nat} (h : GrM P r f args0 v (rowA c e sz)) (hof : ofV 0 v = true) (hgc : gnds c = true) {F : Fence} (hF : Wide F) {k : Nat} {γ : Gam} {A : AW} {W : World} {args' : Array Value}
  (hw : WRel γ A W) (hR : Ro r noG W) (ha : VsRel noG args0 args'.toList) (_ : VsRel γ args args'.toList) :
  CallsIn F k P f args' W (Ends γ W (nameV A.next v) (A.new (.cells c e A.next sz))) := by
 refine (h F hF k W args' hR ha).mono fun x W' he => ?_
 obtain ⟨v', γ0, rfl, hv, hw0, hx⟩ := he
 have hx' : Ext noG W noG W' := ⟨fun _ _ h => h, fun _ _ h => (nomatch h), hx.size, fun b hb _ => hx.block b hb fun _ _ e => (nomatch e), hx.os, hx.tape, hx.output, hx.drawn⟩
 obtain ⟨q1, q2⟩ := hw.more hx'
 have hget : (rowA c e sz).heap.get 0 = some (.cells c e 0 sz) := by simp [rowA, Tr.get_put]
 obtain ⟨g, hg, ho⟩ := hw0.obj _ _ hget
 have hnew : W.heap.size ≤ g.blk := by
  rcases hx.new 0 g hg with hh | ⟨_, hh | ⟨_, _, hh, _⟩⟩
  ·cases hh
  ·exact hh
  ·cases hh
 have hun : ∀ i g', γ i = some g' → g'.blk ≠ g.blk := fun i g' hi hb => by
  have := hw.lt i g' hi
  omega
 have ho' : ORel γ W' g (.cells c e A.next sz) := by
  cases ho with
  | cells hb hf hn hz hc =>
   refine .cells hb hf hn hz fun k v hk => ?_
   obtain ⟨v', h1, h2⟩ := hc k v hk
   have hall : ∀ (l : List Value) (k : Nat) (v : Value), gnds l = true → l[k]? = some v → gnd v = true := fun l => by
    induction l with
    | nil => intro k v _ h; simp at h
    | cons x l ih =>
     intro k v hl h
     simp only [gnds, Bool.and_eq_true] at hl
     cases k with
     | zero => simp at h; subst h; exact hl.1
     | succ k => exact ih k v hl.2 (by simpa using h)
   have hgv := hall c k v hgc hk
   exact ⟨v', h1, by rw [h2.eq_of_gnd hgv]; exact VRel.of_gnd _ v hgv⟩
 have hadd := q1.add ho' hun
 refine ⟨v', γ.set A.next g, rfl, nameV_rel hv hof fun g' hg' => ?_, hadd, ⟨Gam.le_set _ (hw.fresh _ (Nat.le_refl _)), fun i x hi => ?_, hx.size, fun b hb _ => hx.block b hb fun _ _ e => (nomatch e), hx.os, hx.tape, hx.output, hx.drawn⟩⟩
 ·rw [hg] at hg'; cases hg'; exact Gam.set_same _ _ _
 ·rcases Gam.set_cases hi with ⟨rfl, rfl⟩ | ⟨_, hi⟩
  ·exact .inr ⟨hw.fresh _ (Nat.le_refl _), .inl hnew⟩
  ·exact .inl hi

theorem GrM.plain {P : Program} {r : Mem} {f : Nat} {args : List Value} {v : Value} (h : GrM P r f args v emptyA) (hg : gnd v = true) : GrT P r f args v :=
 ⟨hg, fun F hF k W args' hR ha => (h F hF k W args' hR ha).mono fun e W' he => by
  obtain ⟨v', γ0, rfl, hv, _, hx⟩ := he
  exact ⟨by rw [hv.eq_of_gnd hg], hx.below⟩⟩

end Go.Ev
