/- What the compiled evaluator answers, the evaluator answers: regions, code, calls. -/
import Derived.Test.YtdalaifnhppidaaDoorEvCeq
namespace Go.Ev
open Go

theorem cPut_use {C : Cfg} {m n : Nat} {d : Option Nat} {s : List (Nat × Value)} {b : Tr Value} {v : Value} {c : List (Nat × Value) → Tr Value → CR} {v0 : Value} {A0 : AW} (h : (cPut C m n d).f s b v c = .ret v0 A0) :
  ∃ e : En, setEn m n ⟨s, b⟩ d v = some e ∧ c e.scr e.base = .ret v0 A0 := by
 cases d with
 | none => exact ⟨⟨s, b⟩, rfl, h⟩
 | some t =>
  simp only [cPut] at h
  simp only [setEn, En.set]
  cases ht : Nat.blt t n with
  | false => rw [ht] at h; cases h
  | true =>
   rw [ht] at h
   cases hm : Nat.testBit m t with
   | true =>
    rw [hm] at h
    have hp := trPut_eq (Nat.succ (Nat.log2 (Nat.succ t))) t
    simp only at h
    generalize trPut (Nat.succ (Nat.log2 (Nat.succ t))) t = g at h hp
    obtain ⟨g⟩ := g
    simp only [fany_eq] at h
    simp only at hp
    rw [hp] at h
    exact ⟨_, rfl, h⟩
   | false =>
    rw [hm] at h
    simp only [fany_eq] at h
    exact ⟨_, rfl, h⟩

def bindO (o : Out) (kn : KS) (kx : Nat → KS) (kr : KS) : CR :=
 match o with
 | .norm ⟨⟨s, b⟩, ms, A⟩ => kn s b ms A
 | .exit id ⟨⟨s, b⟩, ms, A⟩ => kx id s b ms A
 | .ret ⟨⟨s, b⟩, ms, A⟩ => kr s b ms A
 | .fail w => .fail w

theorem setD_of {m n : Nat} {s : St} {d : Option Nat} {v : Value} {A : AW} {e : En} (h : setEn m n s.en d v = some e) : setD m n s d v A = some ⟨e, s.marks, A⟩ := by
 cases d with
 | none => simp only [setEn, Option.some.injEq] at h; subst h; rfl
 | some t =>
  simp only [setEn] at h
  simp only [setD]
  split at h
  ·rename_i ht; cases h; rw [ht]
  ·cases h

theorem cOps_le {C : Cfg} {fs : FnsC} {fr : Fns} (hf : FLe fs fr) (m n : Nat) (all : List Oper) (kx : Nat → KS) (kr : KS) : ∀ (rest : List Oper) (k : KS) (s : List (Nat × Value)) (b : Tr Value) (ms : List Nat) (A : AW),
  le ((cOps C m n all rest).f fs k s b ms A) (bindO (evOps C fr m n all rest ⟨⟨s, b⟩, ms, A⟩) k kx kr)
 | [], _, _, _, _, _ => le.refl _
 | o :: rest, k, s, b, ms, A => by
  have ih := cOps_le (C := C) hf m n all kx kr rest
  intro v0 A0 h
  have hop := cOp_le (C := C) hf m o s b A
  have hput := @cPut_use C m n o.dst
  simp only [cOps] at h
  generalize cOps C m n all rest = gn at h ih
  generalize cOp C m o = gh at h hop
  generalize cPut C m n o.dst = gp at h hput
  obtain ⟨gn⟩ := gn
  obtain ⟨gh⟩ := gh
  obtain ⟨gp⟩ := gp
  have run : wantedE m all ⟨s, b⟩ o.guard = some true → gh fs s b A (fun v A => gp s b v fun s b => gn fs k s b ms A) = .ret v0 A0 → bindO (evOps C fr m n all (o :: rest) ⟨⟨s, b⟩, ms, A⟩) k kx kr = .ret v0 A0 := fun hw hr => by
   have hr := hop _ _ _ hr
   unfold opR at hr
   simp only [evOps, hw]
   have fin : ∀ {v : Value} {A' : AW}, gp s b v (fun s b => gn fs k s b ms A') = .ret v0 A0 → ∃ s', setD m n ⟨⟨s, b⟩, ms, A⟩ o.dst v A' = some s' ∧ bindO (evOps C fr m n all rest s') k kx kr = .ret v0 A0 := fun hv => by
    obtain ⟨e, h1, h2⟩ := hput hv
    exact ⟨_, setD_of h1, ih k e.scr e.base ms _ _ _ h2⟩
   cases ha : avail m ⟨s, b⟩ o.op.operands.toList with
   | false => rw [ha] at hr; cases hr
   | true =>
    rw [ha] at hr
    simp only at hr ⊢
    cases hd : doOp C (rho m ⟨s, b⟩) o A with
    | fail w => rw [hd] at hr; cases hr
    | val v A' =>
     rw [hd] at hr
     obtain ⟨s', h1, h2⟩ := fin hr
     simp only [h1]
     exact h2
    | call f args A1 =>
     rw [hd] at hr
     simp only at hr ⊢
     cases hc : fr.call f args A1 with
     | fail w => rw [hc] at hr; cases hr
     | ret v A' =>
      rw [hc] at hr
      obtain ⟨s', h1, h2⟩ := fin hr
      simp only [h1]
      exact h2
    | yield f args A1 =>
     rw [hd] at hr
     simp only at hr ⊢
     cases hc : fr.yield f args A1 with
     | fail w => rw [hc] at hr; cases hr
     | ret v A' =>
      rw [hc] at hr
      obtain ⟨s', h1, h2⟩ := fin hr
      simp only [h1]
      exact h2
  cases hg : o.guard with
  | none =>
   rw [hg] at h
   exact run (by rw [hg]; rfl) h
  | some g =>
   rw [hg] at h
   simp only at h
   rw [← hg] at h
   split at h
   ·cases h
   ·rename_i hw
    exact run hw h
   ·rename_i hw
    obtain ⟨e, h1, h2⟩ := hput h
    simp only [evOps, hw, setD_of (s := ⟨⟨s, b⟩, ms, A⟩) (A := A) h1]
    exact ih k e.scr e.base ms _ _ _ h2

def noR : Fns := ⟨fun _ _ _ => .fail 281, fun _ _ _ => .fail 281⟩

theorem no_le : FLe noC noR := ⟨fun _ _ _ _ => le.refl _, fun _ _ _ _ => le.refl _⟩

theorem plain_dGo {C : Cfg} {fr : Fns} {m n : Nat} {all : List Oper} {ms : List Nat} {s' : St} : ∀ (rest : List Oper) (en : En) (A : AW) (i : Nat) (cs : List Nat) (ws : List AW) (rs : List (Nat × Oper × En × Value)),
  rest.all (fun o => quietOp o.op) = true → evOps C noR m n all rest ⟨en, ms, A⟩ = .norm s' → ∃ rs', dGo C fr m n all rest i ⟨en, A, cs, ws, rs⟩ = some ⟨s'.en, A, cs, ws, rs'⟩ ∧ s' = ⟨s'.en, ms, A⟩ := by
 intro rest
 induction rest with
 | nil => intro en A i cs ws rs _ h; cases h; exact ⟨rs, rfl, rfl⟩
 | cons o rest ih =>
  intro en A i cs ws rs hq h
  simp only [List.all_cons, Bool.and_eq_true] at hq
  simp only [evOps] at h
  have hset : ∀ {v : Value} {A' : AW} {s1 : St}, setD m n ⟨en, ms, A⟩ o.dst v A' = some s1 → setEn m n en o.dst v = some s1.en ∧ s1 = ⟨s1.en, ms, A'⟩ := fun {v A' s1} hs => by
   cases hd : o.dst with
   | none => rw [hd] at hs; simp only [setD, Option.some.injEq] at hs; subst hs; exact ⟨rfl, rfl⟩
   | some t =>
    rw [hd] at hs
    simp only [setD] at hs
    simp only [setEn]
    split at hs
    ·rename_i ht; cases hs; rw [ht]; exact ⟨rfl, rfl⟩
    ·cases hs
  simp only [dGo]
  split at h
  ·cases h
  ·rename_i hw
   rw [hw]
   split at h
   ·rename_i s1 hs
    obtain ⟨h1, h2⟩ := hset hs
    simp only [h1]
    rw [h2] at h
    exact ih s1.en A (i + 1) cs ws rs hq.2 h
   ·cases h
  ·rename_i hw
   rw [hw]
   split at h
   ·cases h
   ·rename_i ha
    simp only [ha]
    cases hd : doOp C (rho m en) o A with
    | fail w => rw [hd] at h; cases h
    | val v A' =>
     rw [hd] at h
     simp only at h ⊢
     split at h
     ·rename_i s1 hs
      obtain ⟨h1, h2⟩ := hset hs
      have hA : A' = A := quiet_same hq.1 hd
      subst hA
      simp only [h1, hq.1]
      rw [h2] at h
      exact ih s1.en A' (i + 1) cs ws _ hq.2 h
     ·cases h
    | call f args A1 => rw [hd] at h; cases h
    | yield f args A1 => rw [hd] at h; cases h

theorem lookAll_nil {al : Nat → Bool} {all : List Oper} {ms : List Nat} : ∀ (l : List Oper) (i : Nat), lookAll al all ms [] l i = true
 | [], _ => rfl
 | o :: l, i => by simp only [lookAll, lookB, lookAll_nil l]

theorem plain_evDraw {C : Cfg} {fr : Fns} {m n : Nat} {ops : List Oper} {s s' : St} (hst : staticB ops = true) (hq : plainReg ops = true) (h : evOps C noR m n ops ops s = .norm s') : evDraw C fr m n ops s = .norm s' := by
 obtain ⟨en, ms, A⟩ := s
 obtain ⟨rs', h1, h2⟩ := plain_dGo (fr := fr) ops en A 0 [] [A] [] hq h
 unfold evDraw
 rw [hst]
 simp only [h1, pairB, lookAll_nil, Bool.and_self]
 rw [h2]

theorem evOps_out {C : Cfg} {fr : Fns} {m n : Nat} {all : List Oper} : ∀ (rest : List Oper) (s : St), (∃ s', evOps C fr m n all rest s = .norm s') ∨ ∃ w, evOps C fr m n all rest s = .fail w := by
 intro rest
 induction rest with
 | nil => intro s; exact .inl ⟨s, rfl⟩
 | cons o rest ih =>
  intro s
  simp only [evOps]
  repeat' (first | exact ih _ | exact .inr ⟨_, rfl⟩ | split)

def FrLe (f1 f2 : Fns) : Prop := (∀ f args A v A', f1.call f args A = .ret v A' → f2.call f args A = .ret v A') ∧ ∀ i args A v A', f1.yield i args A = .ret v A' → f2.yield i args A = .ret v A'

theorem FLe.ref {fs : FnsC} {fr : Fns} (h : FLe fs fr) : FrLe fs.ref fr := ⟨fun f args A v A' e => by
 have := h.call f args A .ret v A' e
 cases hc : fr.call f args A with
 | fail w => rw [hc] at this; cases this
 | ret u B => rw [hc] at this; exact this, fun i args A v A' e => by
 have := h.yield i args A .ret v A' e
 cases hc : fr.yield i args A with
 | fail w => rw [hc] at this; cases this
 | ret u B => rw [hc] at this; exact this⟩

theorem dGo_mono {C : Cfg} {f1 f2 : Fns} (h : FrLe f1 f2) {m n : Nat} {all : List Oper} : ∀ (rest : List Oper) (i : Nat) (d dF : DS), dGo C f1 m n all rest i d = some dF → dGo C f2 m n all rest i d = some dF := by
 intro rest
 induction rest with
 | nil => intro i d dF e; exact e
 | cons o rest ih =>
  intro i d dF e
  simp only [dGo] at e ⊢
  cases hw : wantedE m all d.en o.guard with
  | none => rw [hw] at e; cases e
  | some w =>
   rw [hw] at e
   cases w with
   | false =>
    simp only at e ⊢
    cases hs : setEn m n d.en o.dst undef with
    | none => rw [hs] at e; cases e
    | some en => rw [hs] at e; exact ih _ _ _ e
   | true =>
    simp only at e ⊢
    cases ha : avail m d.en o.op.operands.toList with
    | false => rw [ha] at e; cases e
    | true =>
     rw [ha] at e
     simp only at e ⊢
     cases hd : doOp C (rho m d.en) o d.A with
     | fail w => rw [hd] at e; cases e
     | yield f args A1 =>
      rw [hd] at e
      simp only at e ⊢
      cases hc : f1.yield f args A1 with
      | fail w => rw [hc] at e; cases e
      | ret v A =>
       rw [hc] at e
       rw [h.2 _ _ _ _ _ hc]
       simp only at e ⊢
       cases hs : setEn m n d.en o.dst v with
       | none => rw [hs] at e; cases e
       | some en => rw [hs] at e; exact ih _ _ _ e
     | val v A =>
      rw [hd] at e
      simp only at e ⊢
      cases hs : setEn m n d.en o.dst v with
      | none => rw [hs] at e; cases e
      | some en =>
       rw [hs] at e
       simp only at e ⊢
       cases hq : quietOp o.op with
       | true => rw [hq] at e; exact ih _ _ _ e
       | false => rw [hq] at e; exact ih _ _ _ e
     | call f args A1 =>
      rw [hd] at e
      simp only at e ⊢
      cases hc : f1.call f args A1 with
      | fail w => rw [hc] at e; cases e
      | ret v A =>
       rw [hc] at e
       rw [h.1 _ _ _ _ _ hc]
       simp only at e ⊢
       cases hs : setEn m n d.en o.dst v with
       | none => rw [hs] at e; cases e
       | some en => rw [hs] at e; exact ih _ _ _ e

theorem quiet_alS {o : Oper} (h : quietOp o.op = true) : alS o = false := by
 unfold alS
 split
 ·rename_i e ho; rw [ho] at h; cases h
 ·rename_i e ho; rw [ho] at h; cases h
 ·rename_i e ho; rw [ho] at h; cases h
 ·rfl

theorem plain_range {ms : List Nat} : ∀ (l : List Oper) (i : Nat), plainReg l = true → isRange (ordGo ms l i []) i = true
 | [], _, _ => rfl
 | o :: l, i, h => by
  simp only [plainReg, List.all_cons, Bool.and_eq_true] at h
  simp only [ordGo, quiet_alS h.1, List.filter_nil, List.nil_append, isRange, Nat.beq_refl]
  exact plain_range l _ h.2

theorem evDrawA_sy {C : Cfg} {fs : Fns} {m n : Nat} {all : List Oper} {s : St} (h : C.sy = true) : evDrawA C fs m n all s = evDraw C fs m n all s := by
 unfold evDrawA
 rw [h]

theorem evDrawA_plain {C : Cfg} {fs : Fns} {m n : Nat} {all : List Oper} {s : St} (h : plainReg all = true) : evDrawA C fs m n all s = evDraw C fs m n all s := by
 unfold evDrawA
 cases C.sy with
 | true => rfl
 | false => simp only [plain_range all 0 h]

theorem evDraw_mono {C : Cfg} {f1 f2 : Fns} (h : FrLe f1 f2) {m n : Nat} {all : List Oper} {s s' : St} (e : evDraw C f1 m n all s = .norm s') : evDraw C f2 m n all s = .norm s' := by
 unfold evDraw at e ⊢
 cases hst : staticB all with
 | false => rw [hst] at e; cases e
 | true =>
  rw [hst] at e
  simp only at e ⊢
  cases hd : dGo C f1 m n all all 0 ⟨s.en, s.A, [], [s.A], []⟩ with
  | none => rw [hd] at e; cases e
  | some d => rw [hd] at e; rw [dGo_mono h _ _ _ _ hd]; exact e

theorem evDrawA_mono {C : Cfg} {f1 f2 : Fns} (h : FrLe f1 f2) {m n : Nat} {all : List Oper} {s s' : St} (e : evDrawA C f1 m n all s = .norm s') : evDrawA C f2 m n all s = .norm s' := by
 unfold evDrawA at e ⊢
 cases hy : C.sy with
 | true => rw [hy] at e; exact evDraw_mono h e
 | false =>
  rw [hy] at e
  simp only at e ⊢
  cases hr : isRange (ordGo (masksGo all []) all 0 []) 0 with
  | true => rw [hr] at e; exact evDraw_mono h e
  | false =>
   rw [hr] at e
   simp only at e ⊢
   split at e
   ·exact evDraw_mono h e
   ·cases e

theorem sameK_use {C : Cfg} {al : Nat → Bool} {ms cs : List Nat} {m i : Nat} {o : Oper} {en : En} {v : Value} {c : CR} {v0 : Value} {A0 : AW} : ∀ {ws : List AW} {k : Nat}, sameK C al ms cs m i o en v ws k c = .ret v0 A0 →
  sameB C al ms cs m i o en v ws k = true ∧ c = .ret v0 A0
 | [], _, h => ⟨rfl, h⟩
 | A :: r, k, h => by
  simp only [sameK] at h
  simp only [sameB]
  cases hp : possB (al) ms i k cs 0 true with
  | false => rw [hp] at h; exact sameK_use h
  | true =>
   rw [hp] at h
   simp only at h ⊢
   have hop := cOp_le (C := C) no_le m o en.scr en.base A
   generalize cOp C m o = g at h hop
   obtain ⟨g⟩ := g
   have := hop _ _ _ h
   unfold opR at this
   cases ha : avail m ⟨en.scr, en.base⟩ o.op.operands.toList with
   | false => rw [ha] at this; cases this
   | true =>
    rw [ha] at this
    simp only at this
    cases hd : doOp C (rho m ⟨en.scr, en.base⟩) o A with
    | fail w => rw [hd] at this; cases this
    | call f args A1 => rw [hd] at this; cases this
    | yield f args A1 => rw [hd] at this; cases this
    | val v' A' =>
     rw [hd] at this
     obtain ⟨h1, h2⟩ := guardK_use this
     obtain ⟨h3, h4⟩ := sameK_use h2
     unfold m_eqv at h1
     simp only [h1]
     exact ⟨h3, h4⟩

theorem readsK_use {C : Cfg} {al : Nat → Bool} {ms cs : List Nat} {m : Nat} {ws : List AW} {c : CR} {v0 : Value} {A0 : AW} : ∀ {rs : RL}, readsK C al ms cs m ws rs c = .ret v0 A0 → readsB C al ms cs m ws rs = true ∧ c = .ret v0 A0
 | [], h => ⟨rfl, h⟩
 | (i, o, en, v) :: r, h => by
  simp only [readsK] at h
  simp only [readsB]
  cases hs : stillX m en o with
  | true => rw [hs] at h; exact readsK_use h
  | false =>
   rw [hs] at h
   simp only at h ⊢
   obtain ⟨h1, h2⟩ := sameK_use h
   rw [h1]
   exact readsK_use h2

theorem dGoK_use {C : Cfg} {fs : FnsC} {fr : Fns} (hf : FLe fs fr) {m n : Nat} {all : List Oper} {v0 : Value} {A0 : AW} : ∀ (rest : List Oper) (i : Nat) (k : DK) (en : En) (A : AW) (cs : List Nat) (ws : List AW) (rs : RL),
  (dGoK C m n all rest i).f fs k en A cs ws rs = .ret v0 A0 → ∃ d, dGo C fr m n all rest i ⟨en, A, cs, ws, rs⟩ = some d ∧ k d.en d.A d.cs d.ws d.rs = .ret v0 A0 := by
 intro rest
 induction rest with
 | nil => intro i k en A cs ws rs h; exact ⟨_, rfl, h⟩
 | cons o rest ih =>
  intro i k en A cs ws rs h
  have ih := ih (i + 1)
  have hop := cOp_le (C := C) hf m o en.scr en.base A
  have hput := @cPut_use C m n o.dst
  simp only [dGoK] at h
  generalize dGoK C m n all rest (Nat.succ i) = gn at h ih
  generalize cOp C m o = gh at h hop
  generalize cPut C m n o.dst = gp at h hput
  obtain ⟨gn⟩ := gn
  obtain ⟨gh⟩ := gh
  obtain ⟨gp⟩ := gp
  simp only [dGo]
  cases hst : stepOk o.op with
  | false => rw [hst] at h; cases h
  | true =>
   rw [hst] at h
   have skip : wantedE m all en o.guard = some false → (gp en.scr en.base undef fun s b => gn fs k ⟨s, b⟩ A cs ws rs) = .ret v0 A0 →
     ∃ e d, setEn m n en o.dst undef = some e ∧ dGo C fr m n all rest (i + 1) ⟨e, A, cs, ws, rs⟩ = some d ∧ k d.en d.A d.cs d.ws d.rs = .ret v0 A0 := fun _ hh => by
    obtain ⟨e, h1, h2⟩ := hput hh
    obtain ⟨d, h3, h4⟩ := ih k e A cs ws rs h2
    exact ⟨e, d, h1, h3, h4⟩
   cases hq : quietOp o.op with
   | true =>
    rw [hq] at h
    simp only at h
    cases hw : wantedE m all en o.guard with
    | none => rw [hw] at h; cases h
    | some w =>
     rw [hw] at h
     cases w with
     | false =>
      obtain ⟨e, d, h1, h2, h3⟩ := skip hw h
      simp only [h1]
      exact ⟨d, h2, h3⟩
     | true =>
      have hr := hop _ _ _ h
      unfold opR at hr
      simp only
      cases ha : avail m ⟨en.scr, en.base⟩ o.op.operands.toList with
      | false => rw [ha] at hr; cases hr
      | true =>
       rw [ha] at hr
       simp only at hr ⊢
       have hvf := vf_op (C := C) (A := A) (ρ := rho m ⟨en.scr, en.base⟩) (quiet_noFn hq)
       cases hd : doOp C (rho m ⟨en.scr, en.base⟩) o A with
       | fail w => rw [hd] at hr; cases hr
       | call f args A1 => rw [hd] at hvf; exact hvf.elim
       | yield f args A1 => rw [hd] at hvf; exact hvf.elim
       | val v A' =>
        rw [hd] at hr
        obtain ⟨e, h1, h2⟩ := hput hr
        have h1' : setEn m n en o.dst v = some e := h1
        simp only [h1']
        exact ih k e A cs ws _ h2
   | false =>
    rw [hq] at h
    simp only at h
    cases hw : wantedE m all en o.guard with
    | none => rw [hw] at h; cases h
    | some w =>
     rw [hw] at h
     cases w with
     | false =>
      obtain ⟨e, d, h1, h2, h3⟩ := skip hw h
      simp only [h1]
      exact ⟨d, h2, h3⟩
     | true =>
      have hr := hop _ _ _ h
      unfold opR at hr
      simp only
      cases ha : avail m ⟨en.scr, en.base⟩ o.op.operands.toList with
      | false => rw [ha] at hr; cases hr
      | true =>
       rw [ha] at hr
       simp only at hr ⊢
       have fin : ∀ {v : Value} {A' : AW}, (gp en.scr en.base v fun s b => gn fs k ⟨s, b⟩ A' (cs ++ [i]) (ws ++ [A']) rs) = .ret v0 A0 →
         ∃ e d, setEn m n en o.dst v = some e ∧ dGo C fr m n all rest (i + 1) ⟨e, A', cs ++ [i], ws ++ [A'], rs⟩ = some d ∧ k d.en d.A d.cs d.ws d.rs = .ret v0 A0 := fun hh => by
        obtain ⟨e, h1, h2⟩ := hput hh
        obtain ⟨d, h3, h4⟩ := ih k e _ _ _ rs h2
        exact ⟨e, d, h1, h3, h4⟩
       cases hd : doOp C (rho m ⟨en.scr, en.base⟩) o A with
       | fail w => rw [hd] at hr; cases hr
       | yield f args A1 => exact absurd hd (no_yield hst f args A1)
       | val v A' =>
        rw [hd] at hr
        obtain ⟨e, d, h1, h2, h3⟩ := fin hr
        simp only [h1]
        exact ⟨d, h2, h3⟩
       | call f args A1 =>
        rw [hd] at hr
        simp only at hr ⊢
        cases hc : fr.call f args A1 with
        | fail w => rw [hc] at hr; cases hr
        | ret v A' =>
         rw [hc] at hr
         obtain ⟨e, d, h1, h2, h3⟩ := fin hr
         simp only [h1]
         exact ⟨d, h2, h3⟩

theorem dGoK_le {C : Cfg} {fs : FnsC} {fr : Fns} (hf : FLe fs fr) {m n : Nat} {ops : List Oper} {kn : KS} {kx : Nat → KS} {kr : KS} {b : Tr Value} {ms : List Nat} {A : AW} (hst : staticB ops = true) :
  le ((dGoK C m n ops ops 0).f fs (drawEnd C ops m ms kn) ⟨[], b⟩ A [] [A] []) (bindO (evDraw C fr m n ops ⟨⟨[], b⟩, ms, A⟩) kn kx kr) := by
 intro v0 A0 h
 obtain ⟨d, h1, h2⟩ := dGoK_use hf ops 0 _ _ _ _ _ _ h
 unfold evDraw
 rw [hst]
 simp only [h1]
 unfold drawEnd at h2
 obtain ⟨h3, h4⟩ := guardK_use h2
 rw [h3]
 obtain ⟨⟨s, b⟩, A, cs, ws, rs⟩ := d
 cases cs with
 | nil => exact h4
 | cons c cs =>
  simp only at h4 ⊢
  obtain ⟨h5, h6⟩ := readsK_use h4
  rw [h5]
  exact h6

theorem cLoop_le {f : KS → KS} {g : St → Out} {kx : Nat → KS} {kr kn : KS} (h : ∀ k s b ms A, le (f k s b ms A) (bindO (g ⟨⟨s, b⟩, ms, A⟩) k kx kr)) :
  ∀ (L : Nat) (s : List (Nat × Value)) (b : Tr Value) (ms : List Nat) (A : AW), le (cLoop f L s b ms A) (bindO (evLoop g L ⟨⟨s, b⟩, ms, A⟩) kn kx kr)
 | 0, _, _, _, _ => le.fail _ _
 | L + 1, s, b, ms, A => by
  intro v0 A0 hr
  simp only [cLoop] at hr
  have := h _ _ _ _ _ _ _ hr
  simp only [evLoop]
  cases hg : g ⟨⟨s, b⟩, ms, A⟩ with
  | fail w => rw [hg] at this; cases this
  | norm s' =>
   rw [hg] at this
   obtain ⟨⟨s, b⟩, ms, A⟩ := s'
   exact cLoop_le h L s b ms A _ _ this
  | exit id s' => rw [hg] at this; exact this
  | ret s' => rw [hg] at this; exact this

theorem cCode_le {C : Cfg} {m n L : Nat} : ∀ (c : Code) {fs : FnsC} {fr : Fns}, FLe fs fr → ∀ (ro : Option Nat) (kn : KS) (kx : Nat → KS) (kr : KS) (s : List (Nat × Value)) (b : Tr Value) (ms : List Nat) (A : AW),
  le ((cCode C m n L c).f fs ro kn kx kr s b ms A) (bindO (evCode C fr m n ro L c ⟨⟨s, b⟩, ms, A⟩) kn kx kr) := by
 intro c
 induction c with
 | skip => intro fs fr _ ro kn kx kr s b ms A; exact le.refl _
 | label l => intro fs fr _ ro kn kx kr s b ms A; exact le.refl _
 | ret => intro fs fr _ ro kn kx kr s b ms A; exact le.refl _
 | exit id => intro fs fr _ ro kn kx kr s b ms A; exact le.refl _
 | region id ops d =>
  intro fs fr hf ro kn kx kr s b ms A v0 A0 h
  have ho := cOps_le (C := C) hf m n ops.toList kx kr ops.toList
  have hn := cOps_le (C := C) no_le m n ops.toList kx kr ops.toList
  simp only [cCode] at h
  cases d with
  | false =>
   simp only at h
   generalize cOps C m n ops.toList ops.toList = g at h ho
   obtain ⟨g⟩ := g
   exact ho _ _ _ _ _ _ _ h
  | true =>
   have gen : (match evDrawA C fs.ref m n ops.toList ⟨⟨[], b⟩, ms, A⟩ with
    | .norm ⟨⟨s, b⟩, ms, A⟩ => kn s b ms A
    | .fail w => .fail w
    | _ => .fail 280) = .ret v0 A0 → bindO (evCode C fr m n ro L (.region id ops true) ⟨⟨s, b⟩, ms, A⟩) kn kx kr = .ret v0 A0 := fun hg => by
    simp only [evCode, dropScr]
    cases he : evDrawA C fs.ref m n ops.toList ⟨⟨[], b⟩, ms, A⟩ with
    | norm s' => rw [he] at hg; rw [evDrawA_mono hf.ref he]; exact hg
    | fail w => rw [he] at hg; cases hg
    | exit j s' => rw [he] at hg; cases hg
    | ret s' => rw [he] at hg; cases hg
   cases hst : staticB ops.toList with
   | false => rw [hst] at h; simp only [Bool.and_false] at h; exact gen h
   | true =>
    rw [hst] at h
    cases hp : plainReg ops.toList with
    | false =>
     rw [hp] at h
     simp only [Bool.and_true] at h
     cases hy : C.sy with
     | false => rw [hy] at h; exact gen h
     | true =>
      rw [hy] at h
      have hk := @dGoK_le C fs fr hf m n ops.toList kn kx kr b ms A hst
      simp only at h
      generalize dGoK C m n ops.toList ops.toList 0 = g at h hk
      obtain ⟨g⟩ := g
      simp only [evCode, dropScr, evDrawA_sy hy]
      exact hk _ _ h
    | true =>
     rw [hp] at h
     simp only at h
     generalize cOps C m n ops.toList ops.toList = g at h hn
     obtain ⟨g⟩ := g
     have := hn _ _ _ _ _ _ _ h
     rcases evOps_out (C := C) (fr := noR) (m := m) (n := n) (all := ops.toList) ops.toList ⟨⟨[], b⟩, ms, A⟩ with ⟨s', hs'⟩ | ⟨w, hw⟩
     ·rw [hs'] at this
      simp only [evCode, dropScr, evDrawA_plain hp, plain_evDraw hst hp hs']
      exact this
     ·rw [hw] at this; cases this
 | seq x y ihx ihy =>
  intro fs fr hf ro kn kx kr s b ms A v0 A0 h
  have hx := ihx hf ro
  have hy := ihy hf ro
  simp only [cCode] at h
  generalize cCode C m n L x = gx at h hx
  generalize cCode C m n L y = gy at h hy
  obtain ⟨gx⟩ := gx
  obtain ⟨gy⟩ := gy
  have := hx _ _ _ _ _ _ _ _ _ h
  simp only [evCode]
  cases he : evCode C fr m n ro L x ⟨⟨s, b⟩, ms, A⟩ with
  | fail w => rw [he] at this; cases this
  | norm s' =>
   rw [he] at this
   obtain ⟨⟨s, b⟩, ms, A⟩ := s'
   exact hy _ _ _ _ _ _ _ _ _ this
  | exit id s' => rw [he] at this; exact this
  | ret s' => rw [he] at this; exact this
 | cond c x y ihx ihy =>
  intro fs fr hf ro kn kx kr s b ms A v0 A0 h
  have hx := ihx hf ro
  have hy := ihy hf ro
  have hc := @cOpd_use m c
  simp only [cCode] at h
  generalize cCode C m n L x = gx at h hx
  generalize cCode C m n L y = gy at h hy
  generalize cOpd m c = gc at h hc
  obtain ⟨gx⟩ := gx
  obtain ⟨gy⟩ := gy
  obtain ⟨gc⟩ := gc
  obtain ⟨h1, h2⟩ := hc h
  simp only [evCode, h1]
  split at h2
  ·rename_i hv; rw [hv]; exact hx _ _ _ _ _ _ _ _ _ h2
  ·rename_i hv; rw [hv]; exact hy _ _ _ _ _ _ _ _ _ h2
  ·cases h2
 | block id c ih =>
  intro fs fr hf ro kn kx kr s b ms A v0 A0 h
  have hc := ih hf ro
  simp only [cCode] at h
  generalize cCode C m n L c = gc at h hc
  obtain ⟨gc⟩ := gc
  have := hc _ _ _ _ _ _ _ _ _ h
  simp only [evCode]
  cases he : evCode C fr m n ro L c ⟨⟨s, b⟩, ms, A⟩ with
  | fail w => rw [he] at this; cases this
  | norm s' => rw [he] at this; exact this
  | ret s' => rw [he] at this; exact this
  | exit j s' =>
   rw [he] at this
   simp only [bindO] at this ⊢
   cases hj : Nat.beq j id with
   | true => rw [hj] at this; exact this
   | false => rw [hj] at this; exact this
 | loop c ih =>
  intro fs fr hf ro kn kx kr s b ms A v0 A0 h
  have hc := ih hf ro
  simp only [cCode] at h
  generalize cCode C m n L c = gc at h hc
  obtain ⟨gc⟩ := gc
  simp only [evCode]
  exact cLoop_le (fun k s b ms A => hc k kx kr s b ms A) L s b ms A _ _ h
 | rangeFunc f params assign body _ _ =>
  intro fs fr hf ro kn kx kr s b ms A v0 A0 h
  have hc := @cOpd_use m f
  simp only [cCode] at h
  generalize cOpd m f = gc at h hc
  obtain ⟨gc⟩ := gc
  obtain ⟨h1, h2⟩ := hc h
  simp only [evCode, evRange, h1]
  split at h2
  ·rename_i g first captured hv
   rw [hv]
   simp only
   cases hb : hasBody C g with
   | false => rw [hb] at h2; cases h2
   | true =>
    rw [hb] at h2
    simp only at h2 ⊢
    cases hr : rangeHead ro ⟨⟨s, b⟩, ms, A⟩ with
    | none => rw [hr] at h2; cases h2
    | some r =>
     obtain ⟨d, ms', A'⟩ := r
     rw [hr] at h2
     simp only at h2 ⊢
     have := hf.call _ _ _ _ _ _ h2
     cases hcall : fr.call g (first ++ [Value.func (.yield A'.next) ⟨[]⟩ ⟨[]⟩] ++ captured) (A'.new (.loop .ready none m ⟨s, b⟩ n params assign body d)) with
     | fail w => rw [hcall] at this; cases this
     | ret v A2 =>
      rw [hcall] at this
      simp only [bindCR, tailC] at this
      simp only
      cases ht : rangeTail A'.next ⟨s, b⟩ ms' A2 with
      | fail w => rw [ht] at this; cases this
      | norm s' => rw [ht] at this; exact this
      | exit id s' => rw [ht] at this; exact this
      | ret s' => rw [ht] at this; exact this
  ·cases h2
 | scope c ih => intro fs fr h ro kn kx kr s b ms A; exact ih h ro kn kx kr s b ms A
 | goto l => intro fs fr _ ro kn kx kr s b ms A; exact le.fail _ _
 | refuse w => intro fs fr _ ro kn kx kr s b ms A; exact le.fail _ _

theorem finK_le {C : Cfg} {m : Nat} {rs : List ResultVar} {k : KV} (s : List (Nat × Value)) (b : Tr Value) (ms : List Nat) (A : AW) : finK C m rs k s b ms A = bindCR (finish C m rs ⟨⟨s, b⟩, ms, A⟩) k := by
 unfold finK finish
 cases takeMarks ms A with
 | none => rfl
 | some A1 =>
  simp only
  cases resultsE C m ⟨s, b⟩ A1 rs <;> rfl

theorem cFun_le {C : Cfg} (ms : Tr Nat) (L : Nat) (f : Nat) {fs : FnsC} {fr : Fns} (hf : FLe fs fr) (args : List Value) (A : AW) (k : KV) : le ((cFun C ms L f).f fs args A k) (bindCR (callF C ms L fr f args A) k) := by
 intro v0 A0 h
 unfold cFun at h
 unfold callF
 cases hfn : C.fns.get f with
 | none => rw [hfn] at h; cases h
 | some fn =>
  rw [hfn] at h
  simp only at h ⊢
  cases hb : fn.body with
  | none => rw [hb] at h; cases h
  | some c =>
   rw [hb] at h
   simp only at h ⊢
   have hc := cCode_le (C := C) (m := maskFor ms f fn.ntmps) (n := fn.ntmps) (L := L) c hf none
   generalize cCode C (maskFor ms f fn.ntmps) fn.ntmps L c = g at h hc
   obtain ⟨g⟩ := g
   simp only at h
   cases hl : Nat.ble args.length fn.ntmps with
   | false => rw [hl] at h; cases h
   | true =>
    rw [hl] at h
    simp only at h ⊢
    have he : setArgs (maskFor ms f fn.ntmps) args 0 ⟨[], .nil⟩ = ⟨(setArgs (maskFor ms f fn.ntmps) args 0 ⟨[], .nil⟩).scr, (setArgs (maskFor ms f fn.ntmps) args 0 ⟨[], .nil⟩).base⟩ := rfl
    have h' := hc _ _ _ _ _ _ _ _ _ h
    cases ho : evCode C fr (maskFor ms f fn.ntmps) fn.ntmps none L c ⟨setArgs (maskFor ms f fn.ntmps) args 0 ⟨[], .nil⟩, [], A⟩ with
    | fail w => rw [he] at ho; rw [ho] at h'; cases h'
    | norm s' =>
     rw [he] at ho
     rw [ho] at h'
     simp only [bindO, finK_le] at h'
     exact h'
    | ret s' =>
     rw [he] at ho
     rw [ho] at h'
     simp only [bindO, finK_le] at h'
     exact h'
    | exit id s' => rw [he] at ho; rw [ho] at h'; cases h'

theorem endC_eq (i : Nat) (jump : Option Code) (k : KV) (s : List (Nat × Value)) (b : Tr Value) (ms : List Nat) (A : AW) : endC i jump k s b ms A = bindCR (endR i jump ⟨⟨s, b⟩, ms, A⟩) k := by
 unfold endC
 cases endR i jump ⟨⟨s, b⟩, ms, A⟩ <;> rfl

theorem yieldC_le {C : Cfg} (L : Nat) {fs : FnsC} {fr : Fns} (hf : FLe fs fr) (i : Nat) (args : List Value) (A : AW) (k : KV) : le (yieldC C L fs i args A k) (bindCR (yieldF C L fr i args A) k) := by
 intro v0 A0 h
 unfold yieldC at h
 unfold yieldF
 split at h
 ·rename_i st pend m en n params assign body d hl
  rw [hl]
  simp only
  have ha := cCode_le (C := C) (m := m) (n := n) (L := L) assign hf (some i)
  have hb := cCode_le (C := C) (m := m) (n := n) (L := L) body hf (some i)
  cases hp : setPs m n params.toList args en with
  | none =>
   rw [hp] at h
   generalize cCode C m n L assign = g at h
   cases h
  | some e0 =>
   rw [hp] at h
   simp only at h ⊢
   generalize cCode C m n L assign = g at h ha
   obtain ⟨g⟩ := g
   obtain ⟨s0, b0⟩ := e0
   have h1 := ha _ _ _ _ _ _ _ _ _ h
   cases ho : evCode C fr m n (some i) L assign ⟨⟨s0, b0⟩, [], A⟩ with
   | fail w => rw [ho] at h1; cases h1
   | exit id s' => rw [ho] at h1; cases h1
   | ret s' => rw [ho] at h1; cases h1
   | norm s' =>
    rw [ho] at h1
    obtain ⟨⟨s1, b1⟩, ms1, A1⟩ := s'
    simp only [bindO, bodyC] at h1
    simp only
    cases hbeg : beginR i ⟨⟨s1, b1⟩, ms1, A1⟩ with
    | none => rw [hbeg] at h1; cases h1
    | some s2 =>
     rw [hbeg] at h1
     obtain ⟨⟨s2, b2⟩, ms2, A2⟩ := s2
     simp only at h1 ⊢
     generalize cCode C m n L body = g' at h1 hb
     obtain ⟨g'⟩ := g'
     have h2 := hb _ _ _ _ _ _ _ _ _ h1
     cases ho2 : evCode C fr m n (some i) L body ⟨⟨s2, b2⟩, ms2, A2⟩ with
     | fail w => rw [ho2] at h2; cases h2
     | norm s3 => rw [ho2] at h2; simp only [bindO, endC_eq] at h2; exact h2
     | exit id s3 => rw [ho2] at h2; simp only [bindO, endC_eq] at h2; exact h2
     | ret s3 => rw [ho2] at h2; simp only [bindO, endC_eq] at h2; exact h2
 ·cases h

theorem lvlC_le {C : Cfg} (ms : Tr Nat) (L : Nat) : ∀ d, FLe (lvlC C ms L d) (lvl C ms L d)
 | 0 => ⟨fun _ _ _ _ => le.refl _, fun _ _ _ _ => le.refl _⟩
 | d + 1 => by
  have ih := lvlC_le (C := C) ms L d
  refine ⟨fun f args A k v0 A0 h => ?_, fun i args A k => yieldC_le L ih i args A k⟩
  have hc := cFun_le (C := C) ms L f ih args A k
  simp only [lvlC] at h
  generalize cFun C ms L f = g at h hc
  obtain ⟨g⟩ := g
  exact hc _ _ h

theorem lvlC_calls {C : Cfg} (hC : C.Ok) (ms : Tr Nat) (L d : Nat) {γ : Gam} {A : AW} {W : World} {f : Nat} {args : List Value} {args' : Array Value} {v : Value} {A' : AW}
  (h : (lvlC C ms L d).call f args A .ret = .ret v A') (hw : WRel γ A W) (hR : Ro C.ro γ W) (ha : VsRel γ args args'.toList) : Calls C.P f args' W (Ends γ W v A') :=
 lvl_calls hC ms L d ((lvlC_le ms L d).ref.1 f args A v A' h) hw hR ha

end Go.Ev
