/- Code between canonical states: segments, loops, calls. -/
import Derived.Test.YtdalaifnhppidaaDoorEvCan
import Derived.Test.YtdalaifnhppidaaDoorEvSet
import Derived.Test.YtdalaifnhppidaaDoorEvOwn
namespace Go.Ev
open Go

abbrev OV := List (Option Value)
abbrev OO := List (Option AObj)
def okR : CR := .ret undef ⟨0, .nil, .nil⟩

noncomputable def qq (p : Prop) : CR := @ite _ p (Classical.propDecidable _) okR (.fail 0)
theorem qq_ok {p : Prop} (h : p) : qq p = okR := if_pos h
theorem qq_use {p : Prop} (h : qq p = okR) : p := by
 unfold qq at h
 split at h
 ·assumption
 ·cases h

noncomputable def rbQ (n0 : Nat) (lv : List Nat) (fl : List Fl) (Q : OV → List Nat → OO → Prop) : KS := rbK n0 lv fl fun vs ms os => qq (Q vs ms os)

theorem rbQ_use {n0 : Nat} {lv : List Nat} {fl : List Fl} {Q : OV → List Nat → OO → Prop} {s : List (Nat × Value)} {T : Tr Value} {ms : List Nat} {A : AW} (h : rbQ n0 lv fl Q s T ms A = okR) :
  ∃ vs ms1 os, rb n0 lv fl T ms A = some (vs, ms1, os) ∧ gdAs fl os = true ∧ Q vs ms1 os := by
 unfold rbQ rbK at h
 split at h
 ·rename_i vs ms1 os hr
  obtain ⟨h1, h2⟩ := guardK_use h
  exact ⟨vs, ms1, os, hr, h1, qq_use h2⟩
 ·cases h

structure Outs where
 lv : List Nat
 fl : List Fl
 Q : OV → List Nat → OO → Prop

def Outs.no : Outs := ⟨[], [], fun _ _ _ => False⟩

section
variable {C : Cfg} {m n : Nat} {F : Fence} {k : Nat} {γ0 : Gam} {W0 : World} {n0 : Nat}

def Is (C : Cfg) (m n : Nat) (γ0 : Gam) (W0 : World) (o : Outs) (st : St) : Prop := ∃ vs ms os, Ren C m n γ0 W0 st (St.of o.lv vs ms os) ∧ o.Q vs ms os

def CanQ (C : Cfg) (m n : Nat) (γ0 : Gam) (W0 : World) (on : Outs) (ox : Nat → Outs) (orr : Outs) : Exit → St → Prop
 | .normal, st => Is C m n γ0 W0 on st
 | .exit id, st => Is C m n γ0 W0 (ox id) st
 | .ret, st => Is C m n γ0 W0 orr st
 | _, _ => False

noncomputable def Outs.ask (n0 : Nat) (o : Outs) : KS := rbQ n0 o.lv o.fl o.Q

theorem Outs.ask_use (h0 : ∀ i, n0 ≤ i → γ0 i = none) {o : Outs} {s : List (Nat × Value)} {T : Tr Value} {ms : List Nat} {A : AW} (h : o.ask n0 s T ms A = okR) : Is C m n γ0 W0 o ⟨⟨s, T⟩, ms, A⟩ := by
 obtain ⟨vs, ms1, os, h1, h2, h3⟩ := rbQ_use h
 exact ⟨vs, ms1, os, Ren.rb h0 h1 h2, h3⟩

theorem Reach.segC (hC : C.Ok) {t : Tbl} (ht : TOk C t) {tm : Tr Nat} {L L' d : Nat} (hF : Wide F) (hro : F.round = none) (h0 : ∀ i, n0 ≤ i → γ0 i = none) {c : Code} {s : List (Nat × Value)} {b : Tr Value} {ms : List Nat} {A : AW} {on : Outs} {ox : Nat → Outs} {orr : Outs}
  (h : run C m n L c (lvlT C t tm L' d) none (on.ask n0) (fun id => (ox id).ask n0) (orr.ask n0) s b ms A = okR) : Reach C m n F k γ0 W0 c ⟨⟨s, b⟩, ms, A⟩ (CanQ C m n γ0 W0 on ox orr) := by
 intro γ a W hs hb
 have hle := cCode_le (C := C) (m := m) (n := n) (L := L) c (lvlT_le (C := C) t tm L' d) none (on.ask n0) (fun id => (ox id).ask n0) (orr.ask n0) s b ms A _ _ h
 have hro' : RoRel γ none F.round := by rw [hro]; exact .none
 refine code_ok hC (lvlU_ok hC ht tm L' d) L c hF k hro' hs hb.ro ?_ ?_
 ·cases ho : evCode C (lvlU C t tm L' d) m n none L c ⟨⟨s, b⟩, ms, A⟩ with
  | fail w => rw [ho] at hle; cases hle
  | norm st => rfl
  | exit id st => rfl
  | ret st => rfl
 ·cases ho : evCode C (lvlU C t tm L' d) m n none L c ⟨⟨s, b⟩, ms, A⟩ with
  | fail w => trivial
  | norm st =>
   obtain ⟨⟨s', b'⟩, ms', A'⟩ := st
   rw [ho] at hle
   exact fun γ' a' W' hs' he => ⟨_, γ', Outs.ask_use h0 hle, hs', ⟨hb.ext.trans he, hb.ro.ext he⟩⟩
  | exit id st =>
   obtain ⟨⟨s', b'⟩, ms', A'⟩ := st
   rw [ho] at hle
   exact fun γ' a' W' hs' he => ⟨_, γ', Outs.ask_use h0 hle, hs', ⟨hb.ext.trans he, hb.ro.ext he⟩⟩
  | ret st =>
   obtain ⟨⟨s', b'⟩, ms', A'⟩ := st
   rw [ho] at hle
   exact fun γ' a' W' hs' he => ⟨_, γ', Outs.ask_use h0 hle, hs', ⟨hb.ext.trans he, hb.ro.ext he⟩⟩

noncomputable def Outs.at (n0 id : Nat) (o : Outs) : Nat → KS := fun i => rbK n0 o.lv o.fl fun vs ms os => bif Nat.beq i id then qq (o.Q vs ms os) else .fail 0

theorem Outs.at_use (h0 : ∀ i, n0 ≤ i → γ0 i = none) {id i : Nat} {o : Outs} {s : List (Nat × Value)} {T : Tr Value} {ms : List Nat} {A : AW} (h : o.at n0 id i s T ms A = okR) : i = id ∧ Is C m n γ0 W0 o ⟨⟨s, T⟩, ms, A⟩ := by
 unfold Outs.at at h
 cases hb : Nat.beq i id with
 | true =>
  rw [hb] at h
  exact ⟨Nat.eq_of_beq_eq_true hb, Outs.ask_use h0 h⟩
 | false =>
  rw [hb] at h
  unfold rbK at h
  split at h
  ·obtain ⟨_, h⟩ := guardK_use h; cases h
  ·cases h

theorem Reach.is {c : Code} {st : St} {o : Outs} {Q : Exit → St → Prop} (hs : Is C m n γ0 W0 o st) (h : ∀ vs ms os, o.Q vs ms os → Reach C m n F k γ0 W0 c (St.of o.lv vs ms os) Q) : Reach C m n F k γ0 W0 c st Q := by
 obtain ⟨vs, ms, os, hr, hq⟩ := hs
 exact Reach.pre hr (h vs ms os hq)

theorem Reach.seqC {x y : Code} {st : St} {on o1 : Outs} {ox : Nat → Outs} {orr : Outs} (hx : Reach C m n F k γ0 W0 x st (CanQ C m n γ0 W0 o1 ox orr))
  (hy : ∀ vs ms os, o1.Q vs ms os → Reach C m n F k γ0 W0 y (St.of o1.lv vs ms os) (CanQ C m n γ0 W0 on ox orr)) : Reach C m n F k γ0 W0 (.seq x y) st (CanQ C m n γ0 W0 on ox orr) :=
 Reach.seq (Reach.mono hx fun ex st' h => by
  cases ex with
  | normal => exact Reach.is h hy
  | _ => exact h)

theorem Reach.blockC {id : Nat} {x : Code} {st : St} {on : Outs} {ox : Nat → Outs} {orr : Outs} (h : Reach C m n F k γ0 W0 x st (CanQ C m n γ0 W0 on (fun j => if j = id then on else ox j) orr)) : Reach C m n F k γ0 W0 (.block id x) st (CanQ C m n γ0 W0 on ox orr) :=
 Reach.block (Reach.mono h fun ex st' hq => by
  cases ex with
  | exit j =>
   simp only [CanQ] at hq ⊢
   by_cases e : j = id
   ·rw [if_pos e] at hq ⊢; exact hq
   ·rw [if_neg e] at hq ⊢; exact hq
  | _ => exact hq)

theorem Reach.loopC {lv : List Nat} {fl : List Fl} {I : Nat → OV → List Nat → OO → Prop} {x : Code} {on : Outs} {ox : Nat → Outs} {orr : Outs}
  (h : ∀ j vs ms os, I j vs ms os → Reach C m n F k γ0 W0 x (St.of lv vs ms os) (CanQ C m n γ0 W0 ⟨lv, fl, fun vs ms os => ∃ j', j' < j ∧ I j' vs ms os⟩ ox orr)) {j : Nat} {vs : OV} {ms : List Nat} {os : OO} (hI : I j vs ms os) :
  Reach C m n F k γ0 W0 (.loop x) (St.of lv vs ms os) (CanQ C m n γ0 W0 on ox orr) := by
 refine Reach.loop (I := fun j st => ∃ vs ms os, Ren C m n γ0 W0 st (St.of lv vs ms os) ∧ I j vs ms os) (fun j st ⟨vs, ms, os, hr, hI⟩ => Reach.pre hr (Reach.mono (h j vs ms os hI) fun ex st' hq => ?_)) ⟨vs, ms, os, Ren.refl _, hI⟩
 cases ex with
 | normal =>
  obtain ⟨vs', ms', os', hr', j', hj', hI'⟩ := hq
  exact ⟨j', hj', vs', ms', os', hr', hI'⟩
 | _ => exact hq

theorem callC (hC : C.Ok) {f : Nat} {fn : Func} {c : Code} (hfn : C.fns.get f = some fn) (hc : fn.body = some c) {args : List Value} {A : AW} {S : Value → AW → Prop} (mk : Nat) (hle : Nat.ble args.length fn.ntmps = true) (oe : Outs)
  (hend : ∀ vs ms os, oe.Q vs ms os → ∃ v A', finish C mk fn.results.toList (St.of oe.lv vs ms os) = .ret v A' ∧ S v A')
  (h : ∀ γ W F k, WRel γ A W → Wide F → F.round = none → (∀ i, A.next ≤ i → γ i = none) → Reach C mk fn.ntmps F k γ W c ⟨⟨sc0 mk args, tr0 mk args⟩, [], A⟩ (CanQ C mk fn.ntmps γ W oe (fun _ => Outs.no) oe)) : SOk C f args A S :=
 call_reachS hC hfn hc mk hle fun γ W F k hw hF hro => by
  have e : (⟨setArgs mk args 0 ⟨[], .nil⟩, [], A⟩ : St) = ⟨⟨sc0 mk args, tr0 mk args⟩, [], A⟩ := rfl
  rw [e]
  refine Reach.mono (h γ W F k hw hF hro hw.fresh) fun ex st hq => ?_
  have fin : Is C mk fn.ntmps γ W oe st → ∃ st1 v A', Ren C mk fn.ntmps γ W st st1 ∧ finish C mk fn.results.toList st1 = .ret v A' ∧ S v A' := fun ⟨vs, ms, os, hr, hq⟩ => by
   obtain ⟨v, A', h1, h2⟩ := hend vs ms os hq
   exact ⟨_, v, A', hr, h1, h2⟩
  cases ex with
  | normal => exact ⟨.inl rfl, fin hq⟩
  | ret => exact ⟨.inr rfl, fin hq⟩
  | exit id => obtain ⟨_, _, _, _, hf⟩ := hq; exact hf.elim
  | _ => exact hq.elim
end

theorem Reach.segK {C : Cfg} {m n : Nat} {F : Fence} {k : Nat} {γ0 : Gam} {W0 : World} (hC : C.Ok) {t : Tbl} (ht : TOk C t) {tm : Tr Nat} {L L' d : Nat} (hF : Wide F) (hro : F.round = none) {c : Code} {kn : KS} {kx : Nat → KS} {kr : KS} {s : List (Nat × Value)} {b : Tr Value} {ms : List Nat} {A : AW}
  (h : run C m n L c (lvlT C t tm L' d) none kn kx kr s b ms A = okR) : Reach C m n F k γ0 W0 c ⟨⟨s, b⟩, ms, A⟩ fun ex st => match ex with
   | .normal => kn st.en.scr st.en.base st.marks st.A = okR
   | .exit id => kx id st.en.scr st.en.base st.marks st.A = okR
   | .ret => kr st.en.scr st.en.base st.marks st.A = okR
   | _ => False := by
 intro γ a W hs hb
 have hle := cCode_le (C := C) (m := m) (n := n) (L := L) c (lvlT_le (C := C) t tm L' d) none kn kx kr s b ms A _ _ h
 have hro' : RoRel γ none F.round := by rw [hro]; exact .none
 refine code_ok hC (lvlU_ok hC ht tm L' d) L c hF k hro' hs hb.ro ?_ ?_
 ·cases ho : evCode C (lvlU C t tm L' d) m n none L c ⟨⟨s, b⟩, ms, A⟩ with
  | fail w => rw [ho] at hle; cases hle
  | norm st => rfl
  | exit id st => rfl
  | ret st => rfl
 ·cases ho : evCode C (lvlU C t tm L' d) m n none L c ⟨⟨s, b⟩, ms, A⟩ with
  | fail w => trivial
  | norm st =>
   obtain ⟨⟨s', b'⟩, ms', A'⟩ := st
   rw [ho] at hle
   exact fun γ' a' W' hs' he => ⟨⟨⟨s', b'⟩, ms', A'⟩, γ', hle, hs', ⟨hb.ext.trans he, hb.ro.ext he⟩⟩
  | exit id st =>
   obtain ⟨⟨s', b'⟩, ms', A'⟩ := st
   rw [ho] at hle
   exact fun γ' a' W' hs' he => ⟨⟨⟨s', b'⟩, ms', A'⟩, γ', hle, hs', ⟨hb.ext.trans he, hb.ro.ext he⟩⟩
  | ret st =>
   obtain ⟨⟨s', b'⟩, ms', A'⟩ := st
   rw [ho] at hle
   exact fun γ' a' W' hs' he => ⟨⟨⟨s', b'⟩, ms', A'⟩, γ', hle, hs', ⟨hb.ext.trans he, hb.ro.ext he⟩⟩

section
variable {C : Cfg} {m n : Nat} {F : Fence} {k : Nat} {γ0 : Gam} {W0 : World} {n0 : Nat}

theorem Reach.loopS (hC : C.Ok) (hF : Wide F) (hro : F.round = none) (h0 : ∀ i, n0 ≤ i → γ0 i = none) {id : Nat} {lv : List Nat} (fl : List Fl) (I : Nat → OV → List Nat → OO → Prop) {x : Code} {on : Outs} {ox : Nat → Outs} {orr : Outs}
  (h : ∀ j vs ms os, I j vs ms os → ∃ t, TOk C t ∧ ∃ tm L L' d, run C m n L x (lvlT C t tm L' d) none (Outs.ask n0 ⟨lv, fl, fun vs ms os => ∃ j', j' < j ∧ I j' vs ms os⟩) (on.at n0 id) (orr.ask n0) [] (bT lv vs .nil) ms (mkA os) = okR)
  {j : Nat} {vs : OV} {ms : List Nat} {os : OO} (hI : I j vs ms os) : Reach C m n F k γ0 W0 (.block id (.loop x)) (St.of lv vs ms os) (CanQ C m n γ0 W0 on ox orr) :=
 Reach.blockC (Reach.loopC (fl := fl) (fun j vs ms os hI => by
  obtain ⟨t, ht, tm, L, L', d, hr⟩ := h j vs ms os hI
  refine Reach.mono (Reach.segK hC ht hF hro hr) fun ex st hx => ?_
  cases ex with
  | normal => exact Outs.ask_use h0 hx
  | exit i =>
   obtain ⟨rfl, hi⟩ := Outs.at_use h0 hx
   show Is C m n γ0 W0 (if i = i then on else ox i) st
   rw [if_pos rfl]
   exact hi
  | ret => exact Outs.ask_use h0 hx
  | _ => exact hx) hI)
end

inductive After : Code → Code → Code → Prop
 | base {p q : Code} : After p q (.seq p q)
 | step {a p q x : Code} (h : After p q x) : After (.seq a p) q (.seq a x)

inductive After3 : Code → Code → Code → Code → Prop
 | base {p q y : Code} : After3 p q y (.seq (.seq p q) y)
 | flat {p q y : Code} : After3 p q y (.seq p (.seq q y))
 | step {a p q y x : Code} (h : After3 p q y x) : After3 (.seq a p) q y (.seq a x)

section
variable {C : Cfg} {m n : Nat} {F : Fence} {k : Nat} {γ0 : Gam} {W0 : World} {n0 : Nat}

theorem Reach.after (hC : C.Ok) {t : Tbl} (ht : TOk C t) {tm : Tr Nat} {L L' d : Nat} (hF : Wide F) (hro : F.round = none) (h0 : ∀ i, n0 ≤ i → γ0 i = none) {p q x : Code} (hA : After p q x) {on o1 : Outs} {ox : Nat → Outs} {orr : Outs}
  (hq : ∀ vs ms os, o1.Q vs ms os → Reach C m n F k γ0 W0 q (St.of o1.lv vs ms os) (CanQ C m n γ0 W0 on ox orr)) : ∀ {s : List (Nat × Value)} {b : Tr Value} {ms : List Nat} {A : AW},
  run C m n L p (lvlT C t tm L' d) none (o1.ask n0) (fun id => (ox id).ask n0) (orr.ask n0) s b ms A = okR → Reach C m n F k γ0 W0 x ⟨⟨s, b⟩, ms, A⟩ (CanQ C m n γ0 W0 on ox orr) := by
 induction hA with
 | base => intro s b ms A h; exact Reach.seqC (Reach.segC hC ht hF hro h0 h) hq
 | step hA ih =>
  intro s b ms A h
  refine Reach.seq (Reach.mono (Reach.segK hC ht hF hro h) fun ex st hx => ?_)
  cases ex with
  | normal => exact ih hq hx
  | exit id => exact Outs.ask_use h0 hx
  | ret => exact Outs.ask_use h0 hx
  | _ => exact hx

theorem Reach.after3 (hC : C.Ok) {t : Tbl} (ht : TOk C t) {tm : Tr Nat} {L L' d : Nat} (hF : Wide F) (hro : F.round = none) (h0 : ∀ i, n0 ≤ i → γ0 i = none) {p q y x : Code} (hA : After3 p q y x) {on o1 o2 : Outs} {ox : Nat → Outs} {orr : Outs}
  (hq : ∀ vs ms os, o1.Q vs ms os → Reach C m n F k γ0 W0 q (St.of o1.lv vs ms os) (CanQ C m n γ0 W0 o2 ox orr))
  (hy : ∀ vs ms os, o2.Q vs ms os → Reach C m n F k γ0 W0 y (St.of o2.lv vs ms os) (CanQ C m n γ0 W0 on ox orr)) : ∀ {s : List (Nat × Value)} {b : Tr Value} {ms : List Nat} {A : AW},
  run C m n L p (lvlT C t tm L' d) none (o1.ask n0) (fun id => (ox id).ask n0) (orr.ask n0) s b ms A = okR → Reach C m n F k γ0 W0 x ⟨⟨s, b⟩, ms, A⟩ (CanQ C m n γ0 W0 on ox orr) := by
 induction hA with
 | base => intro s b ms A h; exact Reach.seqC (Reach.seqC (Reach.segC hC ht hF hro h0 h) hq) hy
 | flat => intro s b ms A h; exact Reach.seqC (Reach.segC hC ht hF hro h0 h) fun vs ms os ho => Reach.seqC (hq vs ms os ho) hy
 | step hA ih =>
  intro s b ms A h
  refine Reach.seq (Reach.mono (Reach.segK hC ht hF hro h) fun ex st hx => ?_)
  cases ex with
  | normal => exact ih hq hy hx
  | exit id => exact Outs.ask_use h0 hx
  | ret => exact Outs.ask_use h0 hx
  | _ => exact hx
end

theorem callL {C : Cfg} (hC : C.Ok) {f : Nat} {c : Code} (hb : hasBody C f = true) (hc : bodyOf C f = c) {nt : Nat} (hn : ntm C f = nt) {rs : List ResultVar} (hr : resOf C f = rs) {args : List Value} {A : AW} {S : Value → AW → Prop} (mk : Nat) (hle : Nat.ble args.length nt = true)
  {p x e : Code} {id : Nat} (hA : After3 p (.block id (.loop x)) e c) {t : Tbl} (ht : TOk C t) {tm : Tr Nat} {L d : Nat} (lv : List Nat) (fl : List Fl) (I : Nat → OV → List Nat → OO → Prop) (o2 oe : Outs)
  (hpre : run C mk nt L p (lvlT C t tm L d) none (Outs.ask A.next ⟨lv, fl, fun vs ms os => ∃ j, I j vs ms os⟩) (fun _ => Outs.no.ask A.next) (oe.ask A.next) (sc0 mk args) (tr0 mk args) [] A = okR)
  (hloop : ∀ j vs ms os, I j vs ms os → ∃ t, TOk C t ∧ ∃ tm L L' d, run C mk nt L x (lvlT C t tm L' d) none (Outs.ask A.next ⟨lv, fl, fun vs ms os => ∃ j', j' < j ∧ I j' vs ms os⟩) (o2.at A.next id) (oe.ask A.next) [] (bT lv vs .nil) ms (mkA os) = okR)
  (hend : ∀ vs ms os, o2.Q vs ms os → ∃ t, TOk C t ∧ ∃ tm L L' d, run C mk nt L e (lvlT C t tm L' d) none (oe.ask A.next) (fun _ => Outs.no.ask A.next) (oe.ask A.next) [] (bT o2.lv vs .nil) ms (mkA os) = okR)
  (hfin : ∀ vs ms os, oe.Q vs ms os → ∃ v A', finish C mk rs (St.of oe.lv vs ms os) = .ret v A' ∧ S v A') : SOk C f args A S := by
 obtain ⟨fn, h1, h2, h3, h4⟩ : ∃ fn, C.fns.get f = some fn ∧ fn.body = some (bodyOf C f) ∧ fn.ntmps = ntm C f ∧ fn.results.toList = resOf C f := by
  unfold hasBody at hb
  unfold bodyOf ntm resOf
  split at hb
  ·rename_i fn hfn
   split at hb
   ·rename_i c hc
    exact ⟨fn, hfn, by simp only [hfn, hc], by simp only [hfn], by simp only [hfn]⟩
   ·cases hb
  ·cases hb
 have hn' : fn.ntmps = nt := h3.trans hn
 refine callC hC h1 h2 mk (by rw [hn']; exact hle) oe (fun vs ms os hq => by rw [h4, hr]; exact hfin vs ms os hq) fun γ W F k hw hF hro h0 => ?_
 rw [hc, hn']
 refine Reach.after3 hC ht hF hro h0 hA (o1 := ⟨lv, fl, fun vs ms os => ∃ j, I j vs ms os⟩) (o2 := o2) (fun vs ms os ⟨j, hI⟩ => Reach.loopS hC hF hro h0 fl I (fun j vs ms os hI => ?_) hI) (fun vs ms os hq => ?_) hpre
 ·obtain ⟨t, ht, tm, L, L', d, h⟩ := hloop j vs ms os hI
  exact ⟨t, ht, tm, L, L', d, h⟩
 ·obtain ⟨t, ht, tm, L, L', d, h⟩ := hend vs ms os hq
  exact Reach.segC hC ht hF hro h0 h

theorem GrT.ofS {P : Program} {C : Cfg} (hP : C.P = P) {r : Mem} (hr : C.ro = r) {f : Nat} {args : List Value} {v : Value} (hg : gnd v = true) (h : SOk C f args emptyA fun u _ => u = v) : GrT P r f args v :=
 ⟨hg, fun F hF k W args' hR ha => by
  subst hP hr
  refine (h F hF k noG W args' (WRel.empty W) hR ha).mono fun e W' he => ?_
  obtain ⟨u, A', rfl, v', γ', rfl, hv, _, hx⟩ := he
  exact ⟨by rw [hv.eq_of_gnd hg], hx.below⟩⟩

theorem GrM.ofS {P : Program} {C : Cfg} (hP : C.P = P) {r : Mem} (hr : C.ro = r) {f : Nat} {args : List Value} {v : Value} {A0 : AW} (h : SOk C f args emptyA fun u A => u = v ∧ A = A0) : GrM P r f args v A0 :=
 fun F hF k W args' hR ha => by
  subst hP hr
  exact (h F hF k noG W args' (WRel.empty W) hR ha).mono fun e W' ⟨_, _, ⟨rfl, rfl⟩, he⟩ => he

end Go.Ev
