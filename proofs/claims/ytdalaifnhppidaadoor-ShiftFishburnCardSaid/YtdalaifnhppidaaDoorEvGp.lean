/- Code over memory that grows: pieces, loops, calls. -/
import Derived.Test.YtdalaifnhppidaaDoorEvGo
namespace Go.Ev
open Go
set_option linter.unusedVariables false
set_option linter.unusedSimpArgs false

structure OutsG where
 lv : List Nat
 Q : Mem → OV → List Nat → OO → Prop

def OutsG.no : OutsG := ⟨[], fun _ _ _ _ => False⟩

section
variable {P : Program} {m n : Nat} {F : Fence} {k : Nat} {γ0 : Gam} {W0 : World} {n0 : Nat}

def ReachG (P : Program) (m n : Nat) (F : Fence) (k : Nat) (γ0 : Gam) (W0 : World) (c : Code) (r : Mem) (st : St) (Q : Exit → Mem → St → Prop) : Prop :=
 ∀ γ a W, SRel W0.heap.size γ m n st a W → Base (Cfg.sym P r) γ0 W0 γ W → c.wpIn F k P (fun ex a' W' => ∃ r' st' γ', Q ex r' st' ∧ SRel W0.heap.size γ' m n st' a' W' ∧ Base (Cfg.sym P r') γ0 W0 γ' W') a W

theorem ReachG.of {c : Code} {r : Mem} {st : St} {Q : Exit → St → Prop} (h : Reach (Cfg.sym P r) m n F k γ0 W0 c st Q) : ReachG P m n F k γ0 W0 c r st (fun ex r' st' => r' = r ∧ Q ex st') :=
 fun γ a W hs hb => wpIn_mono (h γ a W hs hb) fun ex a' W' ⟨st', γ', q, s, b⟩ => ⟨r, st', γ', ⟨rfl, q⟩, s, b⟩

theorem ReachG.mono {c : Code} {r : Mem} {st : St} {Q Q' : Exit → Mem → St → Prop} (h : ReachG P m n F k γ0 W0 c r st Q) (hq : ∀ ex r' st', Q ex r' st' → Q' ex r' st') : ReachG P m n F k γ0 W0 c r st Q' :=
 fun γ a W hs hb => wpIn_mono (h γ a W hs hb) fun _ _ _ ⟨r', st', γ', q, s⟩ => ⟨r', st', γ', hq _ _ _ q, s⟩

theorem ReachG.seq {x y : Code} {r : Mem} {st : St} {Q : Exit → Mem → St → Prop} (h : ReachG P m n F k γ0 W0 x r st fun ex r' st' => match ex with | .normal => ReachG P m n F k γ0 W0 y r' st' Q | ex => Q ex r' st') : ReachG P m n F k γ0 W0 (.seq x y) r st Q :=
 fun γ a W hs hb => wpIn_seq (wpIn_mono (h γ a W hs hb) fun ex a' W' ⟨r', st', γ', q, s, b⟩ => by
  cases ex with
  | normal => exact q γ' a' W' s b
  | _ => exact ⟨r', st', γ', q, s, b⟩)

theorem ReachG.block {id : Nat} {x : Code} {r : Mem} {st : St} {Q : Exit → Mem → St → Prop} (h : ReachG P m n F k γ0 W0 x r st fun ex r' st' => match ex with | .exit j => if j = id then Q .normal r' st' else Q (.exit j) r' st' | ex => Q ex r' st') : ReachG P m n F k γ0 W0 (.block id x) r st Q :=
 fun γ a W hs hb => wpIn_block (wpIn_mono (h γ a W hs hb) fun ex a' W' ⟨r', st', γ', q, s, b⟩ => by
  cases ex with
  | exit j =>
   simp only [Exit.inBlock]
   simp only at q
   split at q
   ·rename_i e; rw [if_pos e]; exact ⟨r', st', γ', q, s, b⟩
   ·rename_i e; rw [if_neg e]; exact ⟨r', st', γ', q, s, b⟩
  | _ => exact ⟨r', st', γ', q, s, b⟩)

def IsG (P : Program) (m n : Nat) (γ0 : Gam) (W0 : World) (o : OutsG) (r : Mem) (st : St) : Prop :=
 ∀ γ a W, SRel W0.heap.size γ m n st a W → Base (Cfg.sym P r) γ0 W0 γ W → ∃ r1 γ1 vs ms os, o.Q r1 vs ms os ∧ SRel W0.heap.size γ1 m n (St.of o.lv vs ms os) a W ∧ Base (Cfg.sym P r1) γ0 W0 γ1 W

def CanG (P : Program) (m n : Nat) (γ0 : Gam) (W0 : World) (on : OutsG) (ox : Nat → OutsG) (orr : OutsG) : Exit → Mem → St → Prop
 | .normal, r, st => IsG P m n γ0 W0 on r st
 | .exit id, r, st => IsG P m n γ0 W0 (ox id) r st
 | .ret, r, st => IsG P m n γ0 W0 orr r st
 | _, _, _ => False

theorem IsG.here {lv : List Nat} {Q : Mem → OV → List Nat → OO → Prop} {r : Mem} {vs : OV} {ms : List Nat} {os : OO} (h : Q r vs ms os) : IsG P m n γ0 W0 ⟨lv, Q⟩ r (St.of lv vs ms os) :=
 fun γ a W hs hb => ⟨r, γ, vs, ms, os, h, hs, hb⟩

theorem IsG.mono {lv : List Nat} {Q Q' : Mem → OV → List Nat → OO → Prop} {r : Mem} {st : St} (h : IsG P m n γ0 W0 ⟨lv, Q⟩ r st) (hq : ∀ r vs ms os, Q r vs ms os → Q' r vs ms os) : IsG P m n γ0 W0 ⟨lv, Q'⟩ r st :=
 fun γ a W hs hb => by
  obtain ⟨r1, γ1, vs, ms, os, q, s, b⟩ := h γ a W hs hb
  exact ⟨r1, γ1, vs, ms, os, hq _ _ _ _ q, s, b⟩

theorem IsG.freezeO (h0 : ∀ i, n0 ≤ i → γ0 i = none) {lv : List Nat} {Q : Mem → OV → List Nat → OO → Prop} {r : Mem} {vs : OV} {os0 : OO} {c : List Value} {e j z : Nat} (hj : os0.length = j) (hn : n0 ≤ j) (hsm : someAs os0 = true) (hc : m_nns c = true)
  (h : ∀ b off r1, Mem.le r r1 → Frz γ0 W0 r r1 b → (∀ k u, c[k]? = some u → r1 b (off + k) = some u) → ∃ vs' os', frzO j b off vs = some vs' ∧ frzAs j b off os0 = some os' ∧ Q r1 vs' [] os') : IsG P m n γ0 W0 ⟨lv, Q⟩ r (St.of lv vs [] (os0 ++ [some (.cells c e j z)])) :=
 fun γ a W hs hb => by
  obtain ⟨b, off, r1, h1, hF, h2, h3⟩ := freeze_rel hs hb (h0 j hn) hj hsm hc
  obtain ⟨vs', os', e1, e2, q⟩ := h b off r1 h1 hF h2
  obtain ⟨s, b'⟩ := h3 vs' os' e1 e2
  exact ⟨r1, _, vs', [], os', q, s, b'⟩

theorem IsG.freeze (h0 : ∀ i, n0 ≤ i → γ0 i = none) {lv : List Nat} {Q : Mem → OV → List Nat → OO → Prop} {r : Mem} {vs : OV} {os0 : OO} {c : List Value} {e j z : Nat} (hj : os0.length = j) (hn : n0 ≤ j) (hsm : someAs os0 = true) (hc : m_nns c = true)
  (h : ∀ b off r1, Mem.le r r1 → (∀ k u, c[k]? = some u → r1 b (off + k) = some u) → ∃ vs' os', frzO j b off vs = some vs' ∧ frzAs j b off os0 = some os' ∧ Q r1 vs' [] os') : IsG P m n γ0 W0 ⟨lv, Q⟩ r (St.of lv vs [] (os0 ++ [some (.cells c e j z)])) :=
 IsG.freezeO h0 hj hn hsm hc fun b off r1 h1 _ h2 => h b off r1 h1 h2

theorem ReachG.is {c : Code} {r : Mem} {st : St} {o : OutsG} {Q : Exit → Mem → St → Prop} (hs : IsG P m n γ0 W0 o r st) (h : ∀ r vs ms os, o.Q r vs ms os → ReachG P m n F k γ0 W0 c r (St.of o.lv vs ms os) Q) : ReachG P m n F k γ0 W0 c r st Q := fun γ a W h1 h2 => by
 obtain ⟨r1, γ1, vs, ms, os, q, s, b⟩ := hs γ a W h1 h2
 exact h r1 vs ms os q γ1 a W s b

theorem ReachG.seqC {x y : Code} {r : Mem} {st : St} {on o1 : OutsG} {ox : Nat → OutsG} {orr : OutsG} (hx : ReachG P m n F k γ0 W0 x r st (CanG P m n γ0 W0 o1 ox orr))
  (hy : ∀ r vs ms os, o1.Q r vs ms os → ReachG P m n F k γ0 W0 y r (St.of o1.lv vs ms os) (CanG P m n γ0 W0 on ox orr)) : ReachG P m n F k γ0 W0 (.seq x y) r st (CanG P m n γ0 W0 on ox orr) :=
 ReachG.seq (ReachG.mono hx fun ex r' st' h => by
  cases ex with
  | normal => exact ReachG.is h hy
  | _ => exact h)

theorem ReachG.blockC {id : Nat} {x : Code} {r : Mem} {st : St} {on : OutsG} {ox : Nat → OutsG} {orr : OutsG} (h : ReachG P m n F k γ0 W0 x r st (CanG P m n γ0 W0 on (fun j => if j = id then on else ox j) orr)) : ReachG P m n F k γ0 W0 (.block id x) r st (CanG P m n γ0 W0 on ox orr) :=
 ReachG.block (ReachG.mono h fun ex r' st' hq => by
  cases ex with
  | exit j =>
   simp only [CanG] at hq ⊢
   by_cases e : j = id
   ·rw [if_pos e] at hq ⊢; exact hq
   ·rw [if_neg e] at hq ⊢; exact hq
  | _ => exact hq)

theorem ReachG.lift {c : Code} {r : Mem} {st : St} {on : Outs} {ox : Nat → Outs} {orr : Outs} {gn : OutsG} {gx : Nat → OutsG} {gr : OutsG} (h : Reach (Cfg.sym P r) m n F k γ0 W0 c st (CanQ (Cfg.sym P r) m n γ0 W0 on ox orr))
  (hn : ∀ vs ms os, on.Q vs ms os → IsG P m n γ0 W0 gn r (St.of on.lv vs ms os)) (hx : ∀ id vs ms os, (ox id).Q vs ms os → IsG P m n γ0 W0 (gx id) r (St.of (ox id).lv vs ms os)) (hr : ∀ vs ms os, orr.Q vs ms os → IsG P m n γ0 W0 gr r (St.of orr.lv vs ms os)) :
  ReachG P m n F k γ0 W0 c r st (CanG P m n γ0 W0 gn gx gr) :=
 ReachG.mono (ReachG.of h) fun ex r' st' ⟨e, hq⟩ => by
  subst e
  have key : ∀ {o : Outs} {g : OutsG}, Is (Cfg.sym P r') m n γ0 W0 o st' → (∀ vs ms os, o.Q vs ms os → IsG P m n γ0 W0 g r' (St.of o.lv vs ms os)) → IsG P m n γ0 W0 g r' st' := fun {o g} ⟨vs, ms, os, hr, q⟩ hg γ a W hs hb => by
   obtain ⟨γ1, s1, b1⟩ := hr γ a W hs hb
   exact hg vs ms os q γ1 a W s1 b1
  cases ex with
  | normal => exact key hq hn
  | exit id => exact key hq (hx id)
  | ret => exact key hq hr
  | _ => exact hq

theorem ReachG.loopC {lv : List Nat} {I : Nat → Mem → OV → List Nat → OO → Prop} {x : Code} {on : OutsG} {ox : Nat → OutsG} {orr : OutsG}
  (h : ∀ j r vs ms os, I j r vs ms os → ReachG P m n F k γ0 W0 x r (St.of lv vs ms os) (CanG P m n γ0 W0 ⟨lv, fun r vs ms os => ∃ j', j' < j ∧ I j' r vs ms os⟩ ox orr)) {j : Nat} {r : Mem} {vs : OV} {ms : List Nat} {os : OO} (hI : I j r vs ms os) :
  ReachG P m n F k γ0 W0 (.loop x) r (St.of lv vs ms os) (CanG P m n γ0 W0 on ox orr) := by
 intro γ a W hs hb
 refine wpIn_loop_rounds (j + 1) ?_
 have key : ∀ (K j : Nat), j < K → ∀ r vs ms os, I j r vs ms os → ∀ γ a W, SRel W0.heap.size γ m n (St.of lv vs ms os) a W → Base (Cfg.sym P r) γ0 W0 γ W →
   Code.roundsIn F k P x (fun ex a' W' => ∃ r' st' γ', CanG P m n γ0 W0 on ox orr ex r' st' ∧ SRel W0.heap.size γ' m n st' a' W' ∧ Base (Cfg.sym P r') γ0 W0 γ' W') K a W := by
  intro K
  induction K with
  | zero => intro j h; omega
  | succ K ih =>
   intro j hj r vs ms os hI γ a W hs hb
   rw [roundsIn_succ]
   refine wpIn_mono (h j r vs ms os hI γ a W hs hb) fun ex a' W' ⟨r', st', γ', q, s, b⟩ => ?_
   cases ex with
   | normal =>
    obtain ⟨r1, γ1, vs1, ms1, os1, ⟨j', hj', hI'⟩, s1, b1⟩ := q γ' a' W' s b
    exact ih j' (by omega) r1 vs1 ms1 os1 hI' γ1 a' W' s1 b1
   | _ => exact ⟨r', st', γ', q, s, b⟩
 exact key (j + 1) j (by omega) r vs ms os hI γ a W hs hb

theorem ReachG.segR {r : Mem} (hC : (Cfg.sym P r).Ok) {t : Tbl} (ht : TOk (Cfg.sym P r) t) {tm : Tr Nat} {L L' d : Nat} {ro : Option Nat} (hF : Wide F) (hro : RoRel γ0 ro F.round) (h0 : ∀ i, n0 ≤ i → γ0 i = none) {c : Code} {s : List (Nat × Value)} {b : Tr Value} {ms : List Nat} {A : AW} {on : Outs} {ox : Nat → Outs} {orr : Outs} {gn : OutsG} {gx : Nat → OutsG} {gr : OutsG} (l : List (Nat × Outs)) (hl : ∀ p ∈ l, ox p.1 = p.2)
  (h : run (Cfg.sym P r) m n L c (lvlT (Cfg.sym P r) t tm L' d) ro (on.ask n0) (Outs.ats n0 l) (orr.ask n0) s b ms A = okR)
  (hn : ∀ vs ms os, on.Q vs ms os → IsG P m n γ0 W0 gn r (St.of on.lv vs ms os)) (hx : ∀ id vs ms os, (ox id).Q vs ms os → IsG P m n γ0 W0 (gx id) r (St.of (ox id).lv vs ms os)) (hr : ∀ vs ms os, orr.Q vs ms os → IsG P m n γ0 W0 gr r (St.of orr.lv vs ms os)) :
  ReachG P m n F k γ0 W0 c r ⟨⟨s, b⟩, ms, A⟩ (CanG P m n γ0 W0 gn gx gr) :=
 ReachG.lift (Reach.segR hC ht hF hro h0 l hl h) hn hx hr

theorem ReachG.segS {r : Mem} {C : Cfg} (hP : C.P = P) (hr0 : C.ro = r) (hC : C.Ok) {t : Tbl} (ht : TOk C t) {tm : Tr Nat} {L L' d : Nat} {ro : Option Nat} (hF : Wide F) (hro : RoRel γ0 ro F.round) (h0 : ∀ i, n0 ≤ i → γ0 i = none) {c : Code} {s : List (Nat × Value)} {b : Tr Value} {ms : List Nat} {A : AW} {on : Outs} {ox : Nat → Outs} {orr : Outs} {gn : OutsG} {gx : Nat → OutsG} {gr : OutsG} (l : List (Nat × Outs)) (hl : ∀ p ∈ l, ox p.1 = p.2)
  (h : run C m n L c (lvlT C t tm L' d) ro (on.ask n0) (Outs.ats n0 l) (orr.ask n0) s b ms A = okR)
  (hn : ∀ vs ms os, on.Q vs ms os → IsG P m n γ0 W0 gn r (St.of on.lv vs ms os)) (hx : ∀ id vs ms os, (ox id).Q vs ms os → IsG P m n γ0 W0 (gx id) r (St.of (ox id).lv vs ms os)) (hr : ∀ vs ms os, orr.Q vs ms os → IsG P m n γ0 W0 gr r (St.of orr.lv vs ms os)) :
  ReachG P m n F k γ0 W0 c r ⟨⟨s, b⟩, ms, A⟩ (CanG P m n γ0 W0 gn gx gr) := by
 have h1 := Reach.segR (k := k) (W0 := W0) hC ht hF hro h0 (on := on) (ox := ox) (orr := orr) l hl h
 intro γ a W hs hb
 have hb' : Base C γ0 W0 γ W := ⟨hb.ext, by rw [hr0]; exact hb.ro⟩
 have h2 := h1 γ a W hs hb'
 rw [hP] at h2
 refine wpIn_mono h2 fun ex a' W' ⟨st', γ', hq, s', b'⟩ => ⟨r, st', γ', ?_, s', ⟨b'.ext, by have := b'.ro; rw [hr0] at this; exact this⟩⟩
 have key : ∀ {o : Outs} {g : OutsG}, Is C m n γ0 W0 o st' → (∀ vs ms os, o.Q vs ms os → IsG P m n γ0 W0 g r (St.of o.lv vs ms os)) → IsG P m n γ0 W0 g r st' := fun {o g} ⟨vs, ms, os, hr, q⟩ hg γ a W hs hb => by
  obtain ⟨γ1, s1, b1⟩ := hr γ a W hs ⟨hb.ext, by rw [hr0]; exact hb.ro⟩
  exact hg vs ms os q γ1 a W s1 ⟨b1.ext, by have := b1.ro; rw [hr0] at this; exact this⟩
 cases ex with
 | normal => exact key hq hn
 | exit id => exact key hq (hx id)
 | ret => exact key hq hr
 | _ => exact hq

theorem ReachG.after3 {r : Mem} (hC : (Cfg.sym P r).Ok) {t : Tbl} (ht : TOk (Cfg.sym P r) t) {tm : Tr Nat} {L L' d : Nat} {ro : Option Nat} (hF : Wide F) (hro : RoRel γ0 ro F.round) (h0 : ∀ i, n0 ≤ i → γ0 i = none) {p q y x : Code} (hA : After3 p q y x) {o1 orr : Outs} {gn g2 : OutsG} {gx : Nat → OutsG} {gr : OutsG}
  (hr : ∀ vs ms os, orr.Q vs ms os → IsG P m n γ0 W0 gr r (St.of orr.lv vs ms os))
  (hq : ∀ vs ms os, o1.Q vs ms os → ReachG P m n F k γ0 W0 q r (St.of o1.lv vs ms os) (CanG P m n γ0 W0 g2 gx gr))
  (hy : ∀ r vs ms os, g2.Q r vs ms os → ReachG P m n F k γ0 W0 y r (St.of g2.lv vs ms os) (CanG P m n γ0 W0 gn gx gr)) : ∀ {s : List (Nat × Value)} {b : Tr Value} {ms : List Nat} {A : AW},
  run (Cfg.sym P r) m n L p (lvlT (Cfg.sym P r) t tm L' d) ro (o1.ask n0) (fun _ => Outs.no.ask n0) (orr.ask n0) s b ms A = okR → ReachG P m n F k γ0 W0 x r ⟨⟨s, b⟩, ms, A⟩ (CanG P m n γ0 W0 gn gx gr) := by
 have key : ∀ {o : Outs} {g : OutsG} {st : St}, Is (Cfg.sym P r) m n γ0 W0 o st → (∀ vs ms os, o.Q vs ms os → IsG P m n γ0 W0 g r (St.of o.lv vs ms os)) → IsG P m n γ0 W0 g r st := fun {o g st} ⟨vs, ms, os, hr, q⟩ hg γ a W hs hb => by
  obtain ⟨γ1, s1, b1⟩ := hr γ a W hs hb
  exact hg vs ms os q γ1 a W s1 b1
 have pre : ∀ {p q : Code}, (∀ vs ms os, o1.Q vs ms os → ReachG P m n F k γ0 W0 q r (St.of o1.lv vs ms os) (CanG P m n γ0 W0 g2 gx gr)) → ∀ {s : List (Nat × Value)} {b : Tr Value} {ms : List Nat} {A : AW}, run (Cfg.sym P r) m n L p (lvlT (Cfg.sym P r) t tm L' d) ro (o1.ask n0) (fun _ => Outs.no.ask n0) (orr.ask n0) s b ms A = okR →
   ReachG P m n F k γ0 W0 p r ⟨⟨s, b⟩, ms, A⟩ fun ex r' st' => match ex with | .normal => ReachG P m n F k γ0 W0 q r' st' (CanG P m n γ0 W0 g2 gx gr) | ex => CanG P m n γ0 W0 g2 gx gr ex r' st' := fun {p q} hq {s b ms A} h => by
  refine ReachG.mono (ReachG.of (Reach.segKr (k := k) (W0 := W0) hC ht hF hro h)) fun ex r' st' ⟨e, hx⟩ => ?_
  subst e
  cases ex with
  | normal =>
   obtain ⟨vs, ms, os, hre, q1⟩ := Outs.ask_use (C := Cfg.sym P r') (m := m) (n := n) (W0 := W0) h0 hx
   intro γ a W hs hb
   obtain ⟨γ1, s1, b1⟩ := hre γ a W hs hb
   exact hq vs ms os q1 γ1 a W s1 b1
  | exit id => exact (Outs.no_use (C := Cfg.sym P r') (m := m) (n := n) (W0 := W0) h0 hx).elim
  | ret => exact key (Outs.ask_use h0 hx) hr
  | _ => exact hx
 induction hA with
 | base => intro s b ms A h; exact ReachG.seqC (ReachG.seq (pre hq h)) hy
 | flat =>
  intro s b ms A h
  refine ReachG.seq (ReachG.mono (pre hq h) fun ex r' st' hx => ?_)
  cases ex with
  | normal => exact ReachG.seqC hx hy
  | _ => exact hx
 | step hA ih =>
  intro s b ms A h
  refine ReachG.seq (ReachG.mono (ReachG.of (Reach.segKr (k := k) (W0 := W0) hC ht hF hro h)) fun ex r' st' ⟨e, hx⟩ => ?_)
  subst e
  cases ex with
  | normal => exact ih hq hy hx
  | exit id => exact (Outs.no_use (C := Cfg.sym P r') (m := m) (n := n) (W0 := W0) h0 hx).elim
  | ret => exact key (Outs.ask_use h0 hx) hr
  | _ => exact hx

/-! ### calls -/

def EndsG (P : Program) (γ : Gam) (W : World) (S : Value → AW → Mem → Prop) (e : Ending) (W' : World) : Prop :=
 ∃ v A' r', S v A' r' ∧ ∃ v' γ', e = .returned v' ∧ VRel γ' v v' ∧ WRel γ' A' W' ∧ Ext γ W γ' W' ∧ Ro r' γ' W'

def SOkG (P : Program) (r : Mem) (f : Nat) (args : List Value) (A : AW) (S : Value → AW → Mem → Prop) : Prop :=
 ∀ F, Wide F → ∀ k γ W args', WRel γ A W → Ro r γ W → VsRel γ args (Array.toList args') → CallsIn F k P f args' W (EndsG P γ W S)

theorem SOkG.mono {r : Mem} {f : Nat} {args : List Value} {A : AW} {S S' : Value → AW → Mem → Prop} (h : SOkG P r f args A S) (hs : ∀ v A' r', S v A' r' → S' v A' r') : SOkG P r f args A S' := fun F hF k γ W args' hw hR ha =>
 (h F hF k γ W args' hw hR ha).mono fun e W' ⟨v, A', r', q, he⟩ => ⟨v, A', r', hs _ _ _ q, he⟩

theorem SOkG.of {r : Mem} {f : Nat} {args : List Value} {A : AW} {S : Value → AW → Prop} (h : SOk (Cfg.sym P r) f args A S) : SOkG P r f args A fun v A' r' => r' = r ∧ S v A' := fun F hF k γ W args' hw hR ha =>
 (h F hF k γ W args' hw hR ha).mono fun e W' ⟨v, A', q, v', γ', he, hv, hw', hx⟩ => ⟨v, A', r, ⟨rfl, q⟩, v', γ', he, hv, hw', hx, Ro.ext hR hx⟩

theorem SOkG.grT {r : Mem} {f : Nat} {args : List Value} {A : AW} {v : Value} {S : Value → AW → Mem → Prop} (hg : gnd v = true) (hA : A = emptyA) (h : SOkG P r f args A fun u B r' => u = v) : GrT P r f args v := by
 subst hA
 refine ⟨hg, fun F hF k W args' hR ha => ?_⟩
 refine (h F hF k noG W args' (WRel.empty W) hR ha).mono fun e W' ⟨u, A', r', q, v', γ', he, hv, hw', hx, _⟩ => ?_
 subst q
 subst he
 exact ⟨by rw [hv.eq_of_gnd hg], hx.below⟩

theorem finish_okG {C : Cfg} (hC : C.Ok) {F : Fence} (k : Nat) {fn : Func} {m n : Nat} {γ γ0 : Gam} {s : St} {a : Act} {W W0 : World} {v : Value} {A' : AW} {S : Value → AW → Mem → Prop} (hS : S v A' C.ro) (hs : SRel W0.heap.size γ m n s a W) (hR : Ro C.ro γ W) (he : Ext γ0 W0 γ W)
  (h : finish C m fn.results.toList s = .ret v A') : LeavesInM F k C.P fn a.tmps (EndsG C.P γ0 W0 S) a.defers .returning W := by
 unfold finish at h
 split at h
 ·rename_i A1 hm
  split at h
  ·rename_i vs hvs
   cases h
   refine marks_ok k hs.df hs.w hR he hm fun W' hw' hR' hx => ?_
   obtain ⟨vs', hr, hrel⟩ := results_ok hC hs.tm hw' hR' hvs
   refine ⟨if h : (⟨vs'⟩ : Array Value).size = 1 then (⟨vs'⟩ : Array Value)[0] else .tuple ⟨vs'⟩, ?_, ?_⟩
   ·unfold results
    rw [Array.mapM_eq_mapM_toList]
    simp only [Sem.run_bind, Sem.run_map]
    exact (congrArg (fun (r : Result (List Value)) => ((r.andThen fun a w' => .ok a.toArray w').andThen fun (a : Array Value) w' => Sem.run C.P (pure (if h : a.size = 1 then a[0] else Value.tuple a)) w')) hr).trans rfl
   ·refine ⟨_, _, _, hS, _, γ, rfl, ?_, hw', hx, hR'⟩
    cases hrel with
    | nil => exact .tuple .nil
    | cons h1 hl => cases hl with
     | nil => exact h1
     | cons h2 hl => exact .tuple (.cons h1 (.cons h2 hl))
  ·cases h
 ·cases h

theorem callOG {r : Mem} (hC : ∀ r, (Cfg.sym P r).Ok) {f : Nat} {c : Code} (hb : hasBody (Cfg.sym P r) f = true) (hc : bodyOf (Cfg.sym P r) f = c) {nt : Nat} (hn : ntm (Cfg.sym P r) f = nt) {rs : List ResultVar} (hr : resOf (Cfg.sym P r) f = rs) {args : List Value} {A : AW} {S : Value → AW → Mem → Prop} (mk : Nat) (hle : Nat.ble args.length nt = true) (oe : OutsG)
  (hend : ∀ r1 vs ms os, oe.Q r1 vs ms os → ∃ v A', finish (Cfg.sym P r1) mk rs (St.of oe.lv vs ms os) = .ret v A' ∧ S v A' r1)
  (h : ∀ γ W F k, WRel γ A W → Wide F → RoRel γ none F.round → (∀ i, A.next ≤ i → γ i = none) → ReachG P mk nt F k γ W c r ⟨⟨sc0 mk args, tr0 mk args⟩, [], A⟩ (CanG P mk nt γ W oe (fun _ => OutsG.no) oe)) : SOkG P r f args A S := by
 obtain ⟨fn, h1, h2, h3, h4⟩ : ∃ fn, (Cfg.sym P r).fns.get f = some fn ∧ fn.body = some (bodyOf (Cfg.sym P r) f) ∧ fn.ntmps = ntm (Cfg.sym P r) f ∧ fn.results.toList = resOf (Cfg.sym P r) f := by
  unfold hasBody at hb
  unfold bodyOf ntm resOf
  split at hb
  ·rename_i fn hfn
   split at hb
   ·rename_i c hc
    exact ⟨fn, hfn, by simp only [hfn, hc], by simp only [hfn], by simp only [hfn]⟩
   ·cases hb
  ·cases hb
 have hn' : fn.ntmps = nt := h3.trans hn
 rw [hc] at h2
 intro F hF k γ W args' hw hR ha
 have hF0 : Wide { F with round := none } := ⟨hF.fn, hF.depth, hF.alive⟩
 have main : CallsIn { F with round := none } k P f args' W (EndsG P γ W S) := by
  refine callsIn_of_wp_marks ((hC r).fn _ _ h1) h2 (hF.fn f) ?_ rfl
  have hlen : args'.size = args.length := by have := ha.length; simpa using this
  have hle' : args.length ≤ fn.ntmps := by rw [hn']; exact ble_le hle
  have hs0 : SRel W.heap.size γ mk fn.ntmps ⟨setArgs mk args 0 ⟨[], .nil⟩, [], A⟩ { tmps := args' ++ Array.replicate (fn.ntmps - args'.size) undef, defers := [] } W := by
   refine ⟨setArgs_rel ha (fun j u hj => ?_) (fun t u hu => ?_), ?_, .nil, hw⟩
   ·have hjl : j < args'.size := by
     have := (List.getElem?_eq_some_iff.1 hj).1
     simpa using this
    rw [Nat.zero_add, Array.getElem?_append_left hjl]
    simpa using hj
   ·unfold En.get at hu
    split at hu
    ·simp [Tr.get] at hu
    ·simp [scan] at hu
   ·simp
    omega
  rw [hn'] at hs0
  have hb0 : Base (Cfg.sym P r) γ W γ W := ⟨Ext.refl γ W, hR⟩
  rw [hn']
  refine wpIn_mono (h γ W _ k hw hF0 .none hw.fresh γ _ W hs0 hb0) fun ex a' W' ⟨r', st', γ', hq, s, b⟩ => ?_
  have fin : IsG P mk nt γ W oe r' st' → LeavesInM { F with round := none } k P fn a'.tmps (EndsG P γ W S) a'.defers .returning W' := fun hi => by
   obtain ⟨r1, γ1, vs, ms, os, q, s1, b1⟩ := hi γ' a' W' s b
   obtain ⟨v, A', e1, e2⟩ := hend r1 vs ms os q
   exact finish_okG (hC r1) k (S := S) e2 s1 b1.ro b1.ext (by rw [h4, hr]; exact e1)
  cases ex with
  | normal => exact fin hq
  | ret => exact fin hq
  | exit id => obtain ⟨_, _, _, _, _, hf, _⟩ := hq γ' a' W' s b; exact hf.elim
  | _ => exact hq.elim
 exact main

def StepEG (P : Program) (r : Mem) (m n : Nat) (o : Oper) (en : En) (A : AW) (S : Value → AW → Mem → Prop) : Prop :=
 ∀ F, Wide F → ∀ (β k : Nat) (γ : Gam) (ms : List Nat) (a : Act) (W : World) (next : Act → World → Prop) (Q : Exit → Act → World → Prop), SRel β γ m n ⟨en, ms, A⟩ a W → Ro r γ W →
  (∀ v A' r' v' γ' W', S v A' r' → VRel γ' v v' → WRel γ' A' W' → Ext γ W γ' W' → Ro r' γ' W' → next (a.put o.dst v') W') → o.wpIn F k P a W next Q

theorem StepEG.call {r : Mem} (hC : (Cfg.sym P r).Ok) {m n : Nat} {o : Oper} {en : En} {A : AW} {f : Nat} {args : List Value} {A1 : AW} {S : Value → AW → Mem → Prop}
  (hav : avail m en o.op.operands.toList = true) (hd : doOp (Cfg.sym P r) (rho m en) o A = .call f args A1) (hN : SOkG P r f args A1 S) : StepEG P r m n o en A S := by
 intro F hF β k γ ms a W next Q hs hR hn
 have hw := hs.w
 have hop := doOp_ok hC hw hR o (ρ := rho m en) (ρ' := a.eval) (fun x hx => avail_rel hs.tm hav x (by simpa using hx))
 have hnd : ∀ c, o.op ≠ .defer c := not_defer (fun w hw => by rw [hd] at hw; cases hw)
 refine ⟨fun f _ => hF.fn f, ?_⟩
 rw [Oper.semAt_eq _ _ _ hnd]
 rw [hd] at hop
 obtain ⟨args', hrun, hargs, hw⟩ := hop
 have hrun' := hrun
 rw [show (Cfg.sym P r).P = P from rfl] at hrun'
 rw [hrun']
 refine ⟨fun hd => by rw [hF.depth] at hd; simp at hd, ?_⟩
 refine (hN F hF (k - 1) γ W args' hw hR hargs).mono fun e W' he => ?_
 obtain ⟨v, A', r', hS, v', γ', rfl, hv, hw', hx, hR'⟩ := he
 exact hn v A' r' v' γ' W' hS hv hw' hx hR'

theorem ReachG.regionK {r : Mem} (hC : ∀ r, (Cfg.sym P r).Ok) (hF : Wide F) {t : Tbl} (ht : TOk (Cfg.sym P r) t) {tm : Tr Nat} {L d : Nat} {c : Code} {p : Nat} {o : Oper} (ho : opAt c p = some o) {s s1 : List (Nat × Value)} {b b1 : Tr Value} (hgd : wantedE m (opsL c) ⟨s1, b1⟩ o.guard = some true) {ms ms1 : List Nat} {A A1 : AW} {S : Value → AW → Mem → Prop} {kn : Mem → KS}
  (hpre : preK (Cfg.sym P r) m n c p (lvlT (Cfg.sym P r) t tm L d) (qn (· = ⟨⟨s1, b1⟩, ms1, A1⟩)) [] b ms A = okR) (hstep : StepEG P r m n o ⟨s1, b1⟩ A1 S)
  (hk : ∀ v A' r', S v A' r' → ∃ t, TOk (Cfg.sym P r') t ∧ ∃ tm L d, tailK (Cfg.sym P r') m n c p (lvlT (Cfg.sym P r') t tm L d) (kn r') v s1 b1 ms1 A' = okR) : ReachG P m n F k γ0 W0 c r ⟨⟨s, b⟩, ms, A⟩ (fun ex r' st => ex = .normal ∧ kn r' st.en.scr st.en.base st.marks st.A = okR) := by
 unfold opAt at ho
 split at ho
 case h_2 => cases ho
 rename_i id ops
 intro γ a W hs hb
 have hs0 := dropScr_rel hs
 have hf := lvlU_ok (hC r) ht tm L d
 have hle := lvlT_le (C := Cfg.sym P r) t tm L d
 refine wpIn_region ?_
 obtain ⟨rest, hrest⟩ : ∃ rest, ops.toList.drop p = o :: rest := by
  cases hd : ops.toList.drop p with
  | nil => rw [hd] at ho; cases ho
  | cons x l => rw [hd] at ho; cases ho; exact ⟨l, rfl⟩
 have hlen : ops.size = p + (rest.length + 1) := by
  have := congrArg List.length hrest
  simp only [List.length_drop, Array.length_toList, List.length_cons] at this
  omega
 have hpl : (ops.toList.take p).length = p := by simp; omega
 have hrange : List.range ops.size = List.range' 0 (ops.toList.take p).length ++ (p :: List.range' (p + 1) rest.length) := by
  rw [hpl, List.range_eq_range', hlen, ← List.range'_succ]
  have := List.range'_append (s := 0) (m := p) (n := rest.length + 1) (step := 1)
  simp only [Nat.zero_add, Nat.one_mul] at this
  exact this.symm
 rw [hrange]
 have hq1 := cOps_le (C := Cfg.sym P r) hle m n ops.toList (fun _ _ _ _ _ => .fail 0) (fun _ _ _ _ => .fail 0) (ops.toList.take p) (qn (· = ⟨⟨s1, b1⟩, ms1, A1⟩)) [] b ms A _ _ hpre
 have hev : evOps (Cfg.sym P r) (lvlU (Cfg.sym P r) t tm L d) m n ops.toList (ops.toList.take p) ⟨⟨[], b⟩, ms, A⟩ = .norm ⟨⟨s1, b1⟩, ms1, A1⟩ := by
  cases he : evOps (Cfg.sym P r) (lvlU (Cfg.sym P r) t tm L d) m n ops.toList (ops.toList.take p) ⟨⟨[], b⟩, ms, A⟩ with
  | fail w => rw [he] at hq1; cases hq1
  | exit id st => rw [he] at hq1; cases hq1
  | ret st => rw [he] at hq1; cases hq1
  | norm st =>
   obtain ⟨⟨s', b'⟩, ms', A'⟩ := st
   rw [he] at hq1
   rw [qn_use hq1]
 refine ops_pre (hC r) hf hF k (ops.toList.take p) 0 (o :: rest) (by rw [← hrest]; simp) hs0 hb.ro hev fun γ1 a1 W1 hs1 he1 => ?_
 have hoi : ops[p]? = some o := by
  have : (ops.toList.drop p)[0]? = some o := by rw [hrest]; rfl
  simpa using this
 have hdrop : ops.toList.drop (p + 1) = rest := by
  have := congrArg List.tail hrest
  simpa using this
 have hwant : wantedE m ops.toList ⟨s1, b1⟩ o.guard = some true := hgd
 simp only [wpOpsIn, hoi]
 rw [wantedE_ok hs1.tm o hwant]
 simp only [if_true]
 refine hstep F hF _ k γ1 ms1 a1 W1 _ _ hs1 (hb.ro.ext he1) fun v A' r' v' γ' W' hS hv hw he hR' => ?_
 obtain ⟨t2, ht2, tm2, L2, d2, ht1⟩ := hk v A' r' hS
 simp only [tailK, hrest] at ht1
 obtain ⟨e, h1, h2⟩ := cPut_use ht1
 have hset := setD_of (m := m) (n := n) (s := ⟨⟨s1, b1⟩, ms1, A1⟩) (A := A') h1
 have hf2 := lvlU_ok (hC r') ht2 tm2 L2 d2
 have hle2 := lvlT_le (C := Cfg.sym P r') t2 tm2 L2 d2
 have hq2 := cOps_le (C := Cfg.sym P r') hle2 m n ops.toList (fun _ _ _ _ _ => .fail 0) (fun _ _ _ _ => .fail 0) rest (kn r') e.scr e.base ms1 A' _ _ h2
 cases hev2 : evOps (Cfg.sym P r') (lvlU (Cfg.sym P r') t2 tm2 L2 d2) m n ops.toList rest ⟨e, ms1, A'⟩ with
 | fail w => rw [hev2] at hq2; cases hq2
 | exit id st => rw [hev2] at hq2; cases hq2
 | ret st => rw [hev2] at hq2; cases hq2
 | norm st =>
  rw [hev2] at hq2
  obtain ⟨⟨s', b'⟩, ms', A2⟩ := st
  refine ops_ok (hC r') hf2 hF k (ops := ops) rest (p + 1) hdrop (setD_rel hs1 hset he hv hw) hR' (by rw [hev2]; rfl) ?_
  rw [hev2]
  exact fun γ2 a2 W2 hs2 he2 => ⟨r', ⟨⟨s', b'⟩, ms', A2⟩, γ2, ⟨rfl, hq2⟩, hs2, ⟨hb.ext.trans (he1.trans (he.trans he2)), hR'.ext he2⟩⟩

theorem ReachG.callC {r : Mem} (hC : ∀ r, (Cfg.sym P r).Ok) (hF : Wide F) (h0 : ∀ i, n0 ≤ i → γ0 i = none) {t : Tbl} (ht : TOk (Cfg.sym P r) t) {tm : Tr Nat} {L d : Nat} {c : Code} (p : Nat) {s s1 : List (Nat × Value)} {b b1 : Tr Value} {ms ms1 : List Nat} {A A1 A2 : AW} {i : Nat} {args : List Value} {S : Value → AW → Mem → Prop} {lv : List Nat} {fl : List Fl} {Q : Mem → OV → List Nat → OO → Prop} {ox : Nat → OutsG} {orr : OutsG}
  (hpre : preK (Cfg.sym P r) m n c p (lvlT (Cfg.sym P r) t tm L d) (qn (· = ⟨⟨s1, b1⟩, ms1, A1⟩)) [] b ms A = okR) (hy : callAtG (Cfg.sym P r) m c p ⟨s1, b1⟩ A1 = some (i, args, A2)) (hN : SOkG P r i args A2 S)
  (hk : ∀ v A' r', S v A' r' → ∃ t, TOk (Cfg.sym P r') t ∧ ∃ tm L d, tailK (Cfg.sym P r') m n c p (lvlT (Cfg.sym P r') t tm L d) (Outs.ask n0 ⟨lv, fl, Q r'⟩) v s1 b1 ms1 A' = okR) : ReachG P m n F k γ0 W0 c r ⟨⟨s, b⟩, ms, A⟩ (CanG P m n γ0 W0 ⟨lv, Q⟩ ox orr) := by
 unfold callAtG at hy
 split at hy
 ·rename_i o ho
  split at hy
  ·rename_i hg hav hd
   cases hy
   refine ReachG.mono (ReachG.regionK hC hF ht ho hg hpre (StepEG.call (hC r) hav hd hN) (kn := fun r' => Outs.ask n0 ⟨lv, fl, Q r'⟩) hk) fun ex r' st ⟨h, hq⟩ => ?_
   subst h
   intro γ a W hs hb
   obtain ⟨vs, ms, os, hr, q⟩ := Outs.ask_use (C := Cfg.sym P r') (m := m) (n := n) (W0 := W0) h0 hq
   obtain ⟨γ1, s1, b1⟩ := hr γ a W hs hb
   exact ⟨r', γ1, vs, ms, os, q, s1, b1⟩
  ·cases hy
 ·cases hy

/-! ### a cell of memory that is read is written -/

def Mem.upd (r : Mem) (b k : Nat) (v : Value) : Mem := ⟨fun b' k' => match Nat.beq b' b && Nat.beq k' k with
 | true => some v
 | false => r b' k', r.own⟩
theorem Mem.upd_same (r : Mem) (b k : Nat) (v : Value) : r.upd b k v b k = some v := by
 show (match Nat.beq b b && Nat.beq k k with | true => some v | false => r b k) = some v
 rw [Nat.beq_refl, Nat.beq_refl]; rfl
theorem Mem.upd_other (r : Mem) {b k b' k' : Nat} (v : Value) (h : b' ≠ b ∨ k' ≠ k) : r.upd b k v b' k' = r b' k' := by
 show (match Nat.beq b' b && Nat.beq k' k with | true => some v | false => r b' k') = _
 rcases h with h | h
 ·rw [natF h]; rfl
 ·rw [natF h, Bool.and_false]

theorem DRel.setCells {β : Nat} {γ : Gam} {W : World} {b : Nat} {cc : Array Value} {e : TypeId} {fr : Nat × Nat} {O : Obj} (hb : W.heap[b]? = some (.cells cc e fr)) {l : List Nat} {D : List Deferred} (h : DRel β γ W l D) : DRel β γ (setB W b O) l D := by
 induction h with
 | nil => exact .nil
 | cons h _ ih => exact .cons h ih
 | dead hB hb' hu hd _ ih => exact .dead hB (by rw [setB_other _ (fun e => by subst e; rw [hb] at hb'; cases hb')]; exact hb') hu hd ih

theorem Ext.setMay {γ0 γ : Gam} {W0 W : World} {b : Nat} {O : Obj} (h : Ext γ0 W0 γ W) (hm : b < W0.heap.size → ∃ i g, γ0 i = some g ∧ g.blk = b) : Ext γ0 W0 γ (Go.Ev.setB W b O) :=
 ⟨h.le, h.new, by rw [setB_size]; exact h.size, fun b' hlt hno => by
  rw [setB_other _ (fun e => by subst e; obtain ⟨i, g, h1, h2⟩ := hm hlt; exact hno i g h1 h2)]
  exact h.block b' hlt hno, h.os, h.tape, h.output, h.drawn⟩

theorem store_mem {r : Mem} {γ : Gam} {W : World} (hR : Ro r γ W) {b j : Nat} (ho : r.own b = true) {u : Value} (hu : r b j = some u) {v : Value} (hv : gnd v = true) (h1 : v.oneCell' = true) :
  ∃ O, (storeCells ⟨b, j, none⟩ [v]).run P W = .ok () (setB W b O) ∧ (∃ cc e fr, W.heap[b]? = some (.cells cc e fr)) ∧ (∀ i g, γ i = some g → g.blk ≠ b) ∧ Ro (r.upd b j v) γ (setB W b O) := by
 obtain ⟨hno, cc, e, fr, hb, hf⟩ := hR.wr b ho
 obtain ⟨_, cc1, e1, fr1, v1, hb1, hk, _⟩ := hR.rd b j u hu
 rw [hb] at hb1
 cases hb1
 have hlt : j < cc.size := (Array.getElem?_eq_some_iff.1 hk).1
 obtain ⟨cc', hrun, hsz, hget⟩ := run_store_row (P := P) (e := e) [v] 0 W b j cc hb hf (by simp; omega) (fun x hx => by simp at hx; subst hx; exact h1)
 have hsame : (setB W b (.cells cc' e fr)).heap[b]? = some (.cells cc' e fr) := setB_same _ (lt_of_heap hb)
 refine ⟨_, hrun, ⟨cc, e, fr, hb⟩, hno, ⟨fun b' k' w hw => ?_, fun b' hb' => ?_⟩⟩
 ·by_cases c : b' = b ∧ k' = j
  ·obtain ⟨rfl, rfl⟩ := c
   rw [Mem.upd_same] at hw
   cases hw
   refine ⟨hno, cc', e, fr, v, hsame, ?_, fun γ' => VRel.of_gnd _ _ hv⟩
   rw [hget, if_pos (by simp)]
   simp
  ·rw [Mem.upd_other _ _ (if d : b' = b then .inr fun e => c ⟨d, e⟩ else .inl d)] at hw
   obtain ⟨w1, cc2, e2, fr2, v2, w2, w3, w4⟩ := hR.rd b' k' w hw
   by_cases d : b' = b
   ·subst d
    rw [hb] at w2
    cases w2
    refine ⟨w1, cc', e, fr, v2, hsame, ?_, w4⟩
    rw [hget, if_neg (by simp; omega)]
    exact w3
   ·exact ⟨w1, cc2, e2, fr2, v2, by rw [setB_other _ d]; exact w2, w3, w4⟩
 ·obtain ⟨w1, cc2, e2, fr2, w2, w3⟩ := hR.wr b' hb'
  by_cases d : b' = b
  ·subst d
   rw [hb] at w2
   cases w2
   exact ⟨w1, cc', e, fr, hsame, by rw [hsz]; exact hf⟩
  ·exact ⟨w1, cc2, e2, fr2, by rw [setB_other _ d]; exact w2, w3⟩

def storeAtG (C : Cfg) (m : Nat) (c : Code) (p : Nat) (en : En) : Option (Nat × Nat × Value) := match opAt c p with
 | some o => match wantedE m (opsL c) en o.guard, avail m en o.op.operands.toList, o.op with
  | some true, true, .store t a x => match rho m en a, C.tys.get t with
   | .pointer (some ⟨b, j, some _⟩), some inf => match Nat.beq 1 inf.size with
    | true => some (b, j, rho m en x)
    | false => none
   | _, _ => none
  | _, _, _ => none
 | none => none

theorem ReachG.storeC {r : Mem} (hC : ∀ r, (Cfg.sym P r).Ok) (hF : Wide F) (h0 : ∀ i, n0 ≤ i → γ0 i = none) {t : Tbl} (ht : TOk (Cfg.sym P r) t) {tm : Tr Nat} {L d : Nat} {c : Code} (p : Nat) {s s1 : List (Nat × Value)} {b b1 : Tr Value} {ms ms1 : List Nat} {A A1 : AW} {bb j : Nat} {u v : Value} {lv : List Nat} {fl : List Fl} {Q : Mem → OV → List Nat → OO → Prop} {ox : Nat → OutsG} {orr : OutsG}
  (hpre : preK (Cfg.sym P r) m n c p (lvlT (Cfg.sym P r) t tm L d) (qn (· = ⟨⟨s1, b1⟩, ms1, A1⟩)) [] b ms A = okR) (hy : storeAtG (Cfg.sym P r) m c p ⟨s1, b1⟩ = some (bb, j, v)) (hown : r.own bb = true) (hu : r bb j = some u) (hv : gnd v = true) (h1 : one v = true) (hv1 : vcells v = [v]) (hmay : bb < W0.heap.size → ∃ i g, γ0 i = some g ∧ g.blk = bb)
  (hk : ∃ t, TOk (Cfg.sym P (r.upd bb j v)) t ∧ ∃ tm L d, tailK (Cfg.sym P (r.upd bb j v)) m n c p (lvlT (Cfg.sym P (r.upd bb j v)) t tm L d) (Outs.ask n0 ⟨lv, fl, Q (r.upd bb j v)⟩) undef s1 b1 ms1 A1 = okR) : ReachG P m n F k γ0 W0 c r ⟨⟨s, b⟩, ms, A⟩ (CanG P m n γ0 W0 ⟨lv, Q⟩ ox orr) := by
 unfold storeAtG at hy
 split at hy
 case h_2 => cases hy
 rename_i o ho
 split at hy
 case h_2 => cases hy
 rename_i ty ea ex hgd hav hop
 split at hy
 case h_2 => cases hy
 rename_i bb' j' sp inf hra hinf
 split at hy
 case h_2 => cases hy
 rename_i hone
 cases hy
 have hcan : ∀ {r' : Mem} {st : St}, Outs.ask n0 ⟨lv, fl, Q r'⟩ st.en.scr st.en.base st.marks st.A = okR → IsG P m n γ0 W0 ⟨lv, Q⟩ r' st := fun {r' st} hq γ a W hs hb => by
  obtain ⟨vs, ms, os, hr, q⟩ := Outs.ask_use (C := Cfg.sym P r') (m := m) (n := n) (W0 := W0) h0 hq
  obtain ⟨γ1, s1, b1⟩ := hr γ a W hs hb
  exact ⟨r', γ1, vs, ms, os, q, s1, b1⟩
 unfold opAt at ho
 split at ho
 case h_2 => cases ho
 rename_i id ops
 intro γ a W hs hb
 have hs0 := dropScr_rel hs
 have hf := lvlU_ok (hC r) ht tm L d
 have hle := lvlT_le (C := Cfg.sym P r) t tm L d
 refine wpIn_region ?_
 obtain ⟨rest, hrest⟩ : ∃ rest, ops.toList.drop p = o :: rest := by
  cases hd : ops.toList.drop p with
  | nil => rw [hd] at ho; cases ho
  | cons x l => rw [hd] at ho; cases ho; exact ⟨l, rfl⟩
 have hlen : ops.size = p + (rest.length + 1) := by
  have := congrArg List.length hrest
  simp only [List.length_drop, Array.length_toList, List.length_cons] at this
  omega
 have hpl : (ops.toList.take p).length = p := by simp; omega
 have hrange : List.range ops.size = List.range' 0 (ops.toList.take p).length ++ (p :: List.range' (p + 1) rest.length) := by
  rw [hpl, List.range_eq_range', hlen, ← List.range'_succ]
  have := List.range'_append (s := 0) (m := p) (n := rest.length + 1) (step := 1)
  simp only [Nat.zero_add, Nat.one_mul] at this
  exact this.symm
 rw [hrange]
 have hq1 := cOps_le (C := Cfg.sym P r) hle m n ops.toList (fun _ _ _ _ _ => .fail 0) (fun _ _ _ _ => .fail 0) (ops.toList.take p) (qn (· = ⟨⟨s1, b1⟩, ms1, A1⟩)) [] b ms A _ _ hpre
 have hev : evOps (Cfg.sym P r) (lvlU (Cfg.sym P r) t tm L d) m n ops.toList (ops.toList.take p) ⟨⟨[], b⟩, ms, A⟩ = .norm ⟨⟨s1, b1⟩, ms1, A1⟩ := by
  cases he : evOps (Cfg.sym P r) (lvlU (Cfg.sym P r) t tm L d) m n ops.toList (ops.toList.take p) ⟨⟨[], b⟩, ms, A⟩ with
  | fail w => rw [he] at hq1; cases hq1
  | exit id st => rw [he] at hq1; cases hq1
  | ret st => rw [he] at hq1; cases hq1
  | norm st =>
   obtain ⟨⟨s', b'⟩, ms', A'⟩ := st
   rw [he] at hq1
   rw [qn_use hq1]
 refine ops_pre (hC r) hf hF k (ops.toList.take p) 0 (o :: rest) (by rw [← hrest]; simp) hs0 hb.ro hev fun γ1 a1 W1 hs1 he1 => ?_
 have hoi : ops[p]? = some o := by
  have : (ops.toList.drop p)[0]? = some o := by rw [hrest]; rfl
  simpa using this
 have hdrop : ops.toList.drop (p + 1) = rest := by
  have := congrArg List.tail hrest
  simpa using this
 have hwant : wantedE m ops.toList ⟨s1, b1⟩ o.guard = some true := hgd
 simp only [wpOpsIn, hoi]
 rw [wantedE_ok hs1.tm o hwant]
 simp only [if_true]
 have hR1 := hb.ro.ext he1
 have hnd : ∀ c, o.op ≠ .defer c := fun c h => by rw [hop] at h; cases h
 have hra' := avail_rel hs1.tm hav ea (by rw [hop]; simp [Op.operands])
 have hrx' := avail_rel hs1.tm hav ex (by rw [hop]; simp [Op.operands])
 rw [hra] at hra'
 have hex : a1.eval ex = rho m ⟨s1, b1⟩ ex := hrx'.eq_of_gnd hv
 have hone' : (rho m ⟨s1, b1⟩ ex).oneCell' = true := one_rel (γ := γ1) (VRel.of_gnd _ _ hv) h1
 obtain ⟨O, hrun, ⟨cc, e, fr, hcell⟩, hno, hR2⟩ := store_mem (P := P) hR1 hown hu hv hone'
 refine ⟨fun f _ => hF.fn f, ?_⟩
 rw [Oper.semAt_eq _ _ _ hnd]
 have hsem : (Instr.storeAt ty (a1.eval ea) (a1.eval ex)).run P W1 = .ok () (setB W1 bb O) := by
  rw [hex]
  generalize hw : a1.eval ea = ea' at hra'
  cases hra'
  have hc1 : (rho m ⟨s1, b1⟩ ex).cells.toList = [rho m ⟨s1, b1⟩ ex] := by
   have h2 := vcells_rel (VRel.of_gnd γ1 _ hv)
   rw [hv1] at h2
   generalize hl : (rho m ⟨s1, b1⟩ ex).cells.toList = l at h2
   cases h2 with
   | cons h3 h4 =>
    cases h4
    rw [h3.eq_of_gnd hv]
  have hsz : (rho m ⟨s1, b1⟩ ex).cells.size = inf.size := by
   rw [← Array.length_toList, hc1, ← Nat.eq_of_beq_eq_true hone]; rfl
  have hso : (sizeOf ty).run P W1 = .ok inf.size W1 := run_sizeOf' ((hC r).ty _ _ hinf) W1
  simp only [Instr.storeAt, Instr.sureAddr, storeVar, Sem.run_bind, Sem.run_pure, Result.andThen_ok, hso, hsz, ne_eq, not_true_eq_false, if_false, hc1, hrun]
 have hexec : (execOp a1.eval o).run P W1 = .ok .skip (setB W1 bb O) := by
  unfold execOp
  simp only [hop, Sem.run_bind, hsem, Result.andThen_ok, Sem.run_pure]
 have hexec' : (execOp a1.eval o).run (Cfg.sym P r).P W1 = .ok .skip (setB W1 bb O) := hexec
 rw [hexec']
 have hs2 : SRel W0.heap.size γ1 m n ⟨⟨s1, b1⟩, ms1, A1⟩ a1 (setB W1 bb O) := ⟨hs1.tm, hs1.size, hs1.df.setCells hcell, hs1.w.setDead hno⟩
 obtain ⟨t2, ht2, tm2, L2, d2, ht1⟩ := hk
 simp only [tailK, hrest] at ht1
 obtain ⟨e, g1, g2⟩ := cPut_use ht1
 have hset := setD_of (m := m) (n := n) (s := ⟨⟨s1, b1⟩, ms1, A1⟩) (A := A1) g1
 have hf2 := lvlU_ok (hC (r.upd bb j (rho m ⟨s1, b1⟩ ex))) ht2 tm2 L2 d2
 have hle2 := lvlT_le (C := Cfg.sym P (r.upd bb j (rho m ⟨s1, b1⟩ ex))) t2 tm2 L2 d2
 have hq2 := cOps_le (C := Cfg.sym P (r.upd bb j (rho m ⟨s1, b1⟩ ex))) hle2 m n ops.toList (fun _ _ _ _ _ => .fail 0) (fun _ _ _ _ => .fail 0) rest (Outs.ask n0 ⟨lv, fl, Q (r.upd bb j (rho m ⟨s1, b1⟩ ex))⟩) e.scr e.base ms1 A1 _ _ g2
 have hext := (hb.ext.trans he1).setMay (O := O) hmay
 cases hev2 : evOps (Cfg.sym P (r.upd bb j (rho m ⟨s1, b1⟩ ex))) (lvlU (Cfg.sym P (r.upd bb j (rho m ⟨s1, b1⟩ ex))) t2 tm2 L2 d2) m n ops.toList rest ⟨e, ms1, A1⟩ with
 | fail w => rw [hev2] at hq2; cases hq2
 | exit id st => rw [hev2] at hq2; cases hq2
 | ret st => rw [hev2] at hq2; cases hq2
 | norm st =>
  rw [hev2] at hq2
  obtain ⟨⟨s', b'⟩, ms', A2⟩ := st
  refine ops_ok (hC (r.upd bb j (rho m ⟨s1, b1⟩ ex))) hf2 hF k (ops := ops) rest (p + 1) hdrop (setD_rel hs2 hset (Ext.refl _ _) (.tuple .nil) hs2.w) hR2 (by rw [hev2]; rfl) ?_
  rw [hev2]
  exact fun γ2 a2 W2 hs3 he2 => ⟨_, ⟨⟨s', b'⟩, ms', A2⟩, γ2, hcan hq2, hs3, ⟨hext.trans he2, hR2.ext he2⟩⟩

theorem ReachG.cond {r : Mem} {t : Nat} {x y : Code} {lv : List Nat} {vs : OV} {ms : List Nat} {os : OO} {v : Bool} {Q : Exit → Mem → St → Prop} (hv : opd m (St.of lv vs ms os).en (.tmp t) = some (.bool v)) (hx : v = true → ReachG P m n F k γ0 W0 x r (St.of lv vs ms os) Q) (hy : v = false → ReachG P m n F k γ0 W0 y r (St.of lv vs ms os) Q) : ReachG P m n F k γ0 W0 (.cond (.tmp t) x y) r (St.of lv vs ms os) Q := fun γ a W hs hb => by
 have hr := opd_rel hs.tm hv
 generalize hw : a.eval (.tmp t) = w at hr
 cases hr
 exact wpIn_cond_split hw (fun h => hx h γ a W hs hb) (fun h => hy h γ a W hs hb)

end

end Go.Ev
