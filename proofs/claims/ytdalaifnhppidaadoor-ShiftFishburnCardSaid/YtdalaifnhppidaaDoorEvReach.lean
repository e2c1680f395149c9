/- Code, from a state on: what it reaches. Loops by what stays true of the states at their head; there a block's name may be another one. -/
import Derived.Test.YtdalaifnhppidaaDoorEvSym
namespace Go.Ev
open Go
variable {β : Nat}

structure Base (C : Cfg) (γ0 : Gam) (W0 : World) (γ : Gam) (W : World) : Prop where
 ext : Ext γ0 W0 γ W
 ro : Ro C.ro γ W

section
variable {C : Cfg} {m n : Nat} {F : Fence} {k : Nat} {γ0 : Gam} {W0 : World}

def Reach (C : Cfg) (m n : Nat) (F : Fence) (k : Nat) (γ0 : Gam) (W0 : World) (c : Code) (st : St) (Q : Exit → St → Prop) : Prop :=
 ∀ γ a W, SRel W0.heap.size γ m n st a W → Base C γ0 W0 γ W → c.wpIn F k C.P (fun ex a' W' => ∃ st' γ', Q ex st' ∧ SRel W0.heap.size γ' m n st' a' W' ∧ Base C γ0 W0 γ' W') a W

def Ren (C : Cfg) (m n : Nat) (γ0 : Gam) (W0 : World) (st st1 : St) : Prop :=
 ∀ γ a W, SRel W0.heap.size γ m n st a W → Base C γ0 W0 γ W → ∃ γ1, SRel W0.heap.size γ1 m n st1 a W ∧ Base C γ0 W0 γ1 W

theorem Ren.refl (st : St) : Ren C m n γ0 W0 st st := fun γ _ _ h hb => ⟨γ, h, hb⟩

noncomputable def qn (Q : St → Prop) : KS := fun s b ms A => @ite _ (Q ⟨⟨s, b⟩, ms, A⟩) (Classical.propDecidable _) (.ret undef ⟨0, .nil, .nil⟩) (.fail 0)

theorem qn_ok {Q : St → Prop} {s : List (Nat × Value)} {b : Tr Value} {ms : List Nat} {A : AW} (h : Q ⟨⟨s, b⟩, ms, A⟩) : qn Q s b ms A = .ret undef ⟨0, .nil, .nil⟩ := by
 unfold qn
 exact if_pos h

theorem qn_use {Q : St → Prop} {s : List (Nat × Value)} {b : Tr Value} {ms : List Nat} {A : AW} (h : qn Q s b ms A = .ret undef ⟨0, .nil, .nil⟩) : Q ⟨⟨s, b⟩, ms, A⟩ := by
 unfold qn at h
 split at h
 ·assumption
 ·cases h

theorem Reach.seg (hC : C.Ok) {t : Tbl} (ht : TOk C t) {tm : Tr Nat} {L L' d : Nat} (hF : Wide F) (hro : F.round = none) {c : Code} {s : List (Nat × Value)} {b : Tr Value} {ms : List Nat} {A : AW} {Q : Exit → St → Prop}
  (h : run C m n L c (lvlT C t tm L' d) none (qn (Q .normal)) (fun id => qn (Q (.exit id))) (qn (Q .ret)) s b ms A = .ret undef ⟨0, .nil, .nil⟩) : Reach C m n F k γ0 W0 c ⟨⟨s, b⟩, ms, A⟩ Q := by
 intro γ a W hs hb
 have hle := cCode_le (C := C) (m := m) (n := n) (L := L) c (lvlT_le (C := C) t tm L' d) none (qn (Q .normal)) (fun id => qn (Q (.exit id))) (qn (Q .ret)) s b ms A _ _ h
 have hro' : RoRel γ none F.round := by rw [hro]; exact .none
 refine code_ok hC (lvlU_ok hC ht tm L' d) L c hF k hro' hs hb.ro ?_ ?_
 ·cases ho : evCode C (lvlU C t tm L' d) m n none L c ⟨⟨s, b⟩, ms, A⟩ with
  | fail w => rw [ho] at hle; cases hle
  | norm st => rfl
  | exit id st => rfl
  | ret st => rfl
 ·cases ho : evCode C (lvlU C t tm L' d) m n none L c ⟨⟨s, b⟩, ms, A⟩ with
  | fail w => trivial
  | norm st =>
   obtain ⟨⟨s', b'⟩, ms', A'⟩ := st
   rw [ho] at hle
   exact fun γ' a' W' hs' he => ⟨_, γ', qn_use hle, hs', ⟨hb.ext.trans he, hb.ro.ext he⟩⟩
  | exit id st =>
   obtain ⟨⟨s', b'⟩, ms', A'⟩ := st
   rw [ho] at hle
   exact fun γ' a' W' hs' he => ⟨_, γ', qn_use hle, hs', ⟨hb.ext.trans he, hb.ro.ext he⟩⟩
  | ret st =>
   obtain ⟨⟨s', b'⟩, ms', A'⟩ := st
   rw [ho] at hle
   exact fun γ' a' W' hs' he => ⟨_, γ', qn_use hle, hs', ⟨hb.ext.trans he, hb.ro.ext he⟩⟩

theorem Reach.mono {c : Code} {st : St} {Q Q' : Exit → St → Prop} (h : Reach C m n F k γ0 W0 c st Q) (hq : ∀ ex st', Q ex st' → Q' ex st') : Reach C m n F k γ0 W0 c st Q' :=
 fun γ a W hs hb => wpIn_mono (h γ a W hs hb) fun _ _ _ ⟨st', γ', q, r⟩ => ⟨st', γ', hq _ _ q, r⟩

theorem Reach.post {c : Code} {st : St} {Q Q' : Exit → St → Prop} (h : Reach C m n F k γ0 W0 c st Q) (hq : ∀ ex st', Q ex st' → ∃ st1, Ren C m n γ0 W0 st' st1 ∧ Q' ex st1) : Reach C m n F k γ0 W0 c st Q' :=
 fun γ a W hs hb => wpIn_mono (h γ a W hs hb) fun _ a' W' ⟨st', γ', q, r, b⟩ => by
  obtain ⟨st1, hr, q1⟩ := hq _ _ q
  obtain ⟨γ1, r1, b1⟩ := hr γ' a' W' r b
  exact ⟨st1, γ1, q1, r1, b1⟩

theorem Reach.pre {c : Code} {st st1 : St} {Q : Exit → St → Prop} (hr : Ren C m n γ0 W0 st st1) (h : Reach C m n F k γ0 W0 c st1 Q) : Reach C m n F k γ0 W0 c st Q := fun γ a W hs hb => by
 obtain ⟨γ1, r1, b1⟩ := hr γ a W hs hb
 exact h γ1 a W r1 b1

theorem Reach.seq {x y : Code} {st : St} {Q : Exit → St → Prop} (h : Reach C m n F k γ0 W0 x st fun ex st' => match ex with | .normal => Reach C m n F k γ0 W0 y st' Q | ex => Q ex st') : Reach C m n F k γ0 W0 (.seq x y) st Q :=
 fun γ a W hs hb => wpIn_seq (wpIn_mono (h γ a W hs hb) fun ex a' W' ⟨st', γ', q, r, b⟩ => by
  cases ex with
  | normal => exact q γ' a' W' r b
  | _ => exact ⟨st', γ', q, r, b⟩)

theorem Reach.block {id : Nat} {x : Code} {st : St} {Q : Exit → St → Prop} (h : Reach C m n F k γ0 W0 x st fun ex st' => match ex with | .exit j => if j = id then Q .normal st' else Q (.exit j) st' | ex => Q ex st') : Reach C m n F k γ0 W0 (.block id x) st Q :=
 fun γ a W hs hb => wpIn_block (wpIn_mono (h γ a W hs hb) fun ex a' W' ⟨st', γ', q, r, b⟩ => by
  cases ex with
  | exit j =>
   simp only [Exit.inBlock]
   simp only at q
   split at q
   ·rename_i e; rw [if_pos e]; exact ⟨st', γ', q, r, b⟩
   ·rename_i e; rw [if_neg e]; exact ⟨st', γ', q, r, b⟩
  | _ => exact ⟨st', γ', q, r, b⟩)

theorem Reach.loop {I : Nat → St → Prop} {x : Code} {Q : Exit → St → Prop}
  (h : ∀ j st, I j st → Reach C m n F k γ0 W0 x st fun ex st' => match ex with | .normal => ∃ j', j' < j ∧ I j' st' | ex => Q ex st') {j : Nat} {st : St} (hI : I j st) : Reach C m n F k γ0 W0 (.loop x) st Q := by
 intro γ a W hs hb
 refine wpIn_loop_rounds (j + 1) ?_
 have key : ∀ (K j : Nat), j < K → ∀ st, I j st → ∀ γ a W, SRel W0.heap.size γ m n st a W → Base C γ0 W0 γ W →
   Code.roundsIn F k C.P x (fun ex a' W' => ∃ st' γ', Q ex st' ∧ SRel W0.heap.size γ' m n st' a' W' ∧ Base C γ0 W0 γ' W') K a W := by
  intro K
  induction K with
  | zero => intro j h; omega
  | succ K ih =>
   intro j hj st hI γ a W hs hb
   rw [roundsIn_succ]
   refine wpIn_mono (h j st hI γ a W hs hb) fun ex a' W' ⟨st', γ', q, r, b⟩ => ?_
   cases ex with
   | normal =>
    obtain ⟨j', hj', hI'⟩ := q
    exact ih j' (by omega) st' hI' γ' a' W' r b
   | _ => exact ⟨st', γ', q, r, b⟩
 exact key (j + 1) j (by omega) st hI γ a W hs hb

theorem finK_finish (C : Cfg) (m : Nat) (rs : List ResultVar) (s : List (Nat × Value)) (b : Tr Value) (ms : List Nat) (A : AW) : finK C m rs .ret s b ms A = finish C m rs ⟨⟨s, b⟩, ms, A⟩ := by
 unfold finK finish
 cases takeMarks ms A with
 | none => rfl
 | some A' =>
  simp only
  cases resultsE C m ⟨s, b⟩ A' rs <;> rfl

end

end Go.Ev
