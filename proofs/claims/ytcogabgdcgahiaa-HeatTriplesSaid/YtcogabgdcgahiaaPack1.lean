/- What the claim is proved with, part 1: the evaluator and the contracts of the calls. -/
import Derived.Test.YtcogabgdcgahiaaSymBase
import Derived.IntWalk
import Derived.Test.YtcogabgdcgahiaaEvRen
import Derived.Test.YtcogabgdcgahiaaEvOwn
/- Rules for loops. -/
namespace Go.Proofs
open Go Go.Ev

theorem fnsSC (r : Mem) : (SC r).fns = S0.fns := by unfold SC Cfg.sym; rfl
theorem bodySC (r : Mem) (f : Nat) : bodyOf (SC r) f = bodyOf S0 f := by unfold bodyOf; rw [fnsSC]

/-- Into a function whose body has this name. -/
theorem enterN {r : Mem} {t : Tbl} {ms : Tr Nat} {L d f m n : Nat} {args : List Value} {A : AW} {k : KV} {rs : List ResultVar} (c : Code) (hc : c = bodyOf S0 f) (hb : hasBody (SC r) f = true) (hn : ntm (SC r) f = n) (hm : maskFor ms f n = m) (hr : resOf (SC r) f = rs)
    (hl : Nat.ble args.length n = true) (ht : t f = none) :
    (lvlT (SC r) t ms L (d + 1)).call f args A k = run (SC r) m n L c (lvlT (SC r) t ms L d) none (finK (SC r) m rs k) kx242 (finK (SC r) m rs k) (sc0 m args) (tr0 m args) [] A := by
  rw [enter hb hn hm hr hl ht, bodySC, ← hc]

theorem fn_of {C : Cfg} {f : Nat} (h : hasBody C f = true) : ∃ fn, C.fns.get f = some fn ∧ fn.body = some (bodyOf C f) ∧ fn.ntmps = ntm C f ∧ fn.results.toList = resOf C f := by
  unfold hasBody at h
  unfold bodyOf ntm resOf
  split at h
  · rename_i fn hfn
    split at h
    · rename_i c hc
      exact ⟨fn, hfn, by simp only [hfn, hc], by simp only [hfn], by simp only [hfn]⟩
    · cases h
  · cases h

/-- Rows of code, taken together from the left. -/
theorem seqA {C : Cfg} {m n L : Nat} (a b d : Code) : run C m n L (.seq a (.seq b d)) = run C m n L (.seq (.seq a b) d) := rfl

theorem run_while {C : Cfg} {m n L : Nat} {fs : FnsC} {ro : Option Nat} {kn : KS} {kx : Nat → KS} {kr : KS} (a b d : Code) (id : Nat) : run C m n L (.seq a (.seq (.block id (.loop b)) d)) fs ro kn kx kr =
    run C m n L a fs ro (cLoop (fun kl => run C m n L b fs ro kl (fun j => match Nat.beq j id with | true => run C m n L d fs ro kn kx kr | false => kx j) kr) L) kx kr := rfl
theorem run_while0 {C : Cfg} {m n L : Nat} {fs : FnsC} {ro : Option Nat} {kn : KS} {kx : Nat → KS} {kr : KS} (a b : Code) (id : Nat) : run C m n L (.seq a (.block id (.loop b))) fs ro kn kx kr =
    run C m n L a fs ro (cLoop (fun kl => run C m n L b fs ro kl (fun j => match Nat.beq j id with | true => kn | false => kx j) kr) L) kx kr := rfl

theorem run_pre {C : Cfg} {m n L : Nat} (a b d e : Code) : run C m n L (.seq a (.seq (.seq b d) e)) = run C m n L (.seq (.seq a b) (.seq d e)) := rfl

theorem beqD (a b : Int) : (a == b) = decide (a = b) := by by_cases h : a = b <;> simp [h]

theorem dT {p : Prop} [Decidable p] (h : p) : decide p = true := decide_eq_true h
theorem dF {p : Prop} [Decidable p] (h : ¬ p) : decide p = false := decide_eq_false h
theorem eqT {a b : Int} (h : a = b) : (a == b) = true := by simp [h]
theorem eqF {a b : Int} (h : a ≠ b) : (a == b) = false := by simp [h]
theorem neT {a b : Int} (h : a ≠ b) : (a != b) = true := by simp [h]
theorem neF {a b : Int} (h : a = b) : (a != b) = false := by simp [h]
theorem wrI {z : Int} (h : -9223372036854775808 ≤ z ∧ z ≤ 9223372036854775807) : IntKind.wrap .i64 z = z := IntWalk.i64_in z h

/- An entry for one call alone: these arguments, this world; what it answers, and the world behind it. -/
noncomputable def m_at (args args0 : List Value) (A A0 : AW) : Bool := @decide (args = args0 ∧ A = A0) (Classical.propDecidable _)
noncomputable def entAt (args0 : List Value) (A0 : AW) (v : Value) (A1 : AW) : Ent := ⟨fun args A => m_at args args0 A A0, fun _ _ => true, fun _ _ => v, fun _ _ => A1, fun _ _ => v, fun _ _ => A1⟩

theorem at_rfl (args : List Value) (A : AW) : m_at args args A A = true := @decide_eq_true _ (Classical.propDecidable _) ⟨rfl, rfl⟩

theorem entAt_ok {C : Cfg} {f : Nat} {args0 : List Value} {A0 : AW} {v : Value} {A1 : AW}
    (h : ∀ F, Wide F → ∀ k γ W args', WRel γ A0 W → Ro C.ro γ W → VsRel γ args0 (Array.toList args') → CallsIn F k C.P f args' W (Go.Ev.Ends γ W v A1)) : EOk C f (entAt args0 A0 v A1) := fun args A hg F hF k γ W args' hw hR ha => by
  obtain ⟨rfl, rfl⟩ := @of_decide_eq_true _ (Classical.propDecidable _) hg
  exact ⟨fun _ => h F hF k γ W args' hw hR ha, fun _ => h F hF k γ W args' hw hR ha⟩

/-- The same, by a run. -/
theorem entAt_run {C : Cfg} (hC : C.Ok) {t : Tbl} (ht : TOk C t) (tm : Tr Nat) {f : Nat} {args0 : List Value} {A0 : AW} {v : Value} {A1 : AW} (h : ∃ L d, (lvlT C t tm L d).call f args0 A0 .ret = .ret v A1) : EOk C f (entAt args0 A0 v A1) :=
  entAt_ok fun F hF k γ W args' hw hR ha => by
    obtain ⟨L, d, hr⟩ := h
    have h1 := (lvlT_le (C := C) t tm L d).call _ _ _ _ _ _ hr
    cases hc : (lvlU C t tm L d).call f args0 A0 with
    | fail w => rw [hc] at h1; cases h1
    | ret u A' =>
      rw [hc] at h1
      cases h1
      exact (lvlU_ok hC ht tm L d).call γ A0 W f args0 args' v A1 hc hw hR ha F hF k

/- Entries of a table, by the shape of the arguments. -/
def eI2 (g : Int → Int → Bool) (v : Int → Int → Value) : Ent := ent (fun args _ => match args with | [.int .i64 a, .int .i64 b] => g a b | _ => false) (fun args _ => match args with | [.int .i64 a, .int .i64 b] => v a b | _ => undef)
def eI4 (g : Int → Int → Int → Int → Bool) (v : Int → Int → Int → Int → Value) : Ent := ent (fun args _ => match args with | [.int .i64 a, .int .i64 b, .int .i64 c, .int .i64 d] => g a b c d | _ => false) (fun args _ => match args with | [.int .i64 a, .int .i64 b, .int .i64 c, .int .i64 d] => v a b c d | _ => undef)
def eA2 (g : Int → Int → Bool) (v : Int → Int → Value) : Ent := ent (fun args _ => match args with | [.agg ⟨[.int .i64 a, .int .i64 b]⟩] => g a b | _ => false) (fun args _ => match args with | [.agg ⟨[.int .i64 a, .int .i64 b]⟩] => v a b | _ => undef)
def eI1 (g : Int → Bool) (v : Int → Value) : Ent := ent (fun args _ => match args with | [.int .i64 a] => g a | _ => false) (fun args _ => match args with | [.int .i64 a] => v a | _ => undef)
def eA1I (g : Int → Int → Int → Bool) (v : Int → Int → Int → Value) : Ent := ent (fun args _ => match args with | [.agg ⟨[.int .i64 a, .int .i64 b]⟩, .int .i64 c] => g a b c | _ => false) (fun args _ => match args with | [.agg ⟨[.int .i64 a, .int .i64 b]⟩, .int .i64 c] => v a b c | _ => undef)
def eAA (g : Int → Int → Int → Int → Bool) (v : Int → Int → Int → Int → Value) : Ent := ent (fun args _ => match args with | [.agg ⟨[.int .i64 a, .int .i64 b]⟩, .agg ⟨[.int .i64 c, .int .i64 d]⟩] => g a b c d | _ => false) (fun args _ => match args with | [.agg ⟨[.int .i64 a, .int .i64 b]⟩, .agg ⟨[.int .i64 c, .int .i64 d]⟩] => v a b c d | _ => undef)
def e0 (v : Value) : Ent := ent (fun args _ => match args with | [] => true | _ => false) (fun _ _ => v)

theorem eI2_ok {C : Cfg} {f : Nat} {g : Int → Int → Bool} {v : Int → Int → Value} (h : ∀ a b, g a b = true → GrT C.P C.ro f [I a, I b] (v a b)) : EOk C f (eI2 g v) := EOk.ent fun args A hg => by
  split at hg
  · exact (h _ _ hg).ro rfl A
  · cases hg
theorem eI4_ok {C : Cfg} {f : Nat} {g : Int → Int → Int → Int → Bool} {v : Int → Int → Int → Int → Value} (h : ∀ a b c d, g a b c d = true → GrT C.P C.ro f [I a, I b, I c, I d] (v a b c d)) : EOk C f (eI4 g v) := EOk.ent fun args A hg => by
  split at hg
  · exact (h _ _ _ _ hg).ro rfl A
  · cases hg
theorem eA2_ok {C : Cfg} {f : Nat} {g : Int → Int → Bool} {v : Int → Int → Value} (h : ∀ a b, g a b = true → GrT C.P C.ro f [.agg ⟨[I a, I b]⟩] (v a b)) : EOk C f (eA2 g v) := EOk.ent fun args A hg => by
  split at hg
  · exact (h _ _ hg).ro rfl A
  · cases hg
theorem eI1_ok {C : Cfg} {f : Nat} {g : Int → Bool} {v : Int → Value} (h : ∀ a, g a = true → GrT C.P C.ro f [I a] (v a)) : EOk C f (eI1 g v) := EOk.ent fun args A hg => by
  split at hg
  · exact (h _ hg).ro rfl A
  · cases hg
theorem eA1I_ok {C : Cfg} {f : Nat} {g : Int → Int → Int → Bool} {v : Int → Int → Int → Value} (h : ∀ a b c, g a b c = true → GrT C.P C.ro f [.agg ⟨[I a, I b]⟩, I c] (v a b c)) : EOk C f (eA1I g v) := EOk.ent fun args A hg => by
  split at hg
  · exact (h _ _ _ hg).ro rfl A
  · cases hg
theorem eAA_ok {C : Cfg} {f : Nat} {g : Int → Int → Int → Int → Bool} {v : Int → Int → Int → Int → Value} (h : ∀ a b c d, g a b c d = true → GrT C.P C.ro f [.agg ⟨[I a, I b]⟩, .agg ⟨[I c, I d]⟩] (v a b c d)) : EOk C f (eAA g v) := EOk.ent fun args A hg => by
  split at hg
  · exact (h _ _ _ _ hg).ro rfl A
  · cases hg
theorem e0_ok {C : Cfg} {f : Nat} {v : Value} (h : GrT C.P C.ro f [] v) : EOk C f (e0 v) := EOk.ent fun args A hg => by
  split at hg
  · exact h.ro rfl A
  · cases hg

end Go.Proofs

/- Code run by itself to where a value can be read off the state: the state needs no writing out. -/
namespace Go.Proofs
open Go Go.Ev

/-- What is read off a state. -/
def qv (g : List (Nat × Value) → Tr Value → List Nat → AW → Option Value) : KS := fun s b ms A => match g s b ms A with
  | some v => .ret v ⟨0, .nil, .nil⟩
  | none => .fail 0
def qF : KS := fun _ _ _ _ => .fail 0

theorem qv_use {g : List (Nat × Value) → Tr Value → List Nat → AW → Option Value} {s : List (Nat × Value)} {b : Tr Value} {ms : List Nat} {A : AW} {v : Value} (h : qv g s b ms A = .ret v ⟨0, .nil, .nil⟩) : g s b ms A = some v := by
  unfold qv at h
  split at h
  · rename_i u hu
    cases h
    exact hu
  · cases h

section
variable {C : Cfg} {m n : Nat} {F : Fence} {k : Nat} {γ0 : Gam} {W0 : World}

/-- Code that goes on, to what is read off. -/
theorem Reach.segV (hC : C.Ok) {t : Tbl} (ht : TOk C t) {tm : Tr Nat} {L L' d : Nat} (hF : Wide F) (hro : F.round = none) {c : Code} {s : List (Nat × Value)} {b : Tr Value} {ms : List Nat} {A : AW} {Q : Exit → St → Prop}
    (g : List (Nat × Value) → Tr Value → List Nat → AW → Option Value) {v : Value}
    (h : run C m n L c (lvlT C t tm L' d) none (qv g) (fun _ => qF) qF s b ms A = .ret v ⟨0, .nil, .nil⟩) (hQ : ∀ s b ms A, g s b ms A = some v → Q .normal ⟨⟨s, b⟩, ms, A⟩) : Go.Ev.Reach C m n F k γ0 W0 c ⟨⟨s, b⟩, ms, A⟩ Q := by
  intro γ a W hs hb
  have hle := cCode_le (C := C) (m := m) (n := n) (L := L) c (lvlT_le (C := C) t tm L' d) none (qv g) (fun _ => qF) qF s b ms A _ _ h
  have hro' : RoRel γ none F.round := by rw [hro]; exact .none
  refine code_ok hC (lvlU_ok hC ht tm L' d) L c hF k hro' hs hb.ro ?_ ?_
  · cases ho : evCode C (lvlU C t tm L' d) m n none L c ⟨⟨s, b⟩, ms, A⟩ with
    | fail w => rw [ho] at hle; cases hle
    | norm st => rfl
    | exit id st => rfl
    | ret st => rfl
  · cases ho : evCode C (lvlU C t tm L' d) m n none L c ⟨⟨s, b⟩, ms, A⟩ with
    | fail w => trivial
    | norm st =>
      obtain ⟨⟨s', b'⟩, ms', A'⟩ := st
      rw [ho] at hle
      exact fun γ' a' W' hs' he => ⟨_, γ', hQ _ _ _ _ (qv_use hle), hs', ⟨hb.ext.trans he, hb.ro.ext he⟩⟩
    | exit id st => rw [ho] at hle; cases hle
    | ret st => rw [ho] at hle; cases hle
end

end Go.Proofs

/- awake of chapter 9. -/
namespace Go.Proofs
open Go Go.Ev

theorem awake_ok (r : Mem) : GrT Try.prog r 12 [] (.bool true) := GrT.closedRo evMixed evNames r .nil 1000 40 (by kernel_rfl)

end Go.Proofs

/- The law of triples made: small functions, run. -/
namespace Go.Proofs
open Go Go.Ev
set_option linter.unusedVariables false

def m_cmp (a b : Int) : Int := bif decide (a < b) then Int.negSucc 0 else bif decide (a > b) then Int.ofNat 1 else Int.ofNat 0
def m_less (a b : Int) : Bool := decide (a < b)
def eLess : Ent := eI2 (fun _ _ => true) fun a b => .bool (m_less a b)
def eCmp : Ent := eI2 (fun _ _ => true) fun a b => I (m_cmp a b)
def tLs : Tbl := tcons 93 eLess (tcons 78 eCmp fun _ => none)

theorem lsA (r : Mem) (a b : Int) : (lvlT (SC r) (fun _ => none) .nil 8 4).call 93 [I a, I b] emptyA fin =
    bif a != a then bif b != b then bif decide (a < b) then CR.ret (Value.bool true) (AW.mk 0 Tr.nil Tr.nil) else CR.ret (Value.bool false) (AW.mk 0 Tr.nil Tr.nil) else CR.ret (Value.bool true) (AW.mk 0 Tr.nil Tr.nil) else bif decide (a < b) then CR.ret (Value.bool true) (AW.mk 0 Tr.nil Tr.nil) else CR.ret (Value.bool false) (AW.mk 0 Tr.nil Tr.nil) := by kernel_rfl

theorem cmA (r : Mem) (a b : Int) : (lvlT (SC r) (fun _ => none) .nil 8 4).call 78 [I a, I b] emptyA fin =
    bif a != a then bif b != b then CR.ret (Value.int IntKind.i64 (Int.ofNat 0)) (AW.mk 0 Tr.nil Tr.nil) else CR.ret (Value.int IntKind.i64 (Int.negSucc 0)) (AW.mk 0 Tr.nil Tr.nil) else bif b != b then CR.ret (Value.int IntKind.i64 (Int.ofNat 1)) (AW.mk 0 Tr.nil Tr.nil) else bif decide (a < b) then CR.ret (Value.int IntKind.i64 (Int.negSucc 0)) (AW.mk 0 Tr.nil Tr.nil) else bif decide (a > b) then CR.ret (Value.int IntKind.i64 (Int.ofNat 1)) (AW.mk 0 Tr.nil Tr.nil) else CR.ret (Value.int IntKind.i64 (Int.ofNat 0)) (AW.mk 0 Tr.nil Tr.nil) := by kernel_rfl

theorem plA (r : Mem) (a b : Int) : (lvlT (SC r) (fun _ => none) .nil 8 4).call 47 [I a, I b] emptyA fin =
    CR.ret (Value.int IntKind.i64 (IntKind.wrap IntKind.i64 (IntKind.wrap IntKind.i64 (IntKind.wrap IntKind.i64 (Int.ofNat 0 + IntKind.wrap IntKind.i64 (Int.tmod (IntKind.wrap IntKind.i64 (IntKind.wrap IntKind.i64 (Int.tdiv a (Int.ofNat 1)) + IntKind.wrap IntKind.i64 (Int.tdiv b (Int.ofNat 1)))) (Int.ofNat 3) * Int.ofNat 1)) + IntKind.wrap IntKind.i64 (Int.tmod (IntKind.wrap IntKind.i64 (IntKind.wrap IntKind.i64 (Int.tdiv a (Int.ofNat 3)) + IntKind.wrap IntKind.i64 (Int.tdiv b (Int.ofNat 3)))) (Int.ofNat 3) * Int.ofNat 3)) + IntKind.wrap IntKind.i64 (Int.tmod (IntKind.wrap IntKind.i64 (IntKind.wrap IntKind.i64 (Int.tdiv a (Int.ofNat 9)) + IntKind.wrap IntKind.i64 (Int.tdiv b (Int.ofNat 9)))) (Int.ofNat 3) * Int.ofNat 9)))) (AW.mk 0 Tr.nil Tr.nil) := by kernel_rfl

theorem cpA (r : Mem) (a b c d e f : Int) : (lvlT (SC r) tLs .nil 8 8).call 43 [.agg ⟨[I a, I b, I c]⟩, .agg ⟨[I d, I e, I f]⟩] emptyA fin =
    bif m_cmp a d != Int.ofNat 0 then CR.ret (Value.int IntKind.i64 (m_cmp a d)) (AW.mk 0 Tr.nil Tr.nil) else bif m_cmp b e != Int.ofNat 0 then CR.ret (Value.int IntKind.i64 (m_cmp b e)) (AW.mk 0 Tr.nil Tr.nil) else bif m_cmp c f != Int.ofNat 0 then CR.ret (Value.int IntKind.i64 (m_cmp c f)) (AW.mk 0 Tr.nil Tr.nil) else CR.ret (Value.int IntKind.i64 (Int.ofNat 0)) (AW.mk 0 Tr.nil Tr.nil) := by kernel_rfl

theorem thA (r : Mem) (a b c : Int) : (lvlT (SC r) tLs .nil 8 8).call 46 [I a, I b, I c] emptyA fin =
    bif m_less b a then bif m_eqv (Value.int IntKind.i64 a) (Value.int IntKind.i64 a) then bif m_eqv (Value.int IntKind.i64 b) (Value.int IntKind.i64 b) then bif m_eqv (Value.int IntKind.i64 b) (Value.int IntKind.i64 b) then bif m_eqv (Value.int IntKind.i64 a) (Value.int IntKind.i64 a) then bif m_less c a then bif m_eqv (Value.int IntKind.i64 a) (Value.int IntKind.i64 a) then bif m_eqv (Value.int IntKind.i64 c) (Value.int IntKind.i64 c) then bif m_eqv (Value.int IntKind.i64 c) (Value.int IntKind.i64 c) then bif m_eqv (Value.int IntKind.i64 a) (Value.int IntKind.i64 a) then bif m_less c b then bif m_eqv (Value.int IntKind.i64 b) (Value.int IntKind.i64 b) then bif m_eqv (Value.int IntKind.i64 c) (Value.int IntKind.i64 c) then bif m_eqv (Value.int IntKind.i64 c) (Value.int IntKind.i64 c) then bif m_eqv (Value.int IntKind.i64 b) (Value.int IntKind.i64 b) then CR.ret (Value.agg (Array.mk [Value.int IntKind.i64 c, Value.int IntKind.i64 b, Value.int IntKind.i64 a])) (AW.mk 0 Tr.nil Tr.nil) else CR.fail 420 else CR.fail 420 else CR.fail 420 else CR.fail 420 else bif m_eqv (Value.int IntKind.i64 b) (Value.int IntKind.i64 b) then bif m_eqv (Value.int IntKind.i64 c) (Value.int IntKind.i64 c) then CR.ret (Value.agg (Array.mk [Value.int IntKind.i64 b, Value.int IntKind.i64 c, Value.int IntKind.i64 a])) (AW.mk 0 Tr.nil Tr.nil) else CR.fail 420 else CR.fail 420 else CR.fail 420 else CR.fail 420 else CR.fail 420 else CR.fail 420 else bif m_eqv (Value.int IntKind.i64 a) (Value.int IntKind.i64 a) then bif m_eqv (Value.int IntKind.i64 c) (Value.int IntKind.i64 c) then CR.ret (Value.agg (Array.mk [Value.int IntKind.i64 b, Value.int IntKind.i64 a, Value.int IntKind.i64 c])) (AW.mk 0 Tr.nil Tr.nil) else CR.fail 420 else CR.fail 420 else CR.fail 420 else CR.fail 420 else CR.fail 420 else CR.fail 420 else bif m_eqv (Value.int IntKind.i64 a) (Value.int IntKind.i64 a) then bif m_eqv (Value.int IntKind.i64 b) (Value.int IntKind.i64 b) then bif m_less c b then bif m_eqv (Value.int IntKind.i64 b) (Value.int IntKind.i64 b) then bif m_eqv (Value.int IntKind.i64 c) (Value.int IntKind.i64 c) then bif m_eqv (Value.int IntKind.i64 c) (Value.int IntKind.i64 c) then bif m_eqv (Value.int IntKind.i64 b) (Value.int IntKind.i64 b) then bif m_less c a then bif m_eqv (Value.int IntKind.i64 a) (Value.int IntKind.i64 a) then bif m_eqv (Value.int IntKind.i64 c) (Value.int IntKind.i64 c) then bif m_eqv (Value.int IntKind.i64 c) (Value.int IntKind.i64 c) then bif m_eqv (Value.int IntKind.i64 a) (Value.int IntKind.i64 a) then CR.ret (Value.agg (Array.mk [Value.int IntKind.i64 c, Value.int IntKind.i64 a, Value.int IntKind.i64 b])) (AW.mk 0 Tr.nil Tr.nil) else CR.fail 420 else CR.fail 420 else CR.fail 420 else CR.fail 420 else bif m_eqv (Value.int IntKind.i64 a) (Value.int IntKind.i64 a) then bif m_eqv (Value.int IntKind.i64 c) (Value.int IntKind.i64 c) then CR.ret (Value.agg (Array.mk [Value.int IntKind.i64 a, Value.int IntKind.i64 c, Value.int IntKind.i64 b])) (AW.mk 0 Tr.nil Tr.nil) else CR.fail 420 else CR.fail 420 else CR.fail 420 else CR.fail 420 else CR.fail 420 else CR.fail 420 else bif m_eqv (Value.int IntKind.i64 b) (Value.int IntKind.i64 b) then bif m_eqv (Value.int IntKind.i64 c) (Value.int IntKind.i64 c) then CR.ret (Value.agg (Array.mk [Value.int IntKind.i64 a, Value.int IntKind.i64 b, Value.int IntKind.i64 c])) (AW.mk 0 Tr.nil Tr.nil) else CR.fail 420 else CR.fail 420 else CR.fail 420 else CR.fail 420 := by kernel_rfl

theorem mnA (r : Mem) (a b c : Int) : (lvlT (SC r) (fun _ => none) .nil 8 8).call 45 [I a, I b, I c] emptyA fin =
    bif !decide (a = 0) then bif Int.tmod (Int.tmod (IntKind.wrap IntKind.i64 (b + c)) a) (Int.ofNat 2) == Int.ofNat 1 then CR.ret (Value.int IntKind.i64 (IntKind.wrap IntKind.i64 (Int.tdiv (IntKind.wrap IntKind.i64 (Int.tmod (IntKind.wrap IntKind.i64 (b + c)) a + a)) (Int.ofNat 2)))) (AW.mk 0 Tr.nil Tr.nil) else CR.ret (Value.int IntKind.i64 (IntKind.wrap IntKind.i64 (Int.tdiv (Int.tmod (IntKind.wrap IntKind.i64 (b + c)) a) (Int.ofNat 2)))) (AW.mk 0 Tr.nil Tr.nil) else CR.fail 420 := by kernel_rfl

theorem kdA (r : Mem) (a b : Int) : (lvlT (SC r) (fun _ => none) .nil 8 8).call 65 [I a, I b] emptyA fin =
    bif b == Int.ofNat 14 then CR.ret (Value.agg (Array.mk [Value.int IntKind.i64 (IntKind.wrap IntKind.i64 (Int.tdiv a (Int.ofNat 7))), Value.int IntKind.i64 (IntKind.wrap IntKind.i64 (Int.tdiv b (Int.ofNat 7))), Value.int IntKind.i64 (Int.ofNat 0)])) (AW.mk 0 Tr.nil Tr.nil) else bif IntKind.wrap IntKind.i64 (Int.tdiv a (Int.ofNat 7)) == IntKind.wrap IntKind.i64 (Int.tdiv b (Int.ofNat 7)) then CR.ret (Value.agg (Array.mk [Value.int IntKind.i64 (IntKind.wrap IntKind.i64 (Int.tdiv a (Int.ofNat 7))), Value.int IntKind.i64 (IntKind.wrap IntKind.i64 (Int.tdiv b (Int.ofNat 7))), Value.int IntKind.i64 (bif decide (IntKind.wrap IntKind.i64 (Int.ofNat 7 - Int.tmod (IntKind.wrap IntKind.i64 (b - a)) (Int.ofNat 7)) < Int.tmod (IntKind.wrap IntKind.i64 (b - a)) (Int.ofNat 7)) then IntKind.wrap IntKind.i64 (Int.ofNat 7 - Int.tmod (IntKind.wrap IntKind.i64 (b - a)) (Int.ofNat 7)) else Int.tmod (IntKind.wrap IntKind.i64 (b - a)) (Int.ofNat 7))])) (AW.mk 0 Tr.nil Tr.nil) else CR.ret (Value.agg (Array.mk [Value.int IntKind.i64 (IntKind.wrap IntKind.i64 (Int.tdiv a (Int.ofNat 7))), Value.int IntKind.i64 (IntKind.wrap IntKind.i64 (Int.tdiv b (Int.ofNat 7))), Value.int IntKind.i64 (Int.tmod (IntKind.wrap IntKind.i64 (b - a)) (Int.ofNat 7))])) (AW.mk 0 Tr.nil Tr.nil) := by kernel_rfl

end Go.Proofs

/- The law of triples made: what the small functions answer. -/
namespace Go.Proofs
open Go Go.Ev
set_option linter.unusedVariables false

theorem eqv_i (a : Int) : m_eqv (.int .i64 a) (.int .i64 a) = true := by simp [m_eqv, veq]
theorem bne_self (a : Int) : (a != a) = false := by simp
theorem less_ok (r : Mem) : EOk (SC r) 93 eLess := eI2_ok fun a b _ => GrT.of (SC_ok r) (t := fun _ => none) TOk.nil .nil rfl ⟨8, 4, by
  rw [lsA, bne_self, bne_self]
  unfold m_less
  cases decide (a < b) <;> rfl⟩
theorem cmp_ok (r : Mem) : EOk (SC r) 78 eCmp := eI2_ok fun a b _ => GrT.of (SC_ok r) (t := fun _ => none) TOk.nil .nil rfl ⟨8, 4, by
  rw [cmA, bne_self, bne_self]
  unfold m_cmp
  cases decide (a < b) <;> cases decide (a > b) <;> rfl⟩
theorem tLs_ok (r : Mem) : TOk (SC r) tLs := TOk.cons (TOk.cons TOk.nil (cmp_ok r)) (less_ok r)

def m_plus (a b : Int) : Int := IntKind.wrap IntKind.i64 (IntKind.wrap IntKind.i64 (IntKind.wrap IntKind.i64 (Int.ofNat 0 + IntKind.wrap IntKind.i64 (Int.tmod (IntKind.wrap IntKind.i64 (IntKind.wrap IntKind.i64 (Int.tdiv a (Int.ofNat 1)) + IntKind.wrap IntKind.i64 (Int.tdiv b (Int.ofNat 1)))) (Int.ofNat 3) * Int.ofNat 1)) + IntKind.wrap IntKind.i64 (Int.tmod (IntKind.wrap IntKind.i64 (IntKind.wrap IntKind.i64 (Int.tdiv a (Int.ofNat 3)) + IntKind.wrap IntKind.i64 (Int.tdiv b (Int.ofNat 3)))) (Int.ofNat 3) * Int.ofNat 3)) + IntKind.wrap IntKind.i64 (Int.tmod (IntKind.wrap IntKind.i64 (IntKind.wrap IntKind.i64 (Int.tdiv a (Int.ofNat 9)) + IntKind.wrap IntKind.i64 (Int.tdiv b (Int.ofNat 9)))) (Int.ofNat 3) * Int.ofNat 9))
def ePlus : Ent := eI2 (fun _ _ => true) fun a b => I (m_plus a b)
theorem plus_ok (r : Mem) : EOk (SC r) 47 ePlus := eI2_ok fun a b _ => GrT.of (SC_ok r) (t := fun _ => none) TOk.nil .nil rfl ⟨8, 4, by rw [plA]; rfl⟩

def m_mean (a b c : Int) : Int := bif Int.tmod (Int.tmod (IntKind.wrap IntKind.i64 (b + c)) a) (Int.ofNat 2) == Int.ofNat 1 then IntKind.wrap IntKind.i64 (Int.tdiv (IntKind.wrap IntKind.i64 (Int.tmod (IntKind.wrap IntKind.i64 (b + c)) a + a)) (Int.ofNat 2)) else IntKind.wrap IntKind.i64 (Int.tdiv (Int.tmod (IntKind.wrap IntKind.i64 (b + c)) a) (Int.ofNat 2))
def eI3 (g : Int → Int → Int → Bool) (v : Int → Int → Int → Value) : Ent := ent (fun args _ => match args with | [.int .i64 a, .int .i64 b, .int .i64 c] => g a b c | _ => false) (fun args _ => match args with | [.int .i64 a, .int .i64 b, .int .i64 c] => v a b c | _ => undef)
theorem eI3_ok {C : Cfg} {f : Nat} {g : Int → Int → Int → Bool} {v : Int → Int → Int → Value} (h : ∀ a b c, g a b c = true → GrT C.P C.ro f [I a, I b, I c] (v a b c)) : EOk C f (eI3 g v) := EOk.ent fun args A hg => by
  split at hg
  · exact (h _ _ _ hg).ro rfl A
  · cases hg
def eMean : Ent := eI3 (fun a _ _ => !decide (a = 0)) fun a b c => I (m_mean a b c)
theorem mean_ok (r : Mem) : EOk (SC r) 45 eMean := eI3_ok fun a b c h => GrT.of (SC_ok r) (t := fun _ => none) TOk.nil .nil rfl ⟨8, 8, by
  rw [mnA, h, cond_true]
  unfold m_mean
  cases (Int.tmod (Int.tmod (IntKind.wrap IntKind.i64 (b + c)) a) (Int.ofNat 2) == Int.ofNat 1) <;> rfl⟩

def A3 (a b c : Int) : Value := .agg ⟨[I a, I b, I c]⟩
def m_three (a b c : Int) : Value := bif m_less b a then (bif m_less c a then (bif m_less c b then A3 c b a else A3 b c a) else A3 b a c) else (bif m_less c b then (bif m_less c a then A3 c a b else A3 a c b) else A3 a b c)
def eThree : Ent := eI3 (fun _ _ _ => true) m_three
theorem three_ok (r : Mem) : EOk (SC r) 46 eThree := eI3_ok fun a b c _ => GrT.of (SC_ok r) (tLs_ok r) .nil (by unfold m_three; cases m_less b a <;> cases m_less c a <;> cases m_less c b <;> rfl) ⟨8, 8, by
  rw [thA]
  unfold m_three
  simp only [eqv_i, cond_true]
  cases m_less b a <;> cases m_less c a <;> cases m_less c b <;> rfl⟩

def m_compare (a b c d e f : Int) : Int := bif m_cmp a d != Int.ofNat 0 then m_cmp a d else bif m_cmp b e != Int.ofNat 0 then m_cmp b e else bif m_cmp c f != Int.ofNat 0 then m_cmp c f else Int.ofNat 0
def eCompare : Ent := ent (fun args _ => match args with | [.agg ⟨[.int .i64 a, .int .i64 b, .int .i64 c]⟩, .agg ⟨[.int .i64 d, .int .i64 e, .int .i64 f]⟩] => true | _ => false) (fun args _ => match args with | [.agg ⟨[.int .i64 a, .int .i64 b, .int .i64 c]⟩, .agg ⟨[.int .i64 d, .int .i64 e, .int .i64 f]⟩] => I (m_compare a b c d e f) | _ => undef)
theorem compareT (r : Mem) (a b c d e f : Int) : GrT Try.prog r 43 [.agg ⟨[I a, I b, I c]⟩, .agg ⟨[I d, I e, I f]⟩] (I (m_compare a b c d e f)) := GrT.of (SC_ok r) (tLs_ok r) .nil rfl ⟨8, 8, by
  rw [cpA]
  unfold m_compare
  cases (m_cmp a d != Int.ofNat 0) <;> cases (m_cmp b e != Int.ofNat 0) <;> cases (m_cmp c f != Int.ofNat 0) <;> rfl⟩
theorem compare_ok (r : Mem) : EOk (SC r) 43 eCompare := EOk.ent fun args A hg => by
  split at hg
  · exact (compareT r _ _ _ _ _ _).ro rfl A
  · cases hg

noncomputable def tTr : Tbl := tcons 46 eThree (tcons 43 eCompare (tcons 47 ePlus (tcons 45 eMean (tcons 12 (e0 (.bool true)) fun _ => none))))
theorem tTr_ok (r : Mem) : TOk (SC r) tTr := TOk.cons (TOk.cons (TOk.cons (TOk.cons (TOk.cons TOk.nil (e0_ok (awake_ok r))) (mean_ok r)) (plus_ok r)) (compare_ok r)) (three_ok r)

end Go.Proofs

/- The law of triples made: its parts. -/
namespace Go.Proofs
open Go Go.Ev
set_option linter.unusedVariables false

noncomputable def cTr : Code := bodyOf S0 4
noncomputable def oTr : Code := ic (ic (rc (lc (rc cTr))))
noncomputable def xTr : Code := ic (lc (rc oTr))

def TTr0 (n : Int) : Tr Value := .node .nil (some (I n)) (.node .nil (some (.bool false)) .nil)
/-- The temporaries at the head of the loop. -/
def TTr (n i : Int) : Tr Value := .node (.node (.node .nil (some (I i)) .nil) none .nil) (some (I n)) (.node .nil (some (.bool false)) .nil)

/-- What a round leaves: the number, the count, the answer's slot. -/
def gTr : List (Nat × Value) → Tr Value → List Nat → AW → Option Value := fun _ b ms _ => match b.get 0, b.get 3, b.get 2, ms with
  | some x, some y, some z, [] => some (.tuple ⟨[x, y, z]⟩)
  | _, _, _, _ => none

/-- The concrete evaluator. -/
noncomputable abbrev CC (r : Mem) : Cfg := Cfg.ofRo Try.prog r
theorem CC_ok (r : Mem) : (CC r).Ok := Cfg.ofRo_ok evMixed evNames r
theorem tTrC_ok (r : Mem) : TOk (CC r) tTr := tTr_ok r

theorem trA (r : Mem) (L : Nat) (fs : FnsC) (n : Int) (kn : KS) (kx : Nat → KS) (kr : KS) : run (SC r) 253 100 L (lc cTr) fs none kn kx kr (sc0 253 [I n]) (tr0 253 [I n]) [] emptyA =
    kn [] (Tr.node Tr.nil (some (Value.int IntKind.i64 n)) (Tr.node Tr.nil (some (Value.bool false)) Tr.nil)) [] (AW.mk 0 Tr.nil Tr.nil) := by kernel_rfl

end Go.Proofs

/- The first day: the triples that are searched; masks. -/
namespace Go.Proofs
open Go Go.Ev
set_option linter.unusedVariables false
set_option maxRecDepth 100000

def mskH : Tr Nat := (.node (.node (.node (.node (.node (.node (.node .nil (some 5) .nil) (some 63) .nil) (some 243) (.node (.node .nil (some 524047) .nil) (some 115) .nil)) (some 5) (.node (.node (.node .nil (some 36028797018996495) .nil) (some 3827) .nil) (some 243) (.node (.node .nil (some 199) .nil) (some 1879097727) .nil))) (some 253) (.node (.node (.node (.node .nil (some 7) .nil) (some 207) .nil) (some 29) (.node (.node .nil (some 5) .nil) (some 1971) .nil)) (some 243) (.node (.node (.node .nil (some 15391) .nil) (some 31) .nil) (some 13) (.node (.node .nil (some 199) .nil) (some 19) .nil)))) none (.node (.node (.node (.node .nil (some 27) .nil) (some 5) (.node (.node .nil (some 3103) .nil) (some 19) .nil)) (some 1021) (.node (.node (.node .nil (some 7951) .nil) (some 234884973) .nil) (some 19) (.node (.node .nil (some 1991) .nil) (some 3678067) .nil))) (some 13) (.node (.node (.node (.node .nil (some 7951) .nil) none .nil) (some 31) (.node (.node .nil (some 4159) .nil) (some 443) .nil)) (some 13) (.node (.node (.node .nil (some 5) .nil) (some 199) .nil) (some 61) (.node .nil (some 5) .nil))))) none (.node (.node (.node (.node (.node (.node .nil (some 3911) .nil) (some 1011) .nil) (some 2035) (.node (.node .nil (some 231259) .nil) (some 8135) .nil)) (some 115) (.node (.node (.node .nil (some 775) .nil) (some 57427) .nil) (some 19) (.node (.node .nil (some 1991) .nil) (some 27) .nil))) (some 253) (.node (.node (.node (.node .nil (some 783) .nil) (some 51) .nil) none (.node (.node .nil (some 271) .nil) (some 7516196525) .nil)) (some 1919) (.node (.node (.node .nil (some 5) .nil) (some 39) .nil) (some 864691265894114301) (.node (.node .nil (some 1991) .nil) (some 2096159) .nil)))) none (.node (.node (.node (.node (.node .nil (some 7887) .nil) none .nil) none (.node (.node .nil (some 5) .nil) (some 509) .nil)) (some 2035) (.node (.node (.node .nil (some 7199) .nil) (some 19) .nil) (some 5) (.node (.node .nil (some 562949953429447) .nil) (some 19) .nil))) (some 61) (.node (.node (.node (.node .nil (some 7943) .nil) (some 1903) .nil) (some 4083) (.node (.node .nil (some 5) .nil) (some 229423) .nil)) (some 141) (.node (.node (.node .nil (some 115) .nil) none .nil) (some 14781) (.node .nil (some 4083) .nil))))))

def allL : List Value := [.int .i64 (.ofNat 0), .int .i64 (.ofNat 1), .int .i64 (.ofNat 2), .int .i64 (.ofNat 0), .int .i64 (.ofNat 1), .int .i64 (.ofNat 3), .int .i64 (.ofNat 0), .int .i64 (.ofNat 1), .int .i64 (.ofNat 4), .int .i64 (.ofNat 0), .int .i64 (.ofNat 1), .int .i64 (.ofNat 5), .int .i64 (.ofNat 0), .int .i64 (.ofNat 1), .int .i64 (.ofNat 6), .int .i64 (.ofNat 0), .int .i64 (.ofNat 1), .int .i64 (.ofNat 7), .int .i64 (.ofNat 0), .int .i64 (.ofNat 1), .int .i64 (.ofNat 8), .int .i64 (.ofNat 0), .int .i64 (.ofNat 1), .int .i64 (.ofNat 9), .int .i64 (.ofNat 0), .int .i64 (.ofNat 1), .int .i64 (.ofNat 10), .int .i64 (.ofNat 0), .int .i64 (.ofNat 1), .int .i64 (.ofNat 11), .int .i64 (.ofNat 0), .int .i64 (.ofNat 1), .int .i64 (.ofNat 12), .int .i64 (.ofNat 0), .int .i64 (.ofNat 1), .int .i64 (.ofNat 13), .int .i64 (.ofNat 0), .int .i64 (.ofNat 1), .int .i64 (.ofNat 14), .int .i64 (.ofNat 0), .int .i64 (.ofNat 2), .int .i64 (.ofNat 3), .int .i64 (.ofNat 0), .int .i64 (.ofNat 2), .int .i64 (.ofNat 4), .int .i64 (.ofNat 0), .int .i64 (.ofNat 2), .int .i64 (.ofNat 5), .int .i64 (.ofNat 0), .int .i64 (.ofNat 2), .int .i64 (.ofNat 6), .int .i64 (.ofNat 0), .int .i64 (.ofNat 2), .int .i64 (.ofNat 7), .int .i64 (.ofNat 0), .int .i64 (.ofNat 2), .int .i64 (.ofNat 8), .int .i64 (.ofNat 0), .int .i64 (.ofNat 2), .int .i64 (.ofNat 9), .int .i64 (.ofNat 0), .int .i64 (.ofNat 2), .int .i64 (.ofNat 10), .int .i64 (.ofNat 0), .int .i64 (.ofNat 2), .int .i64 (.ofNat 11), .int .i64 (.ofNat 0), .int .i64 (.ofNat 2), .int .i64 (.ofNat 12), .int .i64 (.ofNat 0), .int .i64 (.ofNat 2), .int .i64 (.ofNat 13), .int .i64 (.ofNat 0), .int .i64 (.ofNat 2), .int .i64 (.ofNat 14), .int .i64 (.ofNat 0), .int .i64 (.ofNat 3), .int .i64 (.ofNat 4), .int .i64 (.ofNat 0), .int .i64 (.ofNat 3), .int .i64 (.ofNat 5), .int .i64 (.ofNat 0), .int .i64 (.ofNat 3), .int .i64 (.ofNat 6), .int .i64 (.ofNat 0), .int .i64 (.ofNat 3), .int .i64 (.ofNat 7), .int .i64 (.ofNat 0), .int .i64 (.ofNat 3), .int .i64 (.ofNat 8), .int .i64 (.ofNat 0), .int .i64 (.ofNat 3), .int .i64 (.ofNat 9), .int .i64 (.ofNat 0), .int .i64 (.ofNat 3), .int .i64 (.ofNat 10), .int .i64 (.ofNat 0), .int .i64 (.ofNat 3), .int .i64 (.ofNat 11), .int .i64 (.ofNat 0), .int .i64 (.ofNat 3), .int .i64 (.ofNat 12), .int .i64 (.ofNat 0), .int .i64 (.ofNat 3), .int .i64 (.ofNat 13), .int .i64 (.ofNat 0), .int .i64 (.ofNat 3), .int .i64 (.ofNat 14), .int .i64 (.ofNat 0), .int .i64 (.ofNat 4), .int .i64 (.ofNat 5), .int .i64 (.ofNat 0), .int .i64 (.ofNat 4), .int .i64 (.ofNat 6), .int .i64 (.ofNat 0), .int .i64 (.ofNat 4), .int .i64 (.ofNat 7), .int .i64 (.ofNat 0), .int .i64 (.ofNat 4), .int .i64 (.ofNat 8), .int .i64 (.ofNat 0), .int .i64 (.ofNat 4), .int .i64 (.ofNat 9), .int .i64 (.ofNat 0), .int .i64 (.ofNat 4), .int .i64 (.ofNat 10), .int .i64 (.ofNat 0), .int .i64 (.ofNat 4), .int .i64 (.ofNat 11), .int .i64 (.ofNat 0), .int .i64 (.ofNat 4), .int .i64 (.ofNat 12), .int .i64 (.ofNat 0), .int .i64 (.ofNat 4), .int .i64 (.ofNat 13), .int .i64 (.ofNat 0), .int .i64 (.ofNat 4), .int .i64 (.ofNat 14), .int .i64 (.ofNat 0), .int .i64 (.ofNat 5), .int .i64 (.ofNat 6), .int .i64 (.ofNat 0), .int .i64 (.ofNat 5), .int .i64 (.ofNat 7), .int .i64 (.ofNat 0), .int .i64 (.ofNat 5), .int .i64 (.ofNat 8), .int .i64 (.ofNat 0), .int .i64 (.ofNat 5), .int .i64 (.ofNat 9), .int .i64 (.ofNat 0), .int .i64 (.ofNat 5), .int .i64 (.ofNat 10), .int .i64 (.ofNat 0), .int .i64 (.ofNat 5), .int .i64 (.ofNat 11), .int .i64 (.ofNat 0), .int .i64 (.ofNat 5), .int .i64 (.ofNat 12), .int .i64 (.ofNat 0), .int .i64 (.ofNat 5), .int .i64 (.ofNat 13), .int .i64 (.ofNat 0), .int .i64 (.ofNat 5), .int .i64 (.ofNat 14), .int .i64 (.ofNat 0), .int .i64 (.ofNat 6), .int .i64 (.ofNat 7), .int .i64 (.ofNat 0), .int .i64 (.ofNat 6), .int .i64 (.ofNat 8), .int .i64 (.ofNat 0), .int .i64 (.ofNat 6), .int .i64 (.ofNat 9), .int .i64 (.ofNat 0), .int .i64 (.ofNat 6), .int .i64 (.ofNat 10), .int .i64 (.ofNat 0), .int .i64 (.ofNat 6), .int .i64 (.ofNat 11), .int .i64 (.ofNat 0), .int .i64 (.ofNat 6), .int .i64 (.ofNat 12), .int .i64 (.ofNat 0), .int .i64 (.ofNat 6), .int .i64 (.ofNat 13), .int .i64 (.ofNat 0), .int .i64 (.ofNat 6), .int .i64 (.ofNat 14), .int .i64 (.ofNat 0), .int .i64 (.ofNat 7), .int .i64 (.ofNat 8), .int .i64 (.ofNat 0), .int .i64 (.ofNat 7), .int .i64 (.ofNat 9), .int .i64 (.ofNat 0), .int .i64 (.ofNat 7), .int .i64 (.ofNat 10), .int .i64 (.ofNat 0), .int .i64 (.ofNat 7), .int .i64 (.ofNat 11), .int .i64 (.ofNat 0), .int .i64 (.ofNat 7), .int .i64 (.ofNat 12), .int .i64 (.ofNat 0), .int .i64 (.ofNat 7), .int .i64 (.ofNat 13), .int .i64 (.ofNat 0), .int .i64 (.ofNat 7), .int .i64 (.ofNat 14), .int .i64 (.ofNat 0), .int .i64 (.ofNat 8), .int .i64 (.ofNat 9), .int .i64 (.ofNat 0), .int .i64 (.ofNat 8), .int .i64 (.ofNat 10), .int .i64 (.ofNat 0), .int .i64 (.ofNat 8), .int .i64 (.ofNat 11), .int .i64 (.ofNat 0), .int .i64 (.ofNat 8), .int .i64 (.ofNat 12), .int .i64 (.ofNat 0), .int .i64 (.ofNat 8), .int .i64 (.ofNat 13), .int .i64 (.ofNat 0), .int .i64 (.ofNat 8), .int .i64 (.ofNat 14), .int .i64 (.ofNat 0), .int .i64 (.ofNat 9), .int .i64 (.ofNat 10), .int .i64 (.ofNat 0), .int .i64 (.ofNat 9), .int .i64 (.ofNat 11), .int .i64 (.ofNat 0), .int .i64 (.ofNat 9), .int .i64 (.ofNat 12), .int .i64 (.ofNat 0), .int .i64 (.ofNat 9), .int .i64 (.ofNat 13), .int .i64 (.ofNat 0), .int .i64 (.ofNat 9), .int .i64 (.ofNat 14), .int .i64 (.ofNat 0), .int .i64 (.ofNat 10), .int .i64 (.ofNat 11), .int .i64 (.ofNat 0), .int .i64 (.ofNat 10), .int .i64 (.ofNat 12), .int .i64 (.ofNat 0), .int .i64 (.ofNat 10), .int .i64 (.ofNat 13), .int .i64 (.ofNat 0), .int .i64 (.ofNat 10), .int .i64 (.ofNat 14), .int .i64 (.ofNat 0), .int .i64 (.ofNat 11), .int .i64 (.ofNat 12), .int .i64 (.ofNat 0), .int .i64 (.ofNat 11), .int .i64 (.ofNat 13), .int .i64 (.ofNat 0), .int .i64 (.ofNat 11), .int .i64 (.ofNat 14), .int .i64 (.ofNat 0), .int .i64 (.ofNat 12), .int .i64 (.ofNat 13), .int .i64 (.ofNat 0), .int .i64 (.ofNat 12), .int .i64 (.ofNat 14), .int .i64 (.ofNat 0), .int .i64 (.ofNat 13), .int .i64 (.ofNat 14), .int .i64 (.ofNat 1), .int .i64 (.ofNat 2), .int .i64 (.ofNat 3), .int .i64 (.ofNat 1), .int .i64 (.ofNat 2), .int .i64 (.ofNat 4), .int .i64 (.ofNat 1), .int .i64 (.ofNat 2), .int .i64 (.ofNat 5), .int .i64 (.ofNat 1), .int .i64 (.ofNat 2), .int .i64 (.ofNat 6), .int .i64 (.ofNat 1), .int .i64 (.ofNat 2), .int .i64 (.ofNat 7), .int .i64 (.ofNat 1), .int .i64 (.ofNat 2), .int .i64 (.ofNat 8), .int .i64 (.ofNat 1), .int .i64 (.ofNat 2), .int .i64 (.ofNat 9), .int .i64 (.ofNat 1), .int .i64 (.ofNat 2), .int .i64 (.ofNat 10), .int .i64 (.ofNat 1), .int .i64 (.ofNat 2), .int .i64 (.ofNat 11), .int .i64 (.ofNat 1), .int .i64 (.ofNat 2), .int .i64 (.ofNat 12), .int .i64 (.ofNat 1), .int .i64 (.ofNat 2), .int .i64 (.ofNat 13), .int .i64 (.ofNat 1), .int .i64 (.ofNat 2), .int .i64 (.ofNat 14), .int .i64 (.ofNat 1), .int .i64 (.ofNat 3), .int .i64 (.ofNat 4), .int .i64 (.ofNat 1), .int .i64 (.ofNat 3), .int .i64 (.ofNat 5), .int .i64 (.ofNat 1), .int .i64 (.ofNat 3), .int .i64 (.ofNat 6), .int .i64 (.ofNat 1), .int .i64 (.ofNat 3), .int .i64 (.ofNat 7), .int .i64 (.ofNat 1), .int .i64 (.ofNat 3), .int .i64 (.ofNat 8), .int .i64 (.ofNat 1), .int .i64 (.ofNat 3), .int .i64 (.ofNat 9), .int .i64 (.ofNat 1), .int .i64 (.ofNat 3), .int .i64 (.ofNat 10), .int .i64 (.ofNat 1), .int .i64 (.ofNat 3), .int .i64 (.ofNat 11), .int .i64 (.ofNat 1), .int .i64 (.ofNat 3), .int .i64 (.ofNat 12), .int .i64 (.ofNat 1), .int .i64 (.ofNat 3), .int .i64 (.ofNat 13), .int .i64 (.ofNat 1), .int .i64 (.ofNat 3), .int .i64 (.ofNat 14), .int .i64 (.ofNat 1), .int .i64 (.ofNat 4), .int .i64 (.ofNat 5), .int .i64 (.ofNat 1), .int .i64 (.ofNat 4), .int .i64 (.ofNat 6), .int .i64 (.ofNat 1), .int .i64 (.ofNat 4), .int .i64 (.ofNat 7), .int .i64 (.ofNat 1), .int .i64 (.ofNat 4), .int .i64 (.ofNat 8), .int .i64 (.ofNat 1), .int .i64 (.ofNat 4), .int .i64 (.ofNat 9), .int .i64 (.ofNat 1), .int .i64 (.ofNat 4), .int .i64 (.ofNat 10), .int .i64 (.ofNat 1), .int .i64 (.ofNat 4), .int .i64 (.ofNat 11), .int .i64 (.ofNat 1), .int .i64 (.ofNat 4), .int .i64 (.ofNat 12), .int .i64 (.ofNat 1), .int .i64 (.ofNat 4), .int .i64 (.ofNat 13), .int .i64 (.ofNat 1), .int .i64 (.ofNat 4), .int .i64 (.ofNat 14), .int .i64 (.ofNat 1), .int .i64 (.ofNat 5), .int .i64 (.ofNat 6), .int .i64 (.ofNat 1), .int .i64 (.ofNat 5), .int .i64 (.ofNat 7), .int .i64 (.ofNat 1), .int .i64 (.ofNat 5), .int .i64 (.ofNat 8), .int .i64 (.ofNat 1), .int .i64 (.ofNat 5), .int .i64 (.ofNat 9), .int .i64 (.ofNat 1), .int .i64 (.ofNat 5), .int .i64 (.ofNat 10), .int .i64 (.ofNat 1), .int .i64 (.ofNat 5), .int .i64 (.ofNat 11), .int .i64 (.ofNat 1), .int .i64 (.ofNat 5), .int .i64 (.ofNat 12), .int .i64 (.ofNat 1), .int .i64 (.ofNat 5), .int .i64 (.ofNat 13), .int .i64 (.ofNat 1), .int .i64 (.ofNat 5), .int .i64 (.ofNat 14), .int .i64 (.ofNat 1), .int .i64 (.ofNat 6), .int .i64 (.ofNat 7), .int .i64 (.ofNat 1), .int .i64 (.ofNat 6), .int .i64 (.ofNat 8), .int .i64 (.ofNat 1), .int .i64 (.ofNat 6), .int .i64 (.ofNat 9), .int .i64 (.ofNat 1), .int .i64 (.ofNat 6), .int .i64 (.ofNat 10), .int .i64 (.ofNat 1), .int .i64 (.ofNat 6), .int .i64 (.ofNat 11), .int .i64 (.ofNat 1), .int .i64 (.ofNat 6), .int .i64 (.ofNat 12), .int .i64 (.ofNat 1), .int .i64 (.ofNat 6), .int .i64 (.ofNat 13), .int .i64 (.ofNat 1), .int .i64 (.ofNat 6), .int .i64 (.ofNat 14), .int .i64 (.ofNat 1), .int .i64 (.ofNat 7), .int .i64 (.ofNat 8), .int .i64 (.ofNat 1), .int .i64 (.ofNat 7), .int .i64 (.ofNat 9), .int .i64 (.ofNat 1), .int .i64 (.ofNat 7), .int .i64 (.ofNat 10), .int .i64 (.ofNat 1), .int .i64 (.ofNat 7), .int .i64 (.ofNat 11), .int .i64 (.ofNat 1), .int .i64 (.ofNat 7), .int .i64 (.ofNat 12), .int .i64 (.ofNat 1), .int .i64 (.ofNat 7), .int .i64 (.ofNat 13), .int .i64 (.ofNat 1), .int .i64 (.ofNat 7), .int .i64 (.ofNat 14), .int .i64 (.ofNat 1), .int .i64 (.ofNat 8), .int .i64 (.ofNat 9), .int .i64 (.ofNat 1), .int .i64 (.ofNat 8), .int .i64 (.ofNat 10), .int .i64 (.ofNat 1), .int .i64 (.ofNat 8), .int .i64 (.ofNat 11), .int .i64 (.ofNat 1), .int .i64 (.ofNat 8), .int .i64 (.ofNat 12), .int .i64 (.ofNat 1), .int .i64 (.ofNat 8), .int .i64 (.ofNat 13), .int .i64 (.ofNat 1), .int .i64 (.ofNat 8), .int .i64 (.ofNat 14), .int .i64 (.ofNat 1), .int .i64 (.ofNat 9), .int .i64 (.ofNat 10), .int .i64 (.ofNat 1), .int .i64 (.ofNat 9), .int .i64 (.ofNat 11), .int .i64 (.ofNat 1), .int .i64 (.ofNat 9), .int .i64 (.ofNat 12), .int .i64 (.ofNat 1), .int .i64 (.ofNat 9), .int .i64 (.ofNat 13), .int .i64 (.ofNat 1), .int .i64 (.ofNat 9), .int .i64 (.ofNat 14), .int .i64 (.ofNat 1), .int .i64 (.ofNat 10), .int .i64 (.ofNat 11), .int .i64 (.ofNat 1), .int .i64 (.ofNat 10), .int .i64 (.ofNat 12), .int .i64 (.ofNat 1), .int .i64 (.ofNat 10), .int .i64 (.ofNat 13), .int .i64 (.ofNat 1), .int .i64 (.ofNat 10), .int .i64 (.ofNat 14), .int .i64 (.ofNat 1), .int .i64 (.ofNat 11), .int .i64 (.ofNat 12), .int .i64 (.ofNat 1), .int .i64 (.ofNat 11), .int .i64 (.ofNat 13), .int .i64 (.ofNat 1), .int .i64 (.ofNat 11), .int .i64 (.ofNat 14), .int .i64 (.ofNat 1), .int .i64 (.ofNat 12), .int .i64 (.ofNat 13), .int .i64 (.ofNat 1), .int .i64 (.ofNat 12), .int .i64 (.ofNat 14), .int .i64 (.ofNat 1), .int .i64 (.ofNat 13), .int .i64 (.ofNat 14), .int .i64 (.ofNat 2), .int .i64 (.ofNat 3), .int .i64 (.ofNat 4), .int .i64 (.ofNat 2), .int .i64 (.ofNat 3), .int .i64 (.ofNat 5), .int .i64 (.ofNat 2), .int .i64 (.ofNat 3), .int .i64 (.ofNat 6), .int .i64 (.ofNat 2), .int .i64 (.ofNat 3), .int .i64 (.ofNat 7), .int .i64 (.ofNat 2), .int .i64 (.ofNat 3), .int .i64 (.ofNat 8), .int .i64 (.ofNat 2), .int .i64 (.ofNat 3), .int .i64 (.ofNat 9), .int .i64 (.ofNat 2), .int .i64 (.ofNat 3), .int .i64 (.ofNat 10), .int .i64 (.ofNat 2), .int .i64 (.ofNat 3), .int .i64 (.ofNat 11), .int .i64 (.ofNat 2), .int .i64 (.ofNat 3), .int .i64 (.ofNat 12), .int .i64 (.ofNat 2), .int .i64 (.ofNat 3), .int .i64 (.ofNat 13), .int .i64 (.ofNat 2), .int .i64 (.ofNat 3), .int .i64 (.ofNat 14), .int .i64 (.ofNat 2), .int .i64 (.ofNat 4), .int .i64 (.ofNat 5), .int .i64 (.ofNat 2), .int .i64 (.ofNat 4), .int .i64 (.ofNat 6), .int .i64 (.ofNat 2), .int .i64 (.ofNat 4), .int .i64 (.ofNat 7), .int .i64 (.ofNat 2), .int .i64 (.ofNat 4), .int .i64 (.ofNat 8), .int .i64 (.ofNat 2), .int .i64 (.ofNat 4), .int .i64 (.ofNat 9), .int .i64 (.ofNat 2), .int .i64 (.ofNat 4), .int .i64 (.ofNat 10), .int .i64 (.ofNat 2), .int .i64 (.ofNat 4), .int .i64 (.ofNat 11), .int .i64 (.ofNat 2), .int .i64 (.ofNat 4), .int .i64 (.ofNat 12), .int .i64 (.ofNat 2), .int .i64 (.ofNat 4), .int .i64 (.ofNat 13), .int .i64 (.ofNat 2), .int .i64 (.ofNat 4), .int .i64 (.ofNat 14), .int .i64 (.ofNat 2), .int .i64 (.ofNat 5), .int .i64 (.ofNat 6), .int .i64 (.ofNat 2), .int .i64 (.ofNat 5), .int .i64 (.ofNat 7), .int .i64 (.ofNat 2), .int .i64 (.ofNat 5), .int .i64 (.ofNat 8), .int .i64 (.ofNat 2), .int .i64 (.ofNat 5), .int .i64 (.ofNat 9), .int .i64 (.ofNat 2), .int .i64 (.ofNat 5), .int .i64 (.ofNat 10), .int .i64 (.ofNat 2), .int .i64 (.ofNat 5), .int .i64 (.ofNat 11), .int .i64 (.ofNat 2), .int .i64 (.ofNat 5), .int .i64 (.ofNat 12), .int .i64 (.ofNat 2), .int .i64 (.ofNat 5), .int .i64 (.ofNat 13), .int .i64 (.ofNat 2), .int .i64 (.ofNat 5), .int .i64 (.ofNat 14), .int .i64 (.ofNat 2), .int .i64 (.ofNat 6), .int .i64 (.ofNat 7), .int .i64 (.ofNat 2), .int .i64 (.ofNat 6), .int .i64 (.ofNat 8), .int .i64 (.ofNat 2), .int .i64 (.ofNat 6), .int .i64 (.ofNat 9), .int .i64 (.ofNat 2), .int .i64 (.ofNat 6), .int .i64 (.ofNat 10), .int .i64 (.ofNat 2), .int .i64 (.ofNat 6), .int .i64 (.ofNat 11), .int .i64 (.ofNat 2), .int .i64 (.ofNat 6), .int .i64 (.ofNat 12), .int .i64 (.ofNat 2), .int .i64 (.ofNat 6), .int .i64 (.ofNat 13), .int .i64 (.ofNat 2), .int .i64 (.ofNat 6), .int .i64 (.ofNat 14), .int .i64 (.ofNat 2), .int .i64 (.ofNat 7), .int .i64 (.ofNat 8), .int .i64 (.ofNat 2), .int .i64 (.ofNat 7), .int .i64 (.ofNat 9), .int .i64 (.ofNat 2), .int .i64 (.ofNat 7), .int .i64 (.ofNat 10), .int .i64 (.ofNat 2), .int .i64 (.ofNat 7), .int .i64 (.ofNat 11), .int .i64 (.ofNat 2), .int .i64 (.ofNat 7), .int .i64 (.ofNat 12), .int .i64 (.ofNat 2), .int .i64 (.ofNat 7), .int .i64 (.ofNat 13), .int .i64 (.ofNat 2), .int .i64 (.ofNat 7), .int .i64 (.ofNat 14), .int .i64 (.ofNat 2), .int .i64 (.ofNat 8), .int .i64 (.ofNat 9), .int .i64 (.ofNat 2), .int .i64 (.ofNat 8), .int .i64 (.ofNat 10), .int .i64 (.ofNat 2), .int .i64 (.ofNat 8), .int .i64 (.ofNat 11), .int .i64 (.ofNat 2), .int .i64 (.ofNat 8), .int .i64 (.ofNat 12), .int .i64 (.ofNat 2), .int .i64 (.ofNat 8), .int .i64 (.ofNat 13), .int .i64 (.ofNat 2), .int .i64 (.ofNat 8), .int .i64 (.ofNat 14), .int .i64 (.ofNat 2), .int .i64 (.ofNat 9), .int .i64 (.ofNat 10), .int .i64 (.ofNat 2), .int .i64 (.ofNat 9), .int .i64 (.ofNat 11), .int .i64 (.ofNat 2), .int .i64 (.ofNat 9), .int .i64 (.ofNat 12), .int .i64 (.ofNat 2), .int .i64 (.ofNat 9), .int .i64 (.ofNat 13), .int .i64 (.ofNat 2), .int .i64 (.ofNat 9), .int .i64 (.ofNat 14), .int .i64 (.ofNat 2), .int .i64 (.ofNat 10), .int .i64 (.ofNat 11), .int .i64 (.ofNat 2), .int .i64 (.ofNat 10), .int .i64 (.ofNat 12), .int .i64 (.ofNat 2), .int .i64 (.ofNat 10), .int .i64 (.ofNat 13), .int .i64 (.ofNat 2), .int .i64 (.ofNat 10), .int .i64 (.ofNat 14), .int .i64 (.ofNat 2), .int .i64 (.ofNat 11), .int .i64 (.ofNat 12), .int .i64 (.ofNat 2), .int .i64 (.ofNat 11), .int .i64 (.ofNat 13), .int .i64 (.ofNat 2), .int .i64 (.ofNat 11), .int .i64 (.ofNat 14), .int .i64 (.ofNat 2), .int .i64 (.ofNat 12), .int .i64 (.ofNat 13), .int .i64 (.ofNat 2), .int .i64 (.ofNat 12), .int .i64 (.ofNat 14), .int .i64 (.ofNat 2), .int .i64 (.ofNat 13), .int .i64 (.ofNat 14), .int .i64 (.ofNat 3), .int .i64 (.ofNat 4), .int .i64 (.ofNat 5), .int .i64 (.ofNat 3), .int .i64 (.ofNat 4), .int .i64 (.ofNat 6), .int .i64 (.ofNat 3), .int .i64 (.ofNat 4), .int .i64 (.ofNat 7), .int .i64 (.ofNat 3), .int .i64 (.ofNat 4), .int .i64 (.ofNat 8), .int .i64 (.ofNat 3), .int .i64 (.ofNat 4), .int .i64 (.ofNat 9), .int .i64 (.ofNat 3), .int .i64 (.ofNat 4), .int .i64 (.ofNat 10), .int .i64 (.ofNat 3), .int .i64 (.ofNat 4), .int .i64 (.ofNat 11), .int .i64 (.ofNat 3), .int .i64 (.ofNat 4), .int .i64 (.ofNat 12), .int .i64 (.ofNat 3), .int .i64 (.ofNat 4), .int .i64 (.ofNat 13), .int .i64 (.ofNat 3), .int .i64 (.ofNat 4), .int .i64 (.ofNat 14), .int .i64 (.ofNat 3), .int .i64 (.ofNat 5), .int .i64 (.ofNat 6), .int .i64 (.ofNat 3), .int .i64 (.ofNat 5), .int .i64 (.ofNat 7), .int .i64 (.ofNat 3), .int .i64 (.ofNat 5), .int .i64 (.ofNat 8), .int .i64 (.ofNat 3), .int .i64 (.ofNat 5), .int .i64 (.ofNat 9), .int .i64 (.ofNat 3), .int .i64 (.ofNat 5), .int .i64 (.ofNat 10), .int .i64 (.ofNat 3), .int .i64 (.ofNat 5), .int .i64 (.ofNat 11), .int .i64 (.ofNat 3), .int .i64 (.ofNat 5), .int .i64 (.ofNat 12), .int .i64 (.ofNat 3), .int .i64 (.ofNat 5), .int .i64 (.ofNat 13), .int .i64 (.ofNat 3), .int .i64 (.ofNat 5), .int .i64 (.ofNat 14), .int .i64 (.ofNat 3), .int .i64 (.ofNat 6), .int .i64 (.ofNat 7), .int .i64 (.ofNat 3), .int .i64 (.ofNat 6), .int .i64 (.ofNat 8), .int .i64 (.ofNat 3), .int .i64 (.ofNat 6), .int .i64 (.ofNat 9), .int .i64 (.ofNat 3), .int .i64 (.ofNat 6), .int .i64 (.ofNat 10), .int .i64 (.ofNat 3), .int .i64 (.ofNat 6), .int .i64 (.ofNat 11), .int .i64 (.ofNat 3), .int .i64 (.ofNat 6), .int .i64 (.ofNat 12), .int .i64 (.ofNat 3), .int .i64 (.ofNat 6), .int .i64 (.ofNat 13), .int .i64 (.ofNat 3), .int .i64 (.ofNat 6), .int .i64 (.ofNat 14), .int .i64 (.ofNat 3), .int .i64 (.ofNat 7), .int .i64 (.ofNat 8), .int .i64 (.ofNat 3), .int .i64 (.ofNat 7), .int .i64 (.ofNat 9), .int .i64 (.ofNat 3), .int .i64 (.ofNat 7), .int .i64 (.ofNat 10), .int .i64 (.ofNat 3), .int .i64 (.ofNat 7), .int .i64 (.ofNat 11), .int .i64 (.ofNat 3), .int .i64 (.ofNat 7), .int .i64 (.ofNat 12), .int .i64 (.ofNat 3), .int .i64 (.ofNat 7), .int .i64 (.ofNat 13), .int .i64 (.ofNat 3), .int .i64 (.ofNat 7), .int .i64 (.ofNat 14), .int .i64 (.ofNat 3), .int .i64 (.ofNat 8), .int .i64 (.ofNat 9), .int .i64 (.ofNat 3), .int .i64 (.ofNat 8), .int .i64 (.ofNat 10), .int .i64 (.ofNat 3), .int .i64 (.ofNat 8), .int .i64 (.ofNat 11), .int .i64 (.ofNat 3), .int .i64 (.ofNat 8), .int .i64 (.ofNat 12), .int .i64 (.ofNat 3), .int .i64 (.ofNat 8), .int .i64 (.ofNat 13), .int .i64 (.ofNat 3), .int .i64 (.ofNat 8), .int .i64 (.ofNat 14), .int .i64 (.ofNat 3), .int .i64 (.ofNat 9), .int .i64 (.ofNat 10), .int .i64 (.ofNat 3), .int .i64 (.ofNat 9), .int .i64 (.ofNat 11), .int .i64 (.ofNat 3), .int .i64 (.ofNat 9), .int .i64 (.ofNat 12), .int .i64 (.ofNat 3), .int .i64 (.ofNat 9), .int .i64 (.ofNat 13), .int .i64 (.ofNat 3), .int .i64 (.ofNat 9), .int .i64 (.ofNat 14), .int .i64 (.ofNat 3), .int .i64 (.ofNat 10), .int .i64 (.ofNat 11), .int .i64 (.ofNat 3), .int .i64 (.ofNat 10), .int .i64 (.ofNat 12), .int .i64 (.ofNat 3), .int .i64 (.ofNat 10), .int .i64 (.ofNat 13), .int .i64 (.ofNat 3), .int .i64 (.ofNat 10), .int .i64 (.ofNat 14), .int .i64 (.ofNat 3), .int .i64 (.ofNat 11), .int .i64 (.ofNat 12), .int .i64 (.ofNat 3), .int .i64 (.ofNat 11), .int .i64 (.ofNat 13), .int .i64 (.ofNat 3), .int .i64 (.ofNat 11), .int .i64 (.ofNat 14), .int .i64 (.ofNat 3), .int .i64 (.ofNat 12), .int .i64 (.ofNat 13), .int .i64 (.ofNat 3), .int .i64 (.ofNat 12), .int .i64 (.ofNat 14), .int .i64 (.ofNat 3), .int .i64 (.ofNat 13), .int .i64 (.ofNat 14), .int .i64 (.ofNat 4), .int .i64 (.ofNat 5), .int .i64 (.ofNat 6), .int .i64 (.ofNat 4), .int .i64 (.ofNat 5), .int .i64 (.ofNat 7), .int .i64 (.ofNat 4), .int .i64 (.ofNat 5), .int .i64 (.ofNat 8), .int .i64 (.ofNat 4), .int .i64 (.ofNat 5), .int .i64 (.ofNat 9), .int .i64 (.ofNat 4), .int .i64 (.ofNat 5), .int .i64 (.ofNat 10), .int .i64 (.ofNat 4), .int .i64 (.ofNat 5), .int .i64 (.ofNat 11), .int .i64 (.ofNat 4), .int .i64 (.ofNat 5), .int .i64 (.ofNat 12), .int .i64 (.ofNat 4), .int .i64 (.ofNat 5), .int .i64 (.ofNat 13), .int .i64 (.ofNat 4), .int .i64 (.ofNat 5), .int .i64 (.ofNat 14), .int .i64 (.ofNat 4), .int .i64 (.ofNat 6), .int .i64 (.ofNat 7), .int .i64 (.ofNat 4), .int .i64 (.ofNat 6), .int .i64 (.ofNat 8), .int .i64 (.ofNat 4), .int .i64 (.ofNat 6), .int .i64 (.ofNat 9), .int .i64 (.ofNat 4), .int .i64 (.ofNat 6), .int .i64 (.ofNat 10), .int .i64 (.ofNat 4), .int .i64 (.ofNat 6), .int .i64 (.ofNat 11), .int .i64 (.ofNat 4), .int .i64 (.ofNat 6), .int .i64 (.ofNat 12), .int .i64 (.ofNat 4), .int .i64 (.ofNat 6), .int .i64 (.ofNat 13), .int .i64 (.ofNat 4), .int .i64 (.ofNat 6), .int .i64 (.ofNat 14), .int .i64 (.ofNat 4), .int .i64 (.ofNat 7), .int .i64 (.ofNat 8), .int .i64 (.ofNat 4), .int .i64 (.ofNat 7), .int .i64 (.ofNat 9), .int .i64 (.ofNat 4), .int .i64 (.ofNat 7), .int .i64 (.ofNat 10), .int .i64 (.ofNat 4), .int .i64 (.ofNat 7), .int .i64 (.ofNat 11), .int .i64 (.ofNat 4), .int .i64 (.ofNat 7), .int .i64 (.ofNat 12), .int .i64 (.ofNat 4), .int .i64 (.ofNat 7), .int .i64 (.ofNat 13), .int .i64 (.ofNat 4), .int .i64 (.ofNat 7), .int .i64 (.ofNat 14), .int .i64 (.ofNat 4), .int .i64 (.ofNat 8), .int .i64 (.ofNat 9), .int .i64 (.ofNat 4), .int .i64 (.ofNat 8), .int .i64 (.ofNat 10), .int .i64 (.ofNat 4), .int .i64 (.ofNat 8), .int .i64 (.ofNat 11), .int .i64 (.ofNat 4), .int .i64 (.ofNat 8), .int .i64 (.ofNat 12), .int .i64 (.ofNat 4), .int .i64 (.ofNat 8), .int .i64 (.ofNat 13), .int .i64 (.ofNat 4), .int .i64 (.ofNat 8), .int .i64 (.ofNat 14), .int .i64 (.ofNat 4), .int .i64 (.ofNat 9), .int .i64 (.ofNat 10), .int .i64 (.ofNat 4), .int .i64 (.ofNat 9), .int .i64 (.ofNat 11), .int .i64 (.ofNat 4), .int .i64 (.ofNat 9), .int .i64 (.ofNat 12), .int .i64 (.ofNat 4), .int .i64 (.ofNat 9), .int .i64 (.ofNat 13), .int .i64 (.ofNat 4), .int .i64 (.ofNat 9), .int .i64 (.ofNat 14), .int .i64 (.ofNat 4), .int .i64 (.ofNat 10), .int .i64 (.ofNat 11), .int .i64 (.ofNat 4), .int .i64 (.ofNat 10), .int .i64 (.ofNat 12), .int .i64 (.ofNat 4), .int .i64 (.ofNat 10), .int .i64 (.ofNat 13), .int .i64 (.ofNat 4), .int .i64 (.ofNat 10), .int .i64 (.ofNat 14), .int .i64 (.ofNat 4), .int .i64 (.ofNat 11), .int .i64 (.ofNat 12), .int .i64 (.ofNat 4), .int .i64 (.ofNat 11), .int .i64 (.ofNat 13), .int .i64 (.ofNat 4), .int .i64 (.ofNat 11), .int .i64 (.ofNat 14), .int .i64 (.ofNat 4), .int .i64 (.ofNat 12), .int .i64 (.ofNat 13), .int .i64 (.ofNat 4), .int .i64 (.ofNat 12), .int .i64 (.ofNat 14), .int .i64 (.ofNat 4), .int .i64 (.ofNat 13), .int .i64 (.ofNat 14), .int .i64 (.ofNat 5), .int .i64 (.ofNat 6), .int .i64 (.ofNat 7), .int .i64 (.ofNat 5), .int .i64 (.ofNat 6), .int .i64 (.ofNat 8), .int .i64 (.ofNat 5), .int .i64 (.ofNat 6), .int .i64 (.ofNat 9), .int .i64 (.ofNat 5), .int .i64 (.ofNat 6), .int .i64 (.ofNat 10), .int .i64 (.ofNat 5), .int .i64 (.ofNat 6), .int .i64 (.ofNat 11), .int .i64 (.ofNat 5), .int .i64 (.ofNat 6), .int .i64 (.ofNat 12), .int .i64 (.ofNat 5), .int .i64 (.ofNat 6), .int .i64 (.ofNat 13), .int .i64 (.ofNat 5), .int .i64 (.ofNat 6), .int .i64 (.ofNat 14), .int .i64 (.ofNat 5), .int .i64 (.ofNat 7), .int .i64 (.ofNat 8), .int .i64 (.ofNat 5), .int .i64 (.ofNat 7), .int .i64 (.ofNat 9), .int .i64 (.ofNat 5), .int .i64 (.ofNat 7), .int .i64 (.ofNat 10), .int .i64 (.ofNat 5), .int .i64 (.ofNat 7), .int .i64 (.ofNat 11), .int .i64 (.ofNat 5), .int .i64 (.ofNat 7), .int .i64 (.ofNat 12), .int .i64 (.ofNat 5), .int .i64 (.ofNat 7), .int .i64 (.ofNat 13), .int .i64 (.ofNat 5), .int .i64 (.ofNat 7), .int .i64 (.ofNat 14), .int .i64 (.ofNat 5), .int .i64 (.ofNat 8), .int .i64 (.ofNat 9), .int .i64 (.ofNat 5), .int .i64 (.ofNat 8), .int .i64 (.ofNat 10), .int .i64 (.ofNat 5), .int .i64 (.ofNat 8), .int .i64 (.ofNat 11), .int .i64 (.ofNat 5), .int .i64 (.ofNat 8), .int .i64 (.ofNat 12), .int .i64 (.ofNat 5), .int .i64 (.ofNat 8), .int .i64 (.ofNat 13), .int .i64 (.ofNat 5), .int .i64 (.ofNat 8), .int .i64 (.ofNat 14), .int .i64 (.ofNat 5), .int .i64 (.ofNat 9), .int .i64 (.ofNat 10), .int .i64 (.ofNat 5), .int .i64 (.ofNat 9), .int .i64 (.ofNat 11), .int .i64 (.ofNat 5), .int .i64 (.ofNat 9), .int .i64 (.ofNat 12), .int .i64 (.ofNat 5), .int .i64 (.ofNat 9), .int .i64 (.ofNat 13), .int .i64 (.ofNat 5), .int .i64 (.ofNat 9), .int .i64 (.ofNat 14), .int .i64 (.ofNat 5), .int .i64 (.ofNat 10), .int .i64 (.ofNat 11), .int .i64 (.ofNat 5), .int .i64 (.ofNat 10), .int .i64 (.ofNat 12), .int .i64 (.ofNat 5), .int .i64 (.ofNat 10), .int .i64 (.ofNat 13), .int .i64 (.ofNat 5), .int .i64 (.ofNat 10), .int .i64 (.ofNat 14), .int .i64 (.ofNat 5), .int .i64 (.ofNat 11), .int .i64 (.ofNat 12), .int .i64 (.ofNat 5), .int .i64 (.ofNat 11), .int .i64 (.ofNat 13), .int .i64 (.ofNat 5), .int .i64 (.ofNat 11), .int .i64 (.ofNat 14), .int .i64 (.ofNat 5), .int .i64 (.ofNat 12), .int .i64 (.ofNat 13), .int .i64 (.ofNat 5), .int .i64 (.ofNat 12), .int .i64 (.ofNat 14), .int .i64 (.ofNat 5), .int .i64 (.ofNat 13), .int .i64 (.ofNat 14), .int .i64 (.ofNat 6), .int .i64 (.ofNat 7), .int .i64 (.ofNat 8), .int .i64 (.ofNat 6), .int .i64 (.ofNat 7), .int .i64 (.ofNat 9), .int .i64 (.ofNat 6), .int .i64 (.ofNat 7), .int .i64 (.ofNat 10), .int .i64 (.ofNat 6), .int .i64 (.ofNat 7), .int .i64 (.ofNat 11), .int .i64 (.ofNat 6), .int .i64 (.ofNat 7), .int .i64 (.ofNat 12), .int .i64 (.ofNat 6), .int .i64 (.ofNat 7), .int .i64 (.ofNat 13), .int .i64 (.ofNat 6), .int .i64 (.ofNat 7), .int .i64 (.ofNat 14), .int .i64 (.ofNat 6), .int .i64 (.ofNat 8), .int .i64 (.ofNat 9), .int .i64 (.ofNat 6), .int .i64 (.ofNat 8), .int .i64 (.ofNat 10), .int .i64 (.ofNat 6), .int .i64 (.ofNat 8), .int .i64 (.ofNat 11), .int .i64 (.ofNat 6), .int .i64 (.ofNat 8), .int .i64 (.ofNat 12), .int .i64 (.ofNat 6), .int .i64 (.ofNat 8), .int .i64 (.ofNat 13), .int .i64 (.ofNat 6), .int .i64 (.ofNat 8), .int .i64 (.ofNat 14), .int .i64 (.ofNat 6), .int .i64 (.ofNat 9), .int .i64 (.ofNat 10), .int .i64 (.ofNat 6), .int .i64 (.ofNat 9), .int .i64 (.ofNat 11), .int .i64 (.ofNat 6), .int .i64 (.ofNat 9), .int .i64 (.ofNat 12), .int .i64 (.ofNat 6), .int .i64 (.ofNat 9), .int .i64 (.ofNat 13), .int .i64 (.ofNat 6), .int .i64 (.ofNat 9), .int .i64 (.ofNat 14), .int .i64 (.ofNat 6), .int .i64 (.ofNat 10), .int .i64 (.ofNat 11), .int .i64 (.ofNat 6), .int .i64 (.ofNat 10), .int .i64 (.ofNat 12), .int .i64 (.ofNat 6), .int .i64 (.ofNat 10), .int .i64 (.ofNat 13), .int .i64 (.ofNat 6), .int .i64 (.ofNat 10), .int .i64 (.ofNat 14), .int .i64 (.ofNat 6), .int .i64 (.ofNat 11), .int .i64 (.ofNat 12), .int .i64 (.ofNat 6), .int .i64 (.ofNat 11), .int .i64 (.ofNat 13), .int .i64 (.ofNat 6), .int .i64 (.ofNat 11), .int .i64 (.ofNat 14), .int .i64 (.ofNat 6), .int .i64 (.ofNat 12), .int .i64 (.ofNat 13), .int .i64 (.ofNat 6), .int .i64 (.ofNat 12), .int .i64 (.ofNat 14), .int .i64 (.ofNat 6), .int .i64 (.ofNat 13), .int .i64 (.ofNat 14), .int .i64 (.ofNat 7), .int .i64 (.ofNat 8), .int .i64 (.ofNat 9), .int .i64 (.ofNat 7), .int .i64 (.ofNat 8), .int .i64 (.ofNat 10), .int .i64 (.ofNat 7), .int .i64 (.ofNat 8), .int .i64 (.ofNat 11), .int .i64 (.ofNat 7), .int .i64 (.ofNat 8), .int .i64 (.ofNat 12), .int .i64 (.ofNat 7), .int .i64 (.ofNat 8), .int .i64 (.ofNat 13), .int .i64 (.ofNat 7), .int .i64 (.ofNat 8), .int .i64 (.ofNat 14), .int .i64 (.ofNat 7), .int .i64 (.ofNat 9), .int .i64 (.ofNat 10), .int .i64 (.ofNat 7), .int .i64 (.ofNat 9), .int .i64 (.ofNat 11), .int .i64 (.ofNat 7), .int .i64 (.ofNat 9), .int .i64 (.ofNat 12), .int .i64 (.ofNat 7), .int .i64 (.ofNat 9), .int .i64 (.ofNat 13), .int .i64 (.ofNat 7), .int .i64 (.ofNat 9), .int .i64 (.ofNat 14), .int .i64 (.ofNat 7), .int .i64 (.ofNat 10), .int .i64 (.ofNat 11), .int .i64 (.ofNat 7), .int .i64 (.ofNat 10), .int .i64 (.ofNat 12), .int .i64 (.ofNat 7), .int .i64 (.ofNat 10), .int .i64 (.ofNat 13), .int .i64 (.ofNat 7), .int .i64 (.ofNat 10), .int .i64 (.ofNat 14), .int .i64 (.ofNat 7), .int .i64 (.ofNat 11), .int .i64 (.ofNat 12), .int .i64 (.ofNat 7), .int .i64 (.ofNat 11), .int .i64 (.ofNat 13), .int .i64 (.ofNat 7), .int .i64 (.ofNat 11), .int .i64 (.ofNat 14), .int .i64 (.ofNat 7), .int .i64 (.ofNat 12), .int .i64 (.ofNat 13), .int .i64 (.ofNat 7), .int .i64 (.ofNat 12), .int .i64 (.ofNat 14), .int .i64 (.ofNat 7), .int .i64 (.ofNat 13), .int .i64 (.ofNat 14), .int .i64 (.ofNat 8), .int .i64 (.ofNat 9), .int .i64 (.ofNat 10), .int .i64 (.ofNat 8), .int .i64 (.ofNat 9), .int .i64 (.ofNat 11), .int .i64 (.ofNat 8), .int .i64 (.ofNat 9), .int .i64 (.ofNat 12), .int .i64 (.ofNat 8), .int .i64 (.ofNat 9), .int .i64 (.ofNat 13), .int .i64 (.ofNat 8), .int .i64 (.ofNat 9), .int .i64 (.ofNat 14), .int .i64 (.ofNat 8), .int .i64 (.ofNat 10), .int .i64 (.ofNat 11), .int .i64 (.ofNat 8), .int .i64 (.ofNat 10), .int .i64 (.ofNat 12), .int .i64 (.ofNat 8), .int .i64 (.ofNat 10), .int .i64 (.ofNat 13), .int .i64 (.ofNat 8), .int .i64 (.ofNat 10), .int .i64 (.ofNat 14), .int .i64 (.ofNat 8), .int .i64 (.ofNat 11), .int .i64 (.ofNat 12), .int .i64 (.ofNat 8), .int .i64 (.ofNat 11), .int .i64 (.ofNat 13), .int .i64 (.ofNat 8), .int .i64 (.ofNat 11), .int .i64 (.ofNat 14), .int .i64 (.ofNat 8), .int .i64 (.ofNat 12), .int .i64 (.ofNat 13), .int .i64 (.ofNat 8), .int .i64 (.ofNat 12), .int .i64 (.ofNat 14), .int .i64 (.ofNat 8), .int .i64 (.ofNat 13), .int .i64 (.ofNat 14), .int .i64 (.ofNat 9), .int .i64 (.ofNat 10), .int .i64 (.ofNat 11), .int .i64 (.ofNat 9), .int .i64 (.ofNat 10), .int .i64 (.ofNat 12), .int .i64 (.ofNat 9), .int .i64 (.ofNat 10), .int .i64 (.ofNat 13), .int .i64 (.ofNat 9), .int .i64 (.ofNat 10), .int .i64 (.ofNat 14), .int .i64 (.ofNat 9), .int .i64 (.ofNat 11), .int .i64 (.ofNat 12), .int .i64 (.ofNat 9), .int .i64 (.ofNat 11), .int .i64 (.ofNat 13), .int .i64 (.ofNat 9), .int .i64 (.ofNat 11), .int .i64 (.ofNat 14), .int .i64 (.ofNat 9), .int .i64 (.ofNat 12), .int .i64 (.ofNat 13), .int .i64 (.ofNat 9), .int .i64 (.ofNat 12), .int .i64 (.ofNat 14), .int .i64 (.ofNat 9), .int .i64 (.ofNat 13), .int .i64 (.ofNat 14), .int .i64 (.ofNat 10), .int .i64 (.ofNat 11), .int .i64 (.ofNat 12), .int .i64 (.ofNat 10), .int .i64 (.ofNat 11), .int .i64 (.ofNat 13), .int .i64 (.ofNat 10), .int .i64 (.ofNat 11), .int .i64 (.ofNat 14), .int .i64 (.ofNat 10), .int .i64 (.ofNat 12), .int .i64 (.ofNat 13), .int .i64 (.ofNat 10), .int .i64 (.ofNat 12), .int .i64 (.ofNat 14), .int .i64 (.ofNat 10), .int .i64 (.ofNat 13), .int .i64 (.ofNat 14), .int .i64 (.ofNat 11), .int .i64 (.ofNat 12), .int .i64 (.ofNat 13), .int .i64 (.ofNat 11), .int .i64 (.ofNat 12), .int .i64 (.ofNat 14), .int .i64 (.ofNat 11), .int .i64 (.ofNat 13), .int .i64 (.ofNat 14), .int .i64 (.ofNat 12), .int .i64 (.ofNat 13), .int .i64 (.ofNat 14)]

def sc : Code → Code
  | .scope c => c
  | c => c
noncomputable def cFd : Code := bodyOf S0 31
noncomputable def dFd : Code := sc (rc cFd)
noncomputable def bFd : Code := ic (ic (lc (rc (rc (rc (rc dFd))))))

/-- The world at the head of the search: all triples, and a row that begins with the day's. -/
def AFd (c : List Value) : AW := ⟨2, .node (.node .nil (some (.cells c 62 1 3)) .nil) (some (.cells allL 62 0 3)) .nil, .nil⟩
def AFd0 : AW := ⟨1, .node .nil (some (.cells allL 62 0 3)) .nil, .nil⟩
def dayV (k : Nat) : Value := match k with
  | 0 => .slice (some ⟨1, 0, none⟩) 0 9223372036854775808
  | k + 1 => .slice (some ⟨1, 0, none⟩) (k + 1) 9223372036854775808
def TFd (d : Value) (n : Int) : Tr Value := .node (.node (.node .nil (some (I n)) .nil) (some (.slice (some ⟨0, 0, none⟩) 455 9223372036854775808)) .nil) none (.node .nil (some d) .nil)

noncomputable def tFd : Tbl := tcons 46 eThree (tcons 43 eCompare fun _ => none)

end Go.Proofs

/- Are triples apart: the parts of the call, run. -/
namespace Go.Proofs
open Go Go.Ev
set_option linter.unusedVariables false

noncomputable def cAp : Code := bodyOf S0 51
noncomputable def oAp : Code := ic (ic (rc (lc (rc (rc cAp)))))
noncomputable def xAp : Code := ic (lc (rc (rc oAp)))
def falses : List Value := [.bool false, .bool false, .bool false, .bool false, .bool false, .bool false, .bool false, .bool false, .bool false, .bool false, .bool false, .bool false, .bool false, .bool false, .bool false, .bool false, .bool false, .bool false, .bool false, .bool false, .bool false, .bool false, .bool false, .bool false, .bool false, .bool false, .bool false]

def TAp (b off len cap : Nat) (i : Int) : Tr Value := .node (.node .nil (some (RS b off len cap)) (.node (.node .nil (some (.int .i64 (.ofNat len))) .nil) (some (.pointer (some ⟨0, 0, none⟩))) .nil)) (some (.int .i64 (.ofNat 15))) (.node (.node (.node .nil (some (RS b off len cap)) .nil) (some (.bool false)) .nil) none (.node (.node .nil (some (I i)) .nil) none .nil))
def AAp (M : List Value) : AW := ⟨1, .node .nil (some (.cells M 87 0 0)) .nil, .nil⟩

def TApB (b off len cap : Nat) : Tr Value := .node (.node .nil (some (RS b off len cap)) .nil) (some (.int .i64 (.ofNat 15))) (.node (.node .nil (some (.bool false)) .nil) none .nil)
def TApC (b off len cap : Nat) : Tr Value := .node (.node .nil (some (RS b off len cap)) (.node .nil (some (.pointer (some ⟨0, 0, none⟩))) .nil)) (some (.int .i64 (.ofNat 15))) (.node (.node .nil (some (.bool false)) .nil) none .nil)

theorem apA (r : Mem) (L : Nat) (fs : FnsC) (a : Value) (kn : KS) (kx : Nat → KS) (kr : KS) : run (SC r) 1971 19 L (lc cAp) fs none kn kx kr (sc0 1971 [I 15, a]) (tr0 1971 [I 15, a]) [] emptyA =
    kn [] (Tr.node (Tr.node Tr.nil (some a) Tr.nil) (some (Value.int IntKind.i64 (Int.ofNat 15))) (Tr.node (Tr.node Tr.nil (some (Value.bool false)) Tr.nil) none Tr.nil)) [] (AW.mk 0 Tr.nil Tr.nil) := by kernel_rfl

theorem apB (r : Mem) (L : Nat) (fs : FnsC) (b off len cap : Nat) (kn : KS) (kx : Nat → KS) (kr : KS) : run (SC r) 1971 19 L (lc (rc cAp)) fs none kn kx kr [] (TApB b off len cap) [] emptyA =
    kn [] (Tr.node (Tr.node Tr.nil (some (Value.slice (some (Addr.mk b off (some 0))) len cap)) (Tr.node Tr.nil (some (Value.pointer (some (Addr.mk 0 0 none)))) Tr.nil)) (some (Value.int IntKind.i64 (Int.ofNat 15))) (Tr.node (Tr.node Tr.nil (some (Value.bool false)) Tr.nil) none Tr.nil)) [] (AW.mk 1 (Tr.node Tr.nil (some (AObj.cells [Value.bool false, Value.bool false, Value.bool false, Value.bool false, Value.bool false, Value.bool false, Value.bool false, Value.bool false, Value.bool false, Value.bool false, Value.bool false, Value.bool false, Value.bool false, Value.bool false, Value.bool false, Value.bool false, Value.bool false, Value.bool false, Value.bool false, Value.bool false, Value.bool false, Value.bool false, Value.bool false, Value.bool false, Value.bool false, Value.bool false, Value.bool false] 87 0 0)) Tr.nil) Tr.nil) := by kernel_rfl

theorem apC (r : Mem) (L : Nat) (fs : FnsC) (b off len cap : Nat) (kn : KS) (kx : Nat → KS) (kr : KS) : run (SC r) 1971 19 L (lc (lc (rc (rc cAp)))) fs none kn kx kr [] (TApC b off len cap) [] (AAp falses) =
    kn [] (Tr.node (Tr.node Tr.nil (some (Value.slice (some (Addr.mk b off (some 0))) len cap)) (Tr.node (Tr.node Tr.nil (some (Value.int IntKind.i64 (Int.ofNat len))) Tr.nil) (some (Value.pointer (some (Addr.mk 0 0 none)))) Tr.nil)) (some (Value.int IntKind.i64 (Int.ofNat 15))) (Tr.node (Tr.node (Tr.node Tr.nil (some (Value.slice (some (Addr.mk b off (some 0))) len cap)) Tr.nil) (some (Value.bool false)) Tr.nil) none (Tr.node (Tr.node Tr.nil (some (Value.int IntKind.i64 (Int.ofNat 0))) Tr.nil) none Tr.nil))) [] (AW.mk 1 (Tr.node Tr.nil (some (AObj.cells [Value.bool false, Value.bool false, Value.bool false, Value.bool false, Value.bool false, Value.bool false, Value.bool false, Value.bool false, Value.bool false, Value.bool false, Value.bool false, Value.bool false, Value.bool false, Value.bool false, Value.bool false, Value.bool false, Value.bool false, Value.bool false, Value.bool false, Value.bool false, Value.bool false, Value.bool false, Value.bool false, Value.bool false, Value.bool false, Value.bool false, Value.bool false] 87 0 0)) Tr.nil) Tr.nil) := by kernel_rfl

theorem apH (r : Mem) (L : Nat) (fs : FnsC) (b off len cap : Nat) (i : Int) (M : List Value) (s : List (Nat × Value)) (kn : KS) (kx : Nat → KS) (kr : KS) : run (SC r) 1971 19 L (lc oAp) fs none kn kx kr s (TAp b off len cap i) [] (AAp M) =
    bif decide (i < Int.ofNat len) then kn [(11, Value.bool true)] (Tr.node (Tr.node Tr.nil (some (Value.slice (some (Addr.mk b off (some 0))) len cap)) (Tr.node (Tr.node Tr.nil (some (Value.int IntKind.i64 (Int.ofNat len))) Tr.nil) (some (Value.pointer (some (Addr.mk 0 0 none)))) Tr.nil)) (some (Value.int IntKind.i64 (Int.ofNat 15))) (Tr.node (Tr.node (Tr.node Tr.nil (some (Value.slice (some (Addr.mk b off (some 0))) len cap)) Tr.nil) (some (Value.bool false)) Tr.nil) none (Tr.node (Tr.node Tr.nil (some (Value.int IntKind.i64 i)) Tr.nil) none Tr.nil))) [] (AW.mk 1 (Tr.node Tr.nil (some (AObj.cells M 87 0 0)) Tr.nil) Tr.nil) else kn [(11, Value.bool false)] (Tr.node (Tr.node Tr.nil (some (Value.slice (some (Addr.mk b off (some 0))) len cap)) (Tr.node (Tr.node Tr.nil (some (Value.int IntKind.i64 (Int.ofNat len))) Tr.nil) (some (Value.pointer (some (Addr.mk 0 0 none)))) Tr.nil)) (some (Value.int IntKind.i64 (Int.ofNat 15))) (Tr.node (Tr.node (Tr.node Tr.nil (some (Value.slice (some (Addr.mk b off (some 0))) len cap)) Tr.nil) (some (Value.bool false)) Tr.nil) none (Tr.node (Tr.node Tr.nil (some (Value.int IntKind.i64 i)) Tr.nil) none Tr.nil))) [] (AW.mk 1 (Tr.node Tr.nil (some (AObj.cells M 87 0 0)) Tr.nil) Tr.nil) := by kernel_rfl

theorem apG (r : Mem) (L : Nat) (fs : FnsC) (b off len cap : Nat) (i : Int) (M : List Value) (c : Bool) (kn : KS) (kx : Nat → KS) (kr : KS) : run (SC r) 1971 19 L (lc (rc oAp)) fs none kn kx kr [(11, .bool c)] (TAp b off len cap i) [] (AAp M) =
    bif c then kn [(11, Value.bool c)] (Tr.node (Tr.node Tr.nil (some (Value.slice (some (Addr.mk b off (some 0))) len cap)) (Tr.node (Tr.node Tr.nil (some (Value.int IntKind.i64 (Int.ofNat len))) Tr.nil) (some (Value.pointer (some (Addr.mk 0 0 none)))) Tr.nil)) (some (Value.int IntKind.i64 (Int.ofNat 15))) (Tr.node (Tr.node (Tr.node Tr.nil (some (Value.slice (some (Addr.mk b off (some 0))) len cap)) Tr.nil) (some (Value.bool false)) Tr.nil) none (Tr.node (Tr.node Tr.nil (some (Value.int IntKind.i64 i)) Tr.nil) none Tr.nil))) [] (AW.mk 1 (Tr.node Tr.nil (some (AObj.cells M 87 0 0)) Tr.nil) Tr.nil) else kx 0 [(11, Value.bool c)] (Tr.node (Tr.node Tr.nil (some (Value.slice (some (Addr.mk b off (some 0))) len cap)) (Tr.node (Tr.node Tr.nil (some (Value.int IntKind.i64 (Int.ofNat len))) Tr.nil) (some (Value.pointer (some (Addr.mk 0 0 none)))) Tr.nil)) (some (Value.int IntKind.i64 (Int.ofNat 15))) (Tr.node (Tr.node (Tr.node Tr.nil (some (Value.slice (some (Addr.mk b off (some 0))) len cap)) Tr.nil) (some (Value.bool false)) Tr.nil) none (Tr.node (Tr.node Tr.nil (some (Value.int IntKind.i64 i)) Tr.nil) none Tr.nil))) [] (AW.mk 1 (Tr.node Tr.nil (some (AObj.cells M 87 0 0)) Tr.nil) Tr.nil) := by kernel_rfl

theorem apR (r : Mem) (b off len cap : Nat) (i : Int) (M : List Value) (s : List (Nat × Value)) (kn : KS) (kx : Nat → KS) (kr : KS) : run (SC r) 1971 19 8 xAp (lvlT (SC r) (fun _ => none) mskH 8 8) none kn kx kr s (TAp b off len cap i) [] (AAp M) =
    bif decide (0 ≤ i) then bif Nat.blt (Int.toNat i) len then Option.casesOn (r b (Nat.add off (Nat.mul (Int.toNat i) 3))) (CR.fail 423) fun val => bif isI IntKind.i64 val then Option.casesOn (r b (Nat.succ (Nat.add off (Nat.mul (Int.toNat i) 3)))) (CR.fail 423) fun val_1 => bif isI IntKind.i64 val_1 then Option.casesOn (r b (Nat.succ (Nat.succ (Nat.add off (Nat.mul (Int.toNat i) 3))))) (CR.fail 423) fun val_2 => bif isI IntKind.i64 val_2 then bif decide (ofI val < 0) then kr [] (Tr.node (Tr.node (Tr.node (Tr.node Tr.nil (some (Value.pointer (some (Addr.mk 1 0 none)))) Tr.nil) none Tr.nil) (some (Value.slice (some (Addr.mk b off (some 0))) len cap)) (Tr.node (Tr.node Tr.nil (some (Value.int IntKind.i64 (Int.ofNat len))) Tr.nil) (some (Value.pointer (some (Addr.mk 0 0 none)))) Tr.nil)) (some (Value.int IntKind.i64 (Int.ofNat 15))) (Tr.node (Tr.node (Tr.node Tr.nil (some (Value.slice (some (Addr.mk b off (some 0))) len cap)) Tr.nil) (some (Value.bool false)) Tr.nil) none (Tr.node (Tr.node Tr.nil (some (Value.int IntKind.i64 i)) Tr.nil) none Tr.nil))) [] (AW.mk 2 (Tr.node (Tr.node Tr.nil (some (AObj.cells [Value.int IntKind.i64 (ofI val), Value.int IntKind.i64 (ofI val_1), Value.int IntKind.i64 (ofI val_2)] 62 1 0)) Tr.nil) (some (AObj.cells M 87 0 0)) Tr.nil) Tr.nil) else bif decide (ofI val ≥ 15) then kr [] (Tr.node (Tr.node (Tr.node (Tr.node Tr.nil (some (Value.pointer (some (Addr.mk 1 0 none)))) Tr.nil) none Tr.nil) (some (Value.slice (some (Addr.mk b off (some 0))) len cap)) (Tr.node (Tr.node Tr.nil (some (Value.int IntKind.i64 (Int.ofNat len))) Tr.nil) (some (Value.pointer (some (Addr.mk 0 0 none)))) Tr.nil)) (some (Value.int IntKind.i64 (Int.ofNat 15))) (Tr.node (Tr.node (Tr.node Tr.nil (some (Value.slice (some (Addr.mk b off (some 0))) len cap)) Tr.nil) (some (Value.bool false)) Tr.nil) none (Tr.node (Tr.node Tr.nil (some (Value.int IntKind.i64 i)) Tr.nil) none Tr.nil))) [] (AW.mk 2 (Tr.node (Tr.node Tr.nil (some (AObj.cells [Value.int IntKind.i64 (ofI val), Value.int IntKind.i64 (ofI val_1), Value.int IntKind.i64 (ofI val_2)] 62 1 0)) Tr.nil) (some (AObj.cells M 87 0 0)) Tr.nil) Tr.nil) else bif decide (0 ≤ ofI val) then bif Nat.blt (Int.toNat (ofI val)) 27 then Option.casesOn M[Nat.add 0 (Nat.mul (Int.toNat (ofI val)) 1)]? (CR.fail 423) fun val_3 => bif isB val_3 then bif ofB val_3 then kr [] (Tr.node (Tr.node (Tr.node (Tr.node Tr.nil (some (Value.pointer (some (Addr.mk 1 0 none)))) Tr.nil) none Tr.nil) (some (Value.slice (some (Addr.mk b off (some 0))) len cap)) (Tr.node (Tr.node Tr.nil (some (Value.int IntKind.i64 (Int.ofNat len))) Tr.nil) (some (Value.pointer (some (Addr.mk 0 0 none)))) Tr.nil)) (some (Value.int IntKind.i64 (Int.ofNat 15))) (Tr.node (Tr.node (Tr.node Tr.nil (some (Value.slice (some (Addr.mk b off (some 0))) len cap)) Tr.nil) (some (Value.bool false)) Tr.nil) none (Tr.node (Tr.node Tr.nil (some (Value.int IntKind.i64 i)) Tr.nil) none Tr.nil))) [] (AW.mk 2 (Tr.node (Tr.node Tr.nil (some (AObj.cells [Value.int IntKind.i64 (ofI val), Value.int IntKind.i64 (ofI val_1), Value.int IntKind.i64 (ofI val_2)] 62 1 0)) Tr.nil) (some (AObj.cells M 87 0 0)) Tr.nil) Tr.nil) else bif decide (0 ≤ ofI val) then bif Nat.blt (Int.toNat (ofI val)) 27 then bif Nat.blt (Nat.add 0 (Nat.mul (Int.toNat (ofI val)) 1)) (List.length M) then bif decide (ofI val_1 < 0) then kr [] (Tr.node (Tr.node (Tr.node (Tr.node Tr.nil (some (Value.pointer (some (Addr.mk 1 0 none)))) Tr.nil) none Tr.nil) (some (Value.slice (some (Addr.mk b off (some 0))) len cap)) (Tr.node (Tr.node Tr.nil (some (Value.int IntKind.i64 (Int.ofNat len))) Tr.nil) (some (Value.pointer (some (Addr.mk 0 0 none)))) Tr.nil)) (some (Value.int IntKind.i64 (Int.ofNat 15))) (Tr.node (Tr.node (Tr.node Tr.nil (some (Value.slice (some (Addr.mk b off (some 0))) len cap)) Tr.nil) (some (Value.bool false)) Tr.nil) none (Tr.node (Tr.node Tr.nil (some (Value.int IntKind.i64 i)) Tr.nil) none Tr.nil))) [] (AW.mk 2 (Tr.node (Tr.node Tr.nil (some (AObj.cells [Value.int IntKind.i64 (ofI val), Value.int IntKind.i64 (ofI val_1), Value.int IntKind.i64 (ofI val_2)] 62 1 0)) Tr.nil) (some (AObj.cells (List.set M (Nat.add 0 (Nat.mul (Int.toNat (ofI val)) 1)) (Value.bool true)) 87 0 0)) Tr.nil) Tr.nil) else bif decide (ofI val_1 ≥ 15) then kr [] (Tr.node (Tr.node (Tr.node (Tr.node Tr.nil (some (Value.pointer (some (Addr.mk 1 0 none)))) Tr.nil) none Tr.nil) (some (Value.slice (some (Addr.mk b off (some 0))) len cap)) (Tr.node (Tr.node Tr.nil (some (Value.int IntKind.i64 (Int.ofNat len))) Tr.nil) (some (Value.pointer (some (Addr.mk 0 0 none)))) Tr.nil)) (some (Value.int IntKind.i64 (Int.ofNat 15))) (Tr.node (Tr.node (Tr.node Tr.nil (some (Value.slice (some (Addr.mk b off (some 0))) len cap)) Tr.nil) (some (Value.bool false)) Tr.nil) none (Tr.node (Tr.node Tr.nil (some (Value.int IntKind.i64 i)) Tr.nil) none Tr.nil))) [] (AW.mk 2 (Tr.node (Tr.node Tr.nil (some (AObj.cells [Value.int IntKind.i64 (ofI val), Value.int IntKind.i64 (ofI val_1), Value.int IntKind.i64 (ofI val_2)] 62 1 0)) Tr.nil) (some (AObj.cells (List.set M (Nat.add 0 (Nat.mul (Int.toNat (ofI val)) 1)) (Value.bool true)) 87 0 0)) Tr.nil) Tr.nil) else bif decide (0 ≤ ofI val_1) then bif Nat.blt (Int.toNat (ofI val_1)) 27 then Option.casesOn (List.set M (Nat.add 0 (Nat.mul (Int.toNat (ofI val)) 1)) (Value.bool true))[Nat.add 0 (Nat.mul (Int.toNat (ofI val_1)) 1)]? (CR.fail 423) fun val_4 => bif isB val_4 then bif ofB val_4 then kr [] (Tr.node (Tr.node (Tr.node (Tr.node Tr.nil (some (Value.pointer (some (Addr.mk 1 0 none)))) Tr.nil) none Tr.nil) (some (Value.slice (some (Addr.mk b off (some 0))) len cap)) (Tr.node (Tr.node Tr.nil (some (Value.int IntKind.i64 (Int.ofNat len))) Tr.nil) (some (Value.pointer (some (Addr.mk 0 0 none)))) Tr.nil)) (some (Value.int IntKind.i64 (Int.ofNat 15))) (Tr.node (Tr.node (Tr.node Tr.nil (some (Value.slice (some (Addr.mk b off (some 0))) len cap)) Tr.nil) (some (Value.bool false)) Tr.nil) none (Tr.node (Tr.node Tr.nil (some (Value.int IntKind.i64 i)) Tr.nil) none Tr.nil))) [] (AW.mk 2 (Tr.node (Tr.node Tr.nil (some (AObj.cells [Value.int IntKind.i64 (ofI val), Value.int IntKind.i64 (ofI val_1), Value.int IntKind.i64 (ofI val_2)] 62 1 0)) Tr.nil) (some (AObj.cells (List.set M (Nat.add 0 (Nat.mul (Int.toNat (ofI val)) 1)) (Value.bool true)) 87 0 0)) Tr.nil) Tr.nil) else bif decide (0 ≤ ofI val_1) then bif Nat.blt (Int.toNat (ofI val_1)) 27 then bif Nat.blt (Nat.add 0 (Nat.mul (Int.toNat (ofI val_1)) 1)) (List.length (List.set M (Nat.add 0 (Nat.mul (Int.toNat (ofI val)) 1)) (Value.bool true))) then bif decide (ofI val_2 < 0) then kr [] (Tr.node (Tr.node (Tr.node (Tr.node Tr.nil (some (Value.pointer (some (Addr.mk 1 0 none)))) Tr.nil) none Tr.nil) (some (Value.slice (some (Addr.mk b off (some 0))) len cap)) (Tr.node (Tr.node Tr.nil (some (Value.int IntKind.i64 (Int.ofNat len))) Tr.nil) (some (Value.pointer (some (Addr.mk 0 0 none)))) Tr.nil)) (some (Value.int IntKind.i64 (Int.ofNat 15))) (Tr.node (Tr.node (Tr.node Tr.nil (some (Value.slice (some (Addr.mk b off (some 0))) len cap)) Tr.nil) (some (Value.bool false)) Tr.nil) none (Tr.node (Tr.node Tr.nil (some (Value.int IntKind.i64 i)) Tr.nil) none Tr.nil))) [] (AW.mk 2 (Tr.node (Tr.node Tr.nil (some (AObj.cells [Value.int IntKind.i64 (ofI val), Value.int IntKind.i64 (ofI val_1), Value.int IntKind.i64 (ofI val_2)] 62 1 0)) Tr.nil) (some (AObj.cells (List.set (List.set M (Nat.add 0 (Nat.mul (Int.toNat (ofI val)) 1)) (Value.bool true)) (Nat.add 0 (Nat.mul (Int.toNat (ofI val_1)) 1)) (Value.bool true)) 87 0 0)) Tr.nil) Tr.nil) else bif decide (ofI val_2 ≥ 15) then kr [] (Tr.node (Tr.node (Tr.node (Tr.node Tr.nil (some (Value.pointer (some (Addr.mk 1 0 none)))) Tr.nil) none Tr.nil) (some (Value.slice (some (Addr.mk b off (some 0))) len cap)) (Tr.node (Tr.node Tr.nil (some (Value.int IntKind.i64 (Int.ofNat len))) Tr.nil) (some (Value.pointer (some (Addr.mk 0 0 none)))) Tr.nil)) (some (Value.int IntKind.i64 (Int.ofNat 15))) (Tr.node (Tr.node (Tr.node Tr.nil (some (Value.slice (some (Addr.mk b off (some 0))) len cap)) Tr.nil) (some (Value.bool false)) Tr.nil) none (Tr.node (Tr.node Tr.nil (some (Value.int IntKind.i64 i)) Tr.nil) none Tr.nil))) [] (AW.mk 2 (Tr.node (Tr.node Tr.nil (some (AObj.cells [Value.int IntKind.i64 (ofI val), Value.int IntKind.i64 (ofI val_1), Value.int IntKind.i64 (ofI val_2)] 62 1 0)) Tr.nil) (some (AObj.cells (List.set (List.set M (Nat.add 0 (Nat.mul (Int.toNat (ofI val)) 1)) (Value.bool true)) (Nat.add 0 (Nat.mul (Int.toNat (ofI val_1)) 1)) (Value.bool true)) 87 0 0)) Tr.nil) Tr.nil) else bif decide (0 ≤ ofI val_2) then bif Nat.blt (Int.toNat (ofI val_2)) 27 then Option.casesOn (List.set (List.set M (Nat.add 0 (Nat.mul (Int.toNat (ofI val)) 1)) (Value.bool true)) (Nat.add 0 (Nat.mul (Int.toNat (ofI val_1)) 1)) (Value.bool true))[Nat.add 0 (Nat.mul (Int.toNat (ofI val_2)) 1)]? (CR.fail 423) fun val_5 => bif isB val_5 then bif ofB val_5 then kr [] (Tr.node (Tr.node (Tr.node (Tr.node Tr.nil (some (Value.pointer (some (Addr.mk 1 0 none)))) Tr.nil) none Tr.nil) (some (Value.slice (some (Addr.mk b off (some 0))) len cap)) (Tr.node (Tr.node Tr.nil (some (Value.int IntKind.i64 (Int.ofNat len))) Tr.nil) (some (Value.pointer (some (Addr.mk 0 0 none)))) Tr.nil)) (some (Value.int IntKind.i64 (Int.ofNat 15))) (Tr.node (Tr.node (Tr.node Tr.nil (some (Value.slice (some (Addr.mk b off (some 0))) len cap)) Tr.nil) (some (Value.bool false)) Tr.nil) none (Tr.node (Tr.node Tr.nil (some (Value.int IntKind.i64 i)) Tr.nil) none Tr.nil))) [] (AW.mk 2 (Tr.node (Tr.node Tr.nil (some (AObj.cells [Value.int IntKind.i64 (ofI val), Value.int IntKind.i64 (ofI val_1), Value.int IntKind.i64 (ofI val_2)] 62 1 0)) Tr.nil) (some (AObj.cells (List.set (List.set M (Nat.add 0 (Nat.mul (Int.toNat (ofI val)) 1)) (Value.bool true)) (Nat.add 0 (Nat.mul (Int.toNat (ofI val_1)) 1)) (Value.bool true)) 87 0 0)) Tr.nil) Tr.nil) else bif decide (0 ≤ ofI val_2) then bif Nat.blt (Int.toNat (ofI val_2)) 27 then bif Nat.blt (Nat.add 0 (Nat.mul (Int.toNat (ofI val_2)) 1)) (List.length (List.set (List.set M (Nat.add 0 (Nat.mul (Int.toNat (ofI val)) 1)) (Value.bool true)) (Nat.add 0 (Nat.mul (Int.toNat (ofI val_1)) 1)) (Value.bool true))) then kn [(17, Value.bool false), (16, Value.bool true), (15, Value.slice (some (Addr.mk 1 0 none)) 3 3), (14, Value.int IntKind.i64 (Int.ofNat 15))] (Tr.node (Tr.node (Tr.node (Tr.node Tr.nil (some (Value.pointer (some (Addr.mk 1 0 none)))) Tr.nil) none Tr.nil) (some (Value.slice (some (Addr.mk b off (some 0))) len cap)) (Tr.node (Tr.node Tr.nil (some (Value.int IntKind.i64 (Int.ofNat len))) Tr.nil) (some (Value.pointer (some (Addr.mk 0 0 none)))) Tr.nil)) (some (Value.int IntKind.i64 (Int.ofNat 15))) (Tr.node (Tr.node (Tr.node Tr.nil (some (Value.slice (some (Addr.mk b off (some 0))) len cap)) Tr.nil) (some (Value.bool false)) Tr.nil) none (Tr.node (Tr.node Tr.nil (some (Value.int IntKind.i64 i)) Tr.nil) none Tr.nil))) [] (AW.mk 2 (Tr.node (Tr.node Tr.nil (some (AObj.cells [Value.int IntKind.i64 (ofI val), Value.int IntKind.i64 (ofI val_1), Value.int IntKind.i64 (ofI val_2)] 62 1 0)) Tr.nil) (some (AObj.cells (List.set (List.set (List.set M (Nat.add 0 (Nat.mul (Int.toNat (ofI val)) 1)) (Value.bool true)) (Nat.add 0 (Nat.mul (Int.toNat (ofI val_1)) 1)) (Value.bool true)) (Nat.add 0 (Nat.mul (Int.toNat (ofI val_2)) 1)) (Value.bool true)) 87 0 0)) Tr.nil) Tr.nil) else CR.fail 420 else CR.fail 420 else CR.fail 420 else CR.fail 420 else CR.fail 420 else CR.fail 420 else CR.fail 420 else CR.fail 420 else CR.fail 420 else CR.fail 420 else CR.fail 420 else CR.fail 420 else CR.fail 420 else CR.fail 420 else CR.fail 420 else CR.fail 420 else CR.fail 420 else CR.fail 420 else CR.fail 420 else CR.fail 420 else CR.fail 420 else CR.fail 420 else CR.fail 420 := by kernel_rfl

theorem apI (r : Mem) (L : Nat) (fs : FnsC) (b off len cap : Nat) (i : Int) (M : List Value) (s : List (Nat × Value)) (kn : KS) (kx : Nat → KS) (kr : KS) : run (SC r) 1971 19 L (rc (rc (rc oAp))) fs none kn kx kr s (TAp b off len cap i) [] (AAp M) =
    kn [(18, Value.int IntKind.i64 (IntKind.wrap IntKind.i64 (i + Int.ofNat 1)))] (Tr.node (Tr.node Tr.nil (some (Value.slice (some (Addr.mk b off (some 0))) len cap)) (Tr.node (Tr.node Tr.nil (some (Value.int IntKind.i64 (Int.ofNat len))) Tr.nil) (some (Value.pointer (some (Addr.mk 0 0 none)))) Tr.nil)) (some (Value.int IntKind.i64 (Int.ofNat 15))) (Tr.node (Tr.node (Tr.node Tr.nil (some (Value.slice (some (Addr.mk b off (some 0))) len cap)) Tr.nil) (some (Value.bool false)) Tr.nil) none (Tr.node (Tr.node Tr.nil (some (Value.int IntKind.i64 (IntKind.wrap IntKind.i64 (i + Int.ofNat 1)))) Tr.nil) none Tr.nil))) [] (AW.mk 1 (Tr.node Tr.nil (some (AObj.cells M 87 0 0)) Tr.nil) Tr.nil) := by kernel_rfl

theorem apE (r : Mem) (L : Nat) (fs : FnsC) (b off len cap : Nat) (i : Int) (M : List Value) (s : List (Nat × Value)) (kn : KS) (kx : Nat → KS) (kr : KS) : run (SC r) 1971 19 L (rc (rc (rc cAp))) fs none kn kx kr s (TAp b off len cap i) [] (AAp M) =
    kr [] (Tr.node (Tr.node Tr.nil (some (Value.slice (some (Addr.mk b off (some 0))) len cap)) (Tr.node (Tr.node Tr.nil (some (Value.int IntKind.i64 (Int.ofNat len))) Tr.nil) (some (Value.pointer (some (Addr.mk 0 0 none)))) Tr.nil)) (some (Value.int IntKind.i64 (Int.ofNat 15))) (Tr.node (Tr.node (Tr.node Tr.nil (some (Value.slice (some (Addr.mk b off (some 0))) len cap)) Tr.nil) (some (Value.bool true)) Tr.nil) none (Tr.node (Tr.node Tr.nil (some (Value.int IntKind.i64 i)) Tr.nil) none Tr.nil))) [] (AW.mk 1 (Tr.node Tr.nil (some (AObj.cells M 87 0 0)) Tr.nil) Tr.nil) := by kernel_rfl

end Go.Proofs

/- Are triples apart: what the call answers, of a row in memory. -/
namespace Go.Proofs
open Go Go.Ev
set_option linter.unusedVariables false

def marksL (S : Nat → Bool) : List Value := (List.range 27).map fun j => .bool (S j)
def okB (S : Nat → Bool) (x : Int) : Bool := decide (0 ≤ x) && (decide (x < 15) && !S x.toNat)
def addS (S : Nat → Bool) (x : Int) : Nat → Bool := fun j => Nat.beq j x.toNat || S j
def noS : Nat → Bool := fun _ => false
def m_apL : List Int → (Nat → Bool) → Bool
  | x :: y :: z :: l, S => okB S x && (okB (addS S x) y && (okB (addS (addS S x) y) z && m_apL l (addS (addS (addS S x) y) z)))
  | _, _ => true

theorem marks_get (S : Nat → Bool) (n : Nat) (h : n < 27) : (marksL S)[Nat.add 0 (Nat.mul n 1)]? = some (.bool (S n)) := by
  have e : Nat.add 0 (Nat.mul n 1) = n := by show 0 + n * 1 = n; omega
  rw [e]
  simp [marksL, List.getElem?_map, List.getElem?_range h]
theorem marks_len (S : Nat → Bool) : (marksL S).length = 27 := by simp [marksL]
theorem marks_set (S : Nat → Bool) (x : Int) : List.set (marksL S) (Nat.add 0 (Nat.mul (Int.toNat x) 1)) (.bool true) = marksL (addS S x) := by
  have e : Nat.add 0 (Nat.mul (Int.toNat x) 1) = Int.toNat x := by show 0 + _ * 1 = _; omega
  rw [e]
  apply List.ext_getElem?
  intro j
  simp only [marksL, List.getElem?_set, List.getElem?_map, List.length_map, List.length_range, addS]
  by_cases hj : j < 27
  · rw [List.getElem?_range hj]
    by_cases hx : Int.toNat x = j
    · subst hx
      simp [hj]
    · rw [if_neg hx]
      have : Nat.beq j (Int.toNat x) = false := by
        cases hb : Nat.beq j (Int.toNat x) with
        | false => rfl
        | true => exact absurd (Nat.eq_of_beq_eq_true hb).symm hx
      simp [this]
  · have : (List.range 27)[j]? = none := List.getElem?_eq_none (by simp; omega)
    rw [this]
    by_cases hx : Int.toNat x = j
    · rw [if_pos hx, if_neg (by omega)]; rfl
    · rw [if_neg hx]; rfl

theorem step1 (S : Nat → Bool) (x : Int) (F1 F2 F3 K R : CR) (hF : okB S x = false → F1 = R ∧ F2 = R ∧ F3 = R) (hK : okB S x = true → K = R) :
    (bif decide (x < 0) then F1 else bif decide (x ≥ 15) then F2 else bif decide (0 ≤ x) then bif Nat.blt (Int.toNat x) 27 then Option.casesOn (motive := fun _ => CR) ((marksL S)[Nat.add 0 (Nat.mul (Int.toNat x) 1)]?) (CR.fail 423) (fun v => bif isB v then bif ofB v then F3 else bif decide (0 ≤ x) then bif Nat.blt (Int.toNat x) 27 then bif Nat.blt (Nat.add 0 (Nat.mul (Int.toNat x) 1)) (List.length (marksL S)) then K else CR.fail 420 else CR.fail 420 else CR.fail 420 else CR.fail 420) else CR.fail 420 else CR.fail 420) = R := by
  by_cases h1 : x < 0
  · rw [dT h1, cond_true]
    exact (hF (by unfold okB; rw [dF (show ¬ (0:Int) ≤ x by omega)]; rfl)).1
  · rw [dF h1, cond_false]
    by_cases h2 : x ≥ 15
    · rw [dT h2, cond_true]
      exact (hF (by unfold okB; rw [dT (show (0:Int) ≤ x by omega), dF (show ¬ x < 15 by omega)]; rfl)).2.1
    · have h3 : 0 ≤ x := by omega
      have h4 : Int.toNat x < 27 := by omega
      have h5 : Nat.blt (Int.toNat x) 27 = true := by simpa [Nat.blt_eq] using h4
      have h6 : Nat.blt (Nat.add 0 (Nat.mul (Int.toNat x) 1)) (List.length (marksL S)) = true := by
        rw [marks_len]
        have e : Nat.add 0 (Nat.mul (Int.toNat x) 1) = Int.toNat x := by show 0 + _ * 1 = _; omega
        rw [e]
        exact h5
      rw [dF h2, cond_false, dT h3, cond_true, h5, cond_true, marks_get S _ h4]
      show (bif true then bif S (Int.toNat x) then F3 else bif true then bif true then bif Nat.blt (Nat.add 0 (Nat.mul (Int.toNat x) 1)) (List.length (marksL S)) then K else CR.fail 420 else CR.fail 420 else CR.fail 420 else CR.fail 420) = R
      rw [h6]
      have ho : okB S x = !S x.toNat := by unfold okB; rw [dT h3, dT (show x < 15 by omega)]; rfl
      cases hs : S (Int.toNat x) with
      | true => exact (hF (by rw [ho, hs]; rfl)).2.2
      | false => exact hK (by rw [ho, hs]; rfl)

def TApR (b off len cap : Nat) (i : Int) : Tr Value := .node (.node (.node (.node .nil (some (.pointer (some ⟨1, 0, none⟩))) .nil) none .nil) (some (RS b off len cap)) (.node (.node .nil (some (.int .i64 (.ofNat len))) .nil) (some (.pointer (some ⟨0, 0, none⟩))) .nil)) (some (.int .i64 (.ofNat 15))) (.node (.node (.node .nil (some (RS b off len cap)) .nil) (some (.bool false)) .nil) none (.node (.node .nil (some (I i)) .nil) none .nil))

theorem ap_round (r : Mem) (b off len cap n : Nat) (S : Nat → Bool) (s : List (Nat × Value)) (kn : KS) (kx : Nat → KS) (kr : KS) (R : CR) (x y z : Int) (hn : n < len)
    (h0 : r b (off + n * 3) = some (I x)) (h1 : r b (off + n * 3 + 1) = some (I y)) (h2 : r b (off + n * 3 + 2) = some (I z))
    (hF : (okB S x && (okB (addS S x) y && okB (addS (addS S x) y) z)) = false → ∀ A, kr [] (TApR b off len cap (Int.ofNat n)) [] A = R)
    (hK : (okB S x && (okB (addS S x) y && okB (addS (addS S x) y) z)) = true → ∀ s A, A.heap.get 0 = some (.cells (marksL (addS (addS (addS S x) y) z)) 87 0 0) → kn s (TApR b off len cap (Int.ofNat n)) [] A = R) :
    run (SC r) 1971 19 8 xAp (lvlT (SC r) (fun _ => none) mskH 8 8) none kn kx kr s (TAp b off len cap (Int.ofNat n)) [] (AAp (marksL S)) = R := by
  rw [apR]
  have e0 : r b (Nat.add off (Nat.mul (Int.toNat (Int.ofNat n)) 3)) = some (I x) := h0
  have e1 : r b (Nat.succ (Nat.add off (Nat.mul (Int.toNat (Int.ofNat n)) 3))) = some (I y) := h1
  have e2 : r b (Nat.succ (Nat.succ (Nat.add off (Nat.mul (Int.toNat (Int.ofNat n)) 3)))) = some (I z) := h2
  have g0 : decide (0 ≤ Int.ofNat n) = true := dT (Int.natCast_nonneg n)
  have g1 : Nat.blt (Int.toNat (Int.ofNat n)) len = true := by
    show Nat.blt n len = true
    simpa [Nat.blt_eq] using hn
  rw [g0, cond_true, g1, cond_true, e0]
  dsimp only
  rw [show isI IntKind.i64 (I x) = true from rfl, cond_true, e1]
  dsimp only
  rw [show isI IntKind.i64 (I y) = true from rfl, cond_true, e2]
  dsimp only
  rw [show isI IntKind.i64 (I z) = true from rfl, cond_true]
  simp only [show ofI (I x) = x from rfl, show ofI (I y) = y from rfl, show ofI (I z) = z from rfl, marks_set]
  refine step1 S x _ _ _ _ R (fun hx => ?_) (fun hx => ?_)
  · have := hF (by rw [hx]; rfl)
    exact ⟨this _, this _, this _⟩
  refine step1 (addS S x) y _ _ _ _ R (fun hy => ?_) (fun hy => ?_)
  · have := hF (by rw [hx, hy]; rfl)
    exact ⟨this _, this _, this _⟩
  refine step1 (addS (addS S x) y) z _ _ _ _ R (fun hz => ?_) (fun hz => ?_)
  · have := hF (by rw [hx, hy, hz]; rfl)
    exact ⟨this _, this _, this _⟩
  exact hK (by rw [hx, hy, hz]; rfl) _ _ rfl

end Go.Proofs

/- Are triples apart: the call; an entry of a table. -/
namespace Go.Proofs
open Go Go.Ev
set_option linter.unusedVariables false

theorem cAp_eq : cAp = .seq (lc cAp) (.seq (lc (rc cAp)) (.seq (.seq (lc (lc (rc (rc cAp)))) (.block 0 (.loop oAp))) (rc (rc (rc cAp))))) := by kernel_rfl
theorem oAp_eq : oAp = .seq (lc oAp) (.seq (lc (rc oAp)) (.seq (.block 1 xAp) (rc (rc (rc oAp))))) := by kernel_rfl

theorem marks_gnd (S : Nat → Bool) : ∀ v ∈ marksL S, gnd v = true := fun v hv => by
  simp only [marksL, List.mem_map] at hv
  obtain ⟨j, _, rfl⟩ := hv
  rfl

theorem ren_ap {r : Mem} {W0 : World} (s : List (Nat × Value)) (b off len cap : Nat) (i : Int) (S : Nat → Bool) (T : Tr Value) (A : AW) (t0 : T.get 0 = some (I 15)) (t1 : T.get 1 = some (RS b off len cap)) (t4 : T.get 4 = some (.bool false))
    (t5 : T.get 5 = some (.pointer (some ⟨0, 0, none⟩))) (t8 : T.get 8 = some (RS b off len cap)) (t9 : T.get 9 = some (.int .i64 (.ofNat len))) (t10 : T.get 10 = some (I i)) (hA : A.heap.get 0 = some (.cells (marksL S) 87 0 0)) :
    Ren (SC r) 1971 19 noG W0 ⟨⟨s, T⟩, [], A⟩ ⟨⟨[], TAp b off len cap i⟩, [], AAp (marksL S)⟩ := by
  refine Ren.of (fun i => i) 0 rfl (fun _ _ => rfl) (Nat.zero_le _) (fun i hi => rfl) ?_ rfl ?_ trivial
  · simp only [Tr.All, TAp]
    repeat' (first | exact trivial | apply And.intro)
    all_goals first | exact ⟨_, t0, rfl⟩ | exact ⟨_, t1, rfl⟩ | exact ⟨_, t4, rfl⟩ | exact ⟨_, t5, rfl⟩ | exact ⟨_, t8, rfl⟩ | exact ⟨_, t9, rfl⟩ | exact ⟨_, t10, rfl⟩
  · simp only [Tr.All, AAp]
    repeat' (first | exact trivial | apply And.intro)
    all_goals first | rfl | exact .head _ | exact ⟨_, hA, .plain (marks_gnd S)⟩

def TApQ (v : Bool) : Tr Value := .node .nil none (.node (.node .nil (some (.bool v)) .nil) none .nil)
theorem ren_apQ {r : Mem} {W0 : World} (s : List (Nat × Value)) (v : Bool) (T : Tr Value) (A : AW) (t4 : T.get 4 = some (.bool v)) : Ren (SC r) 1971 19 noG W0 ⟨⟨s, T⟩, [], A⟩ ⟨⟨[], TApQ v⟩, [], emptyA⟩ := by
  refine Ren.of (fun i => i) 0 rfl (fun _ _ => rfl) (Nat.zero_le _) (fun i hi => rfl) ?_ rfl trivial trivial
  simp only [Tr.All, TApQ]
  repeat' (first | exact trivial | apply And.intro)
  all_goals exact ⟨_, t4, rfl⟩

/-- The list of a row's numbers. -/
def rowZs (r : Mem) (b off : Nat) (zs : List Int) : Prop := ∀ j z, zs[j]? = some z → r b (off + j) = some (I z)

theorem drop3 {zs : List Int} {n len : Nat} (hl : zs.length = 3 * len) (hn : n < len) : ∃ x y z, zs.drop (3 * n) = x :: y :: z :: zs.drop (3 * (n + 1)) ∧ zs[n * 3]? = some x ∧ zs[n * 3 + 1]? = some y ∧ zs[n * 3 + 2]? = some z := by
  have e : ∀ k, k < zs.length → zs.drop k = zs[k]! :: zs.drop (k + 1) := fun k hk => by
    rw [List.drop_eq_getElem_cons hk, getElem!_pos zs k hk]
  refine ⟨zs[3 * n]!, zs[3 * n + 1]!, zs[3 * n + 1 + 1]!, ?_, ?_, ?_, ?_⟩
  · rw [e (3 * n) (by omega), e (3 * n + 1) (by omega), e (3 * n + 1 + 1) (by omega)]
    rfl
  · rw [Nat.mul_comm, List.getElem?_eq_getElem (by omega), getElem!_pos zs _ (by omega)]
  · rw [Nat.mul_comm, List.getElem?_eq_getElem (by omega), getElem!_pos zs _ (by omega)]
  · rw [Nat.mul_comm, List.getElem?_eq_getElem (by omega), getElem!_pos zs _ (by omega)]

theorem apart_ok (r : Mem) (b off len cap : Nat) (zs : List Int) (hz : rowZs r b off zs) (hl : zs.length = 3 * len) (hlen : len < 1000000) : GrT Try.prog r 51 [I 15, RS b off len cap] (.bool (m_apL zs noS)) := by
  refine GrM.plain (fun F hF k W args' hR ha => ?_) rfl
  obtain ⟨fn, h1, h2, h3, h4⟩ := fn_of (C := SC r) (f := 51) (by kernel_rfl)
  have hn : fn.ntmps = 19 := h3.trans (by kernel_rfl)
  have hr : fn.results.toList = [.tmp 4] := h4.trans (by kernel_rfl)
  rw [bodySC] at h2
  refine call_reach (C := SC r) (SC_ok r) (A := emptyA) h1 h2 1971 (by rw [hn]; rfl) (fun F k hF hro => ?_) (WRel.empty W) hR ha hF k
  rw [hn, hr]
  show Go.Ev.Reach (SC r) 1971 19 F k noG W cAp _ _
  rw [cAp_eq]
  refine Go.Ev.Reach.seq (Go.Ev.Reach.seg (SC_ok r) TOk.nil (tm := mskH) (L := 8) (L' := 8) (d := 8) hF hro ((apA r _ _ _ _ _ _).trans (qn_ok ?_)))
  refine Go.Ev.Reach.seq (Go.Ev.Reach.seg (SC_ok r) TOk.nil (tm := mskH) (L := 8) (L' := 8) (d := 8) hF hro ((apB r _ _ b off len cap _ _ _).trans (qn_ok ?_)))
  refine Go.Ev.Reach.seq (Go.Ev.Reach.seq (Go.Ev.Reach.seg (SC_ok r) TOk.nil (tm := mskH) (L := 8) (L' := 8) (d := 8) hF hro ((apC r _ _ b off len cap _ _ _).trans (qn_ok ?_))))
  refine Go.Ev.Reach.block (Go.Ev.Reach.loop (I := fun j st => ∃ st1, Ren (SC r) 1971 19 noG W st st1 ∧ ∃ n S, n ≤ len ∧ j = len - n ∧ m_apL zs noS = m_apL (zs.drop (3 * n)) S ∧ st1 = ⟨⟨[], TAp b off len cap (Int.ofNat n)⟩, [], AAp (marksL S)⟩) (fun j st ⟨st1, hr, n, S, hle, hj, hm, hs⟩ => Go.Ev.Reach.pre hr ?_) ⟨_, Ren.refl _, 0, noS, Nat.zero_le _, rfl, rfl, rfl⟩)
  subst hs
  rw [oAp_eq]
  by_cases c : n < len
  · have c' : Int.ofNat n < Int.ofNat len := by simpa using c
    refine Go.Ev.Reach.seq (Go.Ev.Reach.seg (SC_ok r) TOk.nil (tm := mskH) (L := 8) (L' := 8) (d := 8) hF hro ((apH r _ _ b off len cap _ _ _ _ _ _).trans ?_))
    rw [dT c', cond_true]
    refine qn_ok ?_
    refine Go.Ev.Reach.seq (Go.Ev.Reach.seg (SC_ok r) TOk.nil (tm := mskH) (L := 8) (L' := 8) (d := 8) hF hro ((apG r _ _ b off len cap _ _ true _ _ _).trans ?_))
    rw [cond_true]
    refine qn_ok ?_
    obtain ⟨x, y, z, hd, d0, d1, d2⟩ := drop3 hl c
    refine Go.Ev.Reach.seq (Go.Ev.Reach.block (Go.Ev.Reach.seg (SC_ok r) TOk.nil (tm := mskH) (L := 8) (L' := 8) (d := 8) hF hro (ap_round r b off len cap n S _ _ _ _ _ x y z c (hz _ _ d0) (hz _ _ d1) (hz _ _ d2) (fun hf A => ?_) (fun hk s A hA => ?_))))
    · refine qn_ok ⟨.inr rfl, _, ren_apQ [] false _ A rfl, ?_⟩
      have : m_apL zs noS = false := by
        rw [hm, hd, m_apL, ← Bool.and_assoc, ← Bool.and_assoc]
        rw [← Bool.and_assoc] at hf
        rw [hf]; rfl
      rw [this]
      rfl
    · refine qn_ok ?_
      refine Go.Ev.Reach.pre (ren_ap s b off len cap (Int.ofNat n) _ _ A rfl rfl rfl rfl rfl rfl rfl hA) ?_
      refine Go.Ev.Reach.seg (SC_ok r) TOk.nil (tm := mskH) (L := 8) (L' := 8) (d := 8) hF hro ((apI r _ _ b off len cap _ _ _ _ _ _).trans (qn_ok ?_))
      refine ⟨len - (n + 1), by omega, _, ren_ap _ b off len cap (Int.ofNat (n + 1)) _ _ _ rfl rfl rfl rfl rfl rfl ?_ rfl, n + 1, _, by omega, rfl, ?_, rfl⟩
      · show some (Value.int IntKind.i64 (IntKind.wrap IntKind.i64 (Int.ofNat n + Int.ofNat 1))) = some (I (Int.ofNat (n + 1)))
        rw [wrI (z := Int.ofNat n + Int.ofNat 1) (by constructor <;> (simp only [Int.ofNat_eq_natCast]; omega))]
        rfl
      · rw [hm, hd, m_apL, ← Bool.and_assoc, ← Bool.and_assoc]
        rw [← Bool.and_assoc] at hk
        rw [hk]
        rfl
  · have c' : ¬ Int.ofNat n < Int.ofNat len := by simpa using c
    refine Go.Ev.Reach.seq (Go.Ev.Reach.seg (SC_ok r) TOk.nil (tm := mskH) (L := 8) (L' := 8) (d := 8) hF hro ((apH r _ _ b off len cap _ _ _ _ _ _).trans ?_))
    rw [dF c', cond_false]
    refine qn_ok ?_
    refine Go.Ev.Reach.seq (Go.Ev.Reach.seg (SC_ok r) TOk.nil (tm := mskH) (L := 8) (L' := 8) (d := 8) hF hro ((apG r _ _ b off len cap _ _ false _ _ _).trans ?_))
    rw [cond_false]
    refine qn_ok ?_
    simp only [if_true]
    refine Go.Ev.Reach.seg (SC_ok r) TOk.nil (tm := mskH) (L := 8) (L' := 8) (d := 8) hF hro ((apE r _ _ b off len cap (Int.ofNat n) _ _ _ _ _).trans (qn_ok ⟨.inr rfl, _, ren_apQ [] true _ _ rfl, ?_⟩))
    have : m_apL zs noS = true := by
      rw [hm, List.drop_eq_nil_of_le (by omega)]
      rfl
    rw [this]
    rfl

end Go.Proofs

/- Are triples apart: an entry of a table, for a row of the caller's own. Also the kinds of pairs. -/
namespace Go.Proofs
open Go Go.Ev
set_option linter.unusedVariables false

def takeZ : List Value → Nat → Option (List Int)
  | _, 0 => some []
  | .int .i64 z :: l, n + 1 => match takeZ l n with
    | some zs => some (z :: zs)
    | none => none
  | _, _ => none

theorem takeZ_get : ∀ {l : List Value} {n : Nat} {zs : List Int}, takeZ l n = some zs → zs.length = n ∧ ∀ (j : Nat) (z : Int), zs[j]? = some z → l[j]? = some (I z) := by
  intro l
  induction l with
  | nil =>
    intro n zs h
    cases n with
    | zero => simp [takeZ] at h; subst h; simp
    | succ n => simp [takeZ] at h
  | cons v l ih =>
    intro n zs h
    cases n with
    | zero => simp [takeZ] at h; subst h; simp
    | succ n =>
      unfold takeZ at h
      split at h
      · rename_i h0; cases h0
      · rename_i h1 h2
        cases h1
        cases h2
        split at h
        · rename_i ys hy
          cases h
          obtain ⟨q1, q2⟩ := ih hy
          refine ⟨by simp [q1], fun j z hj => ?_⟩
          cases j with
          | zero => simp at hj; subst hj; rfl
          | succ j => simpa using q2 j z (by simpa using hj)
        · cases h
      · cases h

noncomputable def eApart : Ent := ent
  (fun args A => match args with
    | [.int .i64 (.ofNat 15), .slice (some ⟨i, 0, none⟩) len cap] => match A.heap.get i with
      | some (.cells c _ _ _) => match takeZ c (3 * len) with
        | some _ => !Nat.beq cap unkE && Nat.blt len 1000000
        | none => false
      | _ => false
    | _ => false)
  (fun args A => match args with
    | [_, .slice (some ⟨i, 0, none⟩) len _] => match A.heap.get i with
      | some (.cells c _ _ _) => match takeZ c (3 * len) with
        | some zs => .bool (m_apL zs noS)
        | none => undef
      | _ => undef
    | _ => undef)

theorem apart_entry (r : Mem) : EOk (SC r) 51 eApart := EOk.ent fun args A hg => by
  split at hg
  · rename_i i len cap
    split at hg
    · rename_i c e f z hget
      split at hg
      · rename_i zs hzs
        simp only [Bool.and_eq_true, Bool.not_eq_true'] at hg
        obtain ⟨q1, q2⟩ := takeZ_get hzs
        have hlt : len < 1000000 := by simpa [Nat.blt_eq] using hg.2
        show POk (SC r) _ _ A (match A.heap.get i with
          | some (.cells c _ _ _) => match takeZ c (3 * len) with
            | some zs => .bool (m_apL zs noS)
            | none => undef
          | _ => undef)
        rw [hget]
        show POk (SC r) _ _ A (match takeZ c (3 * len) with
            | some zs => .bool (m_apL zs noS)
            | none => undef)
        rw [hzs]
        refine POk.of rfl fun γ W args' hw hR ha => ?_
        cases ha' : args'.toList with
        | nil => rw [ha'] at ha; cases ha
        | cons u0 rest =>
          rw [ha'] at ha
          cases ha with
          | cons hu hrest =>
          cases hrest with
          | cons hv hrest =>
          cases hrest
          have hu' := hu.eq_of_gnd (v := .int .i64 (.ofNat 15)) rfl
          subst hu'
          obtain ⟨b, k', c', rfl, hrd⟩ := rd_world hw hR hv hg.1
          refine ⟨memW W, [I 15, RS b k' len 0], memW_ro W, .cons (.int _ _) (.cons (.sliceRo _ _ _ _ _ _ (by decide) (Nat.zero_le _)) .nil), ?_⟩
          refine apart_ok (memW W) b k' len 0 zs (fun j z hj => hrd j _ ?_ rfl) q1 hlt
          simp only [AW.rd, AW.cell, hget]
          show c[0 + j]? = _
          rw [Nat.zero_add]
          exact q2 j z hj
      · cases hg
    · cases hg
  · cases hg

def m_kind (a b : Int) : Value := bif b == Int.ofNat 14 then .agg ⟨[I (IntKind.wrap IntKind.i64 (Int.tdiv a (Int.ofNat 7))), I (IntKind.wrap IntKind.i64 (Int.tdiv b (Int.ofNat 7))), I (Int.ofNat 0)]⟩
  else bif IntKind.wrap IntKind.i64 (Int.tdiv a (Int.ofNat 7)) == IntKind.wrap IntKind.i64 (Int.tdiv b (Int.ofNat 7)) then .agg ⟨[I (IntKind.wrap IntKind.i64 (Int.tdiv a (Int.ofNat 7))), I (IntKind.wrap IntKind.i64 (Int.tdiv b (Int.ofNat 7))),
      I (bif decide (IntKind.wrap IntKind.i64 (Int.ofNat 7 - Int.tmod (IntKind.wrap IntKind.i64 (b - a)) (Int.ofNat 7)) < Int.tmod (IntKind.wrap IntKind.i64 (b - a)) (Int.ofNat 7)) then IntKind.wrap IntKind.i64 (Int.ofNat 7 - Int.tmod (IntKind.wrap IntKind.i64 (b - a)) (Int.ofNat 7)) else Int.tmod (IntKind.wrap IntKind.i64 (b - a)) (Int.ofNat 7))]⟩
  else .agg ⟨[I (IntKind.wrap IntKind.i64 (Int.tdiv a (Int.ofNat 7))), I (IntKind.wrap IntKind.i64 (Int.tdiv b (Int.ofNat 7))), I (Int.tmod (IntKind.wrap IntKind.i64 (b - a)) (Int.ofNat 7))]⟩
def eKind : Ent := eI2 (fun _ _ => true) m_kind
theorem kind_ok (r : Mem) : EOk (SC r) 65 eKind := eI2_ok fun a b _ => GrT.of (SC_ok r) (t := fun _ => none) TOk.nil .nil (by unfold m_kind; cases (b == Int.ofNat 14) <;> cases (IntKind.wrap IntKind.i64 (Int.tdiv a (Int.ofNat 7)) == IntKind.wrap IntKind.i64 (Int.tdiv b (Int.ofNat 7))) <;> rfl) ⟨8, 8, by
  rw [kdA]
  unfold m_kind
  cases (b == Int.ofNat 14) <;> cases (IntKind.wrap IntKind.i64 (Int.tdiv a (Int.ofNat 7)) == IntKind.wrap IntKind.i64 (Int.tdiv b (Int.ofNat 7))) <;> rfl⟩

noncomputable def tFe : Tbl := tcons 51 eApart (tcons 65 eKind (tcons 43 eCompare fun _ => none))
theorem tFe_ok (r : Mem) : TOk (CC r) tFe := (show TOk (SC r) tFe from TOk.cons (TOk.cons (TOk.cons TOk.nil (compare_ok r)) (kind_ok r)) (apart_entry r))

end Go.Proofs

