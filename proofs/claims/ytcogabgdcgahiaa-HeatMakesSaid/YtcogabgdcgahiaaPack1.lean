/- What the claim is proved with, part 1: the evaluator and the contracts of the calls. -/
import Derived.Test.YtcogabgdcgahiaaSymBase
import Derived.IntWalk
import Derived.Test.YtcogabgdcgahiaaEvRen
import Derived.Test.YtcogabgdcgahiaaEvOwn
import Derived.Test.YtcogabgdcgahiaaEvMemOf
/- Rules for loops. -/
namespace Go.Proofs
open Go Go.Ev

theorem fnsSC (r : Mem) : (SC r).fns = S0.fns := by unfold SC Cfg.sym; rfl
theorem bodySC (r : Mem) (f : Nat) : bodyOf (SC r) f = bodyOf S0 f := by unfold bodyOf; rw [fnsSC]

/-- Into a function whose body has this name. -/
theorem enterN {r : Mem} {t : Tbl} {ms : Tr Nat} {L d f m n : Nat} {args : List Value} {A : AW} {k : KV} {rs : List ResultVar} (c : Code) (hc : c = bodyOf S0 f) (hb : hasBody (SC r) f = true) (hn : ntm (SC r) f = n) (hm : maskFor ms f n = m) (hr : resOf (SC r) f = rs)
    (hl : Nat.ble args.length n = true) (ht : t f = none) :
    (lvlT (SC r) t ms L (d + 1)).call f args A k = run (SC r) m n L c (lvlT (SC r) t ms L d) none (finK (SC r) m rs k) kx242 (finK (SC r) m rs k) (sc0 m args) (tr0 m args) [] A := by
  rw [enter hb hn hm hr hl ht, bodySC, ← hc]

theorem fn_of {C : Cfg} {f : Nat} (h : hasBody C f = true) : ∃ fn, C.fns.get f = some fn ∧ fn.body = some (bodyOf C f) ∧ fn.ntmps = ntm C f ∧ fn.results.toList = resOf C f := by
  unfold hasBody at h
  unfold bodyOf ntm resOf
  split at h
  · rename_i fn hfn
    split at h
    · rename_i c hc
      exact ⟨fn, hfn, by simp only [hfn, hc], by simp only [hfn], by simp only [hfn]⟩
    · cases h
  · cases h

/-- Rows of code, taken together from the left. -/
theorem seqA {C : Cfg} {m n L : Nat} (a b d : Code) : run C m n L (.seq a (.seq b d)) = run C m n L (.seq (.seq a b) d) := rfl

theorem run_while {C : Cfg} {m n L : Nat} {fs : FnsC} {ro : Option Nat} {kn : KS} {kx : Nat → KS} {kr : KS} (a b d : Code) (id : Nat) : run C m n L (.seq a (.seq (.block id (.loop b)) d)) fs ro kn kx kr =
    run C m n L a fs ro (cLoop (fun kl => run C m n L b fs ro kl (fun j => match Nat.beq j id with | true => run C m n L d fs ro kn kx kr | false => kx j) kr) L) kx kr := rfl
theorem run_while0 {C : Cfg} {m n L : Nat} {fs : FnsC} {ro : Option Nat} {kn : KS} {kx : Nat → KS} {kr : KS} (a b : Code) (id : Nat) : run C m n L (.seq a (.block id (.loop b))) fs ro kn kx kr =
    run C m n L a fs ro (cLoop (fun kl => run C m n L b fs ro kl (fun j => match Nat.beq j id with | true => kn | false => kx j) kr) L) kx kr := rfl

theorem run_pre {C : Cfg} {m n L : Nat} (a b d e : Code) : run C m n L (.seq a (.seq (.seq b d) e)) = run C m n L (.seq (.seq a b) (.seq d e)) := rfl

theorem beqD (a b : Int) : (a == b) = decide (a = b) := by by_cases h : a = b <;> simp [h]

theorem dT {p : Prop} [Decidable p] (h : p) : decide p = true := decide_eq_true h
theorem dF {p : Prop} [Decidable p] (h : ¬ p) : decide p = false := decide_eq_false h
theorem eqT {a b : Int} (h : a = b) : (a == b) = true := by simp [h]
theorem eqF {a b : Int} (h : a ≠ b) : (a == b) = false := by simp [h]
theorem neT {a b : Int} (h : a ≠ b) : (a != b) = true := by simp [h]
theorem neF {a b : Int} (h : a = b) : (a != b) = false := by simp [h]
theorem wrI {z : Int} (h : -9223372036854775808 ≤ z ∧ z ≤ 9223372036854775807) : IntKind.wrap .i64 z = z := IntWalk.i64_in z h

/- An entry for one call alone: these arguments, this world; what it answers, and the world behind it. -/
noncomputable def m_at (args args0 : List Value) (A A0 : AW) : Bool := @decide (args = args0 ∧ A = A0) (Classical.propDecidable _)
noncomputable def entAt (args0 : List Value) (A0 : AW) (v : Value) (A1 : AW) : Ent := ⟨fun args A => m_at args args0 A A0, fun _ _ => true, fun _ _ => v, fun _ _ => A1, fun _ _ => v, fun _ _ => A1⟩

theorem at_rfl (args : List Value) (A : AW) : m_at args args A A = true := @decide_eq_true _ (Classical.propDecidable _) ⟨rfl, rfl⟩

theorem entAt_ok {C : Cfg} {f : Nat} {args0 : List Value} {A0 : AW} {v : Value} {A1 : AW}
    (h : ∀ F, Wide F → ∀ k γ W args', WRel γ A0 W → Ro C.ro γ W → VsRel γ args0 (Array.toList args') → CallsIn F k C.P f args' W (Go.Ev.Ends γ W v A1)) : EOk C f (entAt args0 A0 v A1) := fun args A hg F hF k γ W args' hw hR ha => by
  obtain ⟨rfl, rfl⟩ := @of_decide_eq_true _ (Classical.propDecidable _) hg
  exact ⟨fun _ => h F hF k γ W args' hw hR ha, fun _ => h F hF k γ W args' hw hR ha⟩

/-- The same, by a run. -/
theorem entAt_run {C : Cfg} (hC : C.Ok) {t : Tbl} (ht : TOk C t) (tm : Tr Nat) {f : Nat} {args0 : List Value} {A0 : AW} {v : Value} {A1 : AW} (h : ∃ L d, (lvlT C t tm L d).call f args0 A0 .ret = .ret v A1) : EOk C f (entAt args0 A0 v A1) :=
  entAt_ok fun F hF k γ W args' hw hR ha => by
    obtain ⟨L, d, hr⟩ := h
    have h1 := (lvlT_le (C := C) t tm L d).call _ _ _ _ _ _ hr
    cases hc : (lvlU C t tm L d).call f args0 A0 with
    | fail w => rw [hc] at h1; cases h1
    | ret u A' =>
      rw [hc] at h1
      cases h1
      exact (lvlU_ok hC ht tm L d).call γ A0 W f args0 args' v A1 hc hw hR ha F hF k

/- Entries of a table, by the shape of the arguments. -/
def eI2 (g : Int → Int → Bool) (v : Int → Int → Value) : Ent := ent (fun args _ => match args with | [.int .i64 a, .int .i64 b] => g a b | _ => false) (fun args _ => match args with | [.int .i64 a, .int .i64 b] => v a b | _ => undef)
def eI4 (g : Int → Int → Int → Int → Bool) (v : Int → Int → Int → Int → Value) : Ent := ent (fun args _ => match args with | [.int .i64 a, .int .i64 b, .int .i64 c, .int .i64 d] => g a b c d | _ => false) (fun args _ => match args with | [.int .i64 a, .int .i64 b, .int .i64 c, .int .i64 d] => v a b c d | _ => undef)
def eA2 (g : Int → Int → Bool) (v : Int → Int → Value) : Ent := ent (fun args _ => match args with | [.agg ⟨[.int .i64 a, .int .i64 b]⟩] => g a b | _ => false) (fun args _ => match args with | [.agg ⟨[.int .i64 a, .int .i64 b]⟩] => v a b | _ => undef)
def eI1 (g : Int → Bool) (v : Int → Value) : Ent := ent (fun args _ => match args with | [.int .i64 a] => g a | _ => false) (fun args _ => match args with | [.int .i64 a] => v a | _ => undef)
def eA1I (g : Int → Int → Int → Bool) (v : Int → Int → Int → Value) : Ent := ent (fun args _ => match args with | [.agg ⟨[.int .i64 a, .int .i64 b]⟩, .int .i64 c] => g a b c | _ => false) (fun args _ => match args with | [.agg ⟨[.int .i64 a, .int .i64 b]⟩, .int .i64 c] => v a b c | _ => undef)
def eAA (g : Int → Int → Int → Int → Bool) (v : Int → Int → Int → Int → Value) : Ent := ent (fun args _ => match args with | [.agg ⟨[.int .i64 a, .int .i64 b]⟩, .agg ⟨[.int .i64 c, .int .i64 d]⟩] => g a b c d | _ => false) (fun args _ => match args with | [.agg ⟨[.int .i64 a, .int .i64 b]⟩, .agg ⟨[.int .i64 c, .int .i64 d]⟩] => v a b c d | _ => undef)
def e0 (v : Value) : Ent := ent (fun args _ => match args with | [] => true | _ => false) (fun _ _ => v)

theorem eI2_ok {C : Cfg} {f : Nat} {g : Int → Int → Bool} {v : Int → Int → Value} (h : ∀ a b, g a b = true → GrT C.P C.ro f [I a, I b] (v a b)) : EOk C f (eI2 g v) := EOk.ent fun args A hg => by
  split at hg
  · exact (h _ _ hg).ro rfl A
  · cases hg
theorem eI4_ok {C : Cfg} {f : Nat} {g : Int → Int → Int → Int → Bool} {v : Int → Int → Int → Int → Value} (h : ∀ a b c d, g a b c d = true → GrT C.P C.ro f [I a, I b, I c, I d] (v a b c d)) : EOk C f (eI4 g v) := EOk.ent fun args A hg => by
  split at hg
  · exact (h _ _ _ _ hg).ro rfl A
  · cases hg
theorem eA2_ok {C : Cfg} {f : Nat} {g : Int → Int → Bool} {v : Int → Int → Value} (h : ∀ a b, g a b = true → GrT C.P C.ro f [.agg ⟨[I a, I b]⟩] (v a b)) : EOk C f (eA2 g v) := EOk.ent fun args A hg => by
  split at hg
  · exact (h _ _ hg).ro rfl A
  · cases hg
theorem eI1_ok {C : Cfg} {f : Nat} {g : Int → Bool} {v : Int → Value} (h : ∀ a, g a = true → GrT C.P C.ro f [I a] (v a)) : EOk C f (eI1 g v) := EOk.ent fun args A hg => by
  split at hg
  · exact (h _ hg).ro rfl A
  · cases hg
theorem eA1I_ok {C : Cfg} {f : Nat} {g : Int → Int → Int → Bool} {v : Int → Int → Int → Value} (h : ∀ a b c, g a b c = true → GrT C.P C.ro f [.agg ⟨[I a, I b]⟩, I c] (v a b c)) : EOk C f (eA1I g v) := EOk.ent fun args A hg => by
  split at hg
  · exact (h _ _ _ hg).ro rfl A
  · cases hg
theorem eAA_ok {C : Cfg} {f : Nat} {g : Int → Int → Int → Int → Bool} {v : Int → Int → Int → Int → Value} (h : ∀ a b c d, g a b c d = true → GrT C.P C.ro f [.agg ⟨[I a, I b]⟩, .agg ⟨[I c, I d]⟩] (v a b c d)) : EOk C f (eAA g v) := EOk.ent fun args A hg => by
  split at hg
  · exact (h _ _ _ _ hg).ro rfl A
  · cases hg
theorem e0_ok {C : Cfg} {f : Nat} {v : Value} (h : GrT C.P C.ro f [] v) : EOk C f (e0 v) := EOk.ent fun args A hg => by
  split at hg
  · exact h.ro rfl A
  · cases hg

end Go.Proofs

/- Code run by itself to where a value can be read off the state: the state needs no writing out. -/
namespace Go.Proofs
open Go Go.Ev

/-- What is read off a state. -/
def qv (g : List (Nat × Value) → Tr Value → List Nat → AW → Option Value) : KS := fun s b ms A => match g s b ms A with
  | some v => .ret v ⟨0, .nil, .nil⟩
  | none => .fail 0
def qF : KS := fun _ _ _ _ => .fail 0

theorem qv_use {g : List (Nat × Value) → Tr Value → List Nat → AW → Option Value} {s : List (Nat × Value)} {b : Tr Value} {ms : List Nat} {A : AW} {v : Value} (h : qv g s b ms A = .ret v ⟨0, .nil, .nil⟩) : g s b ms A = some v := by
  unfold qv at h
  split at h
  · rename_i u hu
    cases h
    exact hu
  · cases h

section
variable {C : Cfg} {m n : Nat} {F : Fence} {k : Nat} {γ0 : Gam} {W0 : World}

/-- Code that goes on, to what is read off. -/
theorem Reach.segV (hC : C.Ok) {t : Tbl} (ht : TOk C t) {tm : Tr Nat} {L L' d : Nat} (hF : Wide F) (hro : F.round = none) {c : Code} {s : List (Nat × Value)} {b : Tr Value} {ms : List Nat} {A : AW} {Q : Exit → St → Prop}
    (g : List (Nat × Value) → Tr Value → List Nat → AW → Option Value) {v : Value}
    (h : run C m n L c (lvlT C t tm L' d) none (qv g) (fun _ => qF) qF s b ms A = .ret v ⟨0, .nil, .nil⟩) (hQ : ∀ s b ms A, g s b ms A = some v → Q .normal ⟨⟨s, b⟩, ms, A⟩) : Go.Ev.Reach C m n F k γ0 W0 c ⟨⟨s, b⟩, ms, A⟩ Q := by
  intro γ a W hs hb
  have hle := cCode_le (C := C) (m := m) (n := n) (L := L) c (lvlT_le (C := C) t tm L' d) none (qv g) (fun _ => qF) qF s b ms A _ _ h
  have hro' : RoRel γ none F.round := by rw [hro]; exact .none
  refine code_ok hC (lvlU_ok hC ht tm L' d) L c hF k hro' hs hb.ro ?_ ?_
  · cases ho : evCode C (lvlU C t tm L' d) m n none L c ⟨⟨s, b⟩, ms, A⟩ with
    | fail w => rw [ho] at hle; cases hle
    | norm st => rfl
    | exit id st => rfl
    | ret st => rfl
  · cases ho : evCode C (lvlU C t tm L' d) m n none L c ⟨⟨s, b⟩, ms, A⟩ with
    | fail w => trivial
    | norm st =>
      obtain ⟨⟨s', b'⟩, ms', A'⟩ := st
      rw [ho] at hle
      exact fun γ' a' W' hs' he => ⟨_, γ', hQ _ _ _ _ (qv_use hle), hs', ⟨hb.ext.trans he, hb.ro.ext he⟩⟩
    | exit id st => rw [ho] at hle; cases hle
    | ret st => rw [ho] at hle; cases hle
end

end Go.Proofs

/- awake of chapter 9. -/
namespace Go.Proofs
open Go Go.Ev

theorem awake_ok (r : Mem) : GrT Try.prog r 12 [] (.bool true) := GrT.closedRo evMixed evNames r .nil 1000 40 (by kernel_rfl)

end Go.Proofs

/- The law of schedules made: its parts, run. -/
namespace Go.Proofs
open Go Go.Ev
set_option linter.unusedVariables false

noncomputable def cMk : Code := bodyOf S0 3
noncomputable def oMk : Code := ic (ic (rc (lc (rc cMk))))
noncomputable def xMk : Code := ic (lc (rc oMk))

def TMk0 (n : Int) : Tr Value := .node .nil (some (I n)) (.node .nil (some (.bool false)) .nil)
/-- The temporaries at the head of the loop. -/
def TMk (n i : Int) : Tr Value := .node (.node (.node .nil (some (I i)) .nil) none .nil) (some (I n)) (.node .nil (some (.bool false)) .nil)

/-- What a round leaves: the number, the count, the answer's slot. -/
def gMk : List (Nat × Value) → Tr Value → List Nat → AW → Option Value := fun _ b ms _ => match b.get 0, b.get 3, b.get 2, ms with
  | some x, some y, some z, [] => some (.tuple ⟨[x, y, z]⟩)
  | _, _, _, _ => none

noncomputable def tMk : Tbl := tcons 12 (e0 (.bool true)) fun _ => none

theorem mkA (r : Mem) (L : Nat) (fs : FnsC) (n : Int) (kn : KS) (kx : Nat → KS) (kr : KS) : run (SC r) 253 86 L (lc cMk) fs none kn kx kr (sc0 253 [I n]) (tr0 253 [I n]) [] emptyA =
    kn [] (Tr.node Tr.nil (some (Value.int IntKind.i64 n)) (Tr.node Tr.nil (some (Value.bool false)) Tr.nil)) [] (AW.mk 0 Tr.nil Tr.nil) := by kernel_rfl

end Go.Proofs

/- The law of schedules made: rounds of numbers that are known. -/
namespace Go.Proofs
open Go Go.Ev
set_option linter.unusedVariables false

theorem mk_2 (r : Mem) (i : Int) (s : List (Nat × Value)) : run (SC r) 253 86 1000 xMk (lvlT (SC r) tMk .nil 1000 40) none (qv gMk) (fun _ => qF) qF s (TMk 2 i) [] emptyA = .ret (.tuple ⟨[I (2 + 2 * (2 % 8)), I i, .bool false]⟩) ⟨0, .nil, .nil⟩ := by kernel_rfl

theorem mk_4 (r : Mem) (i : Int) (s : List (Nat × Value)) : run (SC r) 253 86 1000 xMk (lvlT (SC r) tMk .nil 1000 40) none (qv gMk) (fun _ => qF) qF s (TMk 4 i) [] emptyA = .ret (.tuple ⟨[I (2 + 2 * (4 % 8)), I i, .bool false]⟩) ⟨0, .nil, .nil⟩ := by kernel_rfl

theorem mk_6 (r : Mem) (i : Int) (s : List (Nat × Value)) : run (SC r) 253 86 1000 xMk (lvlT (SC r) tMk .nil 1000 40) none (qv gMk) (fun _ => qF) qF s (TMk 6 i) [] emptyA = .ret (.tuple ⟨[I (2 + 2 * (6 % 8)), I i, .bool false]⟩) ⟨0, .nil, .nil⟩ := by kernel_rfl

theorem mk_8 (r : Mem) (i : Int) (s : List (Nat × Value)) : run (SC r) 253 86 1000 xMk (lvlT (SC r) tMk .nil 1000 40) none (qv gMk) (fun _ => qF) qF s (TMk 8 i) [] emptyA = .ret (.tuple ⟨[I (2 + 2 * (8 % 8)), I i, .bool false]⟩) ⟨0, .nil, .nil⟩ := by kernel_rfl

theorem mk_10 (r : Mem) (i : Int) (s : List (Nat × Value)) : run (SC r) 253 86 1000 xMk (lvlT (SC r) tMk .nil 1000 40) none (qv gMk) (fun _ => qF) qF s (TMk 10 i) [] emptyA = .ret (.tuple ⟨[I (2 + 2 * (10 % 8)), I i, .bool false]⟩) ⟨0, .nil, .nil⟩ := by kernel_rfl

theorem mk_12 (r : Mem) (i : Int) (s : List (Nat × Value)) : run (SC r) 253 86 1000 xMk (lvlT (SC r) tMk .nil 1000 40) none (qv gMk) (fun _ => qF) qF s (TMk 12 i) [] emptyA = .ret (.tuple ⟨[I (2 + 2 * (12 % 8)), I i, .bool false]⟩) ⟨0, .nil, .nil⟩ := by kernel_rfl

theorem mk_14 (r : Mem) (i : Int) (s : List (Nat × Value)) : run (SC r) 253 86 1000 xMk (lvlT (SC r) tMk .nil 1000 40) none (qv gMk) (fun _ => qF) qF s (TMk 14 i) [] emptyA = .ret (.tuple ⟨[I (2 + 2 * (14 % 8)), I i, .bool false]⟩) ⟨0, .nil, .nil⟩ := by kernel_rfl

end Go.Proofs

/- The law of schedules made: rounds of numbers that are known. -/
namespace Go.Proofs
open Go Go.Ev
set_option linter.unusedVariables false

theorem mk_16 (r : Mem) (i : Int) (s : List (Nat × Value)) : run (SC r) 253 86 1000 xMk (lvlT (SC r) tMk .nil 1000 40) none (qv gMk) (fun _ => qF) qF s (TMk 16 i) [] emptyA = .ret (.tuple ⟨[I (2 + 2 * (16 % 8)), I i, .bool false]⟩) ⟨0, .nil, .nil⟩ := by kernel_rfl

end Go.Proofs

/- The law of schedules made: numbers that no schedule has; the count. -/
namespace Go.Proofs
open Go Go.Ev
set_option linter.unusedVariables false

/-- Is it a number of boats? -/
def m_boats (n : Int) : Bool := decide (n ≥ 2) && (decide (n ≤ 16) && (Int.tmod n (Int.ofNat 2) == Int.ofNat 0))

def eNo : Ent := ent (fun _ _ => false) fun _ _ => undef
def eBo : Ent := eI1 (fun _ => true) fun n => .bool (m_boats n)
def tMn : Tbl := tcons 17 eBo (tcons 7 eBo (tcons 18 eNo (tcons 19 eNo (tcons 8 eNo (tcons 9 eNo (tcons 10 eNo (tcons 11 eNo
  (tcons 12 (e0 (.bool true)) fun _ => none))))))))

theorem boA (r : Mem) (n : Int) : (lvlT (SC r) (fun _ => none) .nil 8 4).call 17 [I n] emptyA fin =
    bif Int.tmod n (Int.ofNat 2) == Int.ofNat 0 then bif decide (n ≥ 2) then bif decide (n ≤ 16) then CR.ret (Value.bool true) (AW.mk 0 Tr.nil Tr.nil) else CR.ret (Value.bool false) (AW.mk 0 Tr.nil Tr.nil) else CR.ret (Value.bool false) (AW.mk 0 Tr.nil Tr.nil) else CR.ret (Value.bool false) (AW.mk 0 Tr.nil Tr.nil) := by kernel_rfl

theorem boB (r : Mem) (n : Int) : (lvlT (SC r) (fun _ => none) .nil 8 4).call 7 [I n] emptyA fin =
    bif decide (n ≥ 2) then bif decide (n ≤ 16) then bif Int.tmod n (Int.ofNat 2) == Int.ofNat 0 then CR.ret (Value.bool true) (AW.mk 0 Tr.nil Tr.nil) else CR.ret (Value.bool false) (AW.mk 0 Tr.nil Tr.nil) else CR.ret (Value.bool false) (AW.mk 0 Tr.nil Tr.nil) else CR.ret (Value.bool false) (AW.mk 0 Tr.nil Tr.nil) := by kernel_rfl

theorem mkN (r : Mem) (n i : Int) (s : List (Nat × Value)) (kn : KS) (kx : Nat → KS) (kr : KS) : run (SC r) 253 86 1000 xMk (lvlT (SC r) tMn .nil 1000 40) none kn kx kr s (TMk n i) [] emptyA =
    bif m_boats n then CR.fail 420 else bif m_boats n then CR.fail 420 else bif m_boats n then kr [] (Tr.node (Tr.node (Tr.node (Tr.node Tr.nil (some (Value.int IntKind.i64 (Int.ofNat 1))) Tr.nil) (some (Value.int IntKind.i64 i)) Tr.nil) none (Tr.node Tr.nil (some (Value.int IntKind.i64 (Int.ofNat 1))) Tr.nil)) (some (Value.int IntKind.i64 n)) (Tr.node (Tr.node Tr.nil (some (Value.slice none 0 0)) Tr.nil) (some (Value.bool false)) (Tr.node Tr.nil (some (Value.slice none 0 0)) Tr.nil))) [] (AW.mk 0 Tr.nil Tr.nil) else kn [(84, Value.int IntKind.i64 (IntKind.wrap IntKind.i64 (Int.ofNat 2 + IntKind.wrap IntKind.i64 (Int.ofNat 2 * IntKind.wrap IntKind.i64 (Int.tmod (IntKind.wrap IntKind.u64 n) (Int.ofNat 8)))))), (83, Value.int IntKind.i64 (IntKind.wrap IntKind.i64 (Int.ofNat 2 * IntKind.wrap IntKind.i64 (Int.tmod (IntKind.wrap IntKind.u64 n) (Int.ofNat 8))))), (82, Value.int IntKind.i64 (IntKind.wrap IntKind.i64 (Int.tmod (IntKind.wrap IntKind.u64 n) (Int.ofNat 8)))), (81, Value.int IntKind.u64 (Int.tmod (IntKind.wrap IntKind.u64 n) (Int.ofNat 8))), (80, Value.int IntKind.u64 (IntKind.wrap IntKind.u64 n)), (79, Value.int IntKind.i64 n)] (Tr.node (Tr.node (Tr.node (Tr.node Tr.nil (some (Value.int IntKind.i64 (Int.ofNat 1))) Tr.nil) (some (Value.int IntKind.i64 i)) Tr.nil) none (Tr.node Tr.nil (some (Value.int IntKind.i64 (Int.ofNat 1))) Tr.nil)) (some (Value.int IntKind.i64 (IntKind.wrap IntKind.i64 (Int.ofNat 2 + IntKind.wrap IntKind.i64 (Int.ofNat 2 * IntKind.wrap IntKind.i64 (Int.tmod (IntKind.wrap IntKind.u64 n) (Int.ofNat 8))))))) (Tr.node (Tr.node Tr.nil (some (Value.slice none 0 0)) Tr.nil) (some (Value.bool false)) (Tr.node Tr.nil (some (Value.slice none 0 0)) Tr.nil))) [] (AW.mk 0 Tr.nil Tr.nil) := by kernel_rfl

theorem mkH (r : Mem) (L : Nat) (fs : FnsC) (n i : Int) (s : List (Nat × Value)) (kn : KS) (kx : Nat → KS) (kr : KS) : run (SC r) 253 86 L (lc oMk) fs none kn kx kr s (TMk n i) [] emptyA =
    bif decide (i < 2) then kn [(9, Value.bool true), (8, Value.int IntKind.i64 i)] (Tr.node (Tr.node (Tr.node Tr.nil (some (Value.int IntKind.i64 i)) Tr.nil) none Tr.nil) (some (Value.int IntKind.i64 n)) (Tr.node Tr.nil (some (Value.bool false)) Tr.nil)) [] (AW.mk 0 Tr.nil Tr.nil) else kx 0 [(9, Value.bool false), (8, Value.int IntKind.i64 i)] (Tr.node (Tr.node (Tr.node Tr.nil (some (Value.int IntKind.i64 i)) Tr.nil) none Tr.nil) (some (Value.int IntKind.i64 n)) (Tr.node Tr.nil (some (Value.bool false)) Tr.nil)) [] (AW.mk 0 Tr.nil Tr.nil) := by kernel_rfl

theorem mkI (r : Mem) (L : Nat) (fs : FnsC) (n i : Int) (s : List (Nat × Value)) (kn : KS) (kx : Nat → KS) (kr : KS) : run (SC r) 253 86 L (rc (rc oMk)) fs none kn kx kr s (TMk n i) [] emptyA =
    kn [(11, Value.int IntKind.i64 (IntKind.wrap IntKind.i64 (i + Int.ofNat 1))), (10, Value.int IntKind.i64 i)] (Tr.node (Tr.node (Tr.node Tr.nil (some (Value.int IntKind.i64 (IntKind.wrap IntKind.i64 (i + Int.ofNat 1)))) Tr.nil) none Tr.nil) (some (Value.int IntKind.i64 n)) (Tr.node Tr.nil (some (Value.bool false)) Tr.nil)) [] (AW.mk 0 Tr.nil Tr.nil) := by kernel_rfl

theorem mkZ (r : Mem) (n : Int) (s : List (Nat × Value)) (kn : KS) (kx : Nat → KS) (kr : KS) : run (SC r) 253 86 1000 (lc (lc (rc cMk))) (lvlT (SC r) tMn .nil 1000 40) none kn kx kr s (TMk0 n) [] emptyA =
    kn [] (Tr.node (Tr.node (Tr.node Tr.nil (some (Value.int IntKind.i64 (Int.ofNat 0))) Tr.nil) none Tr.nil) (some (Value.int IntKind.i64 n)) (Tr.node Tr.nil (some (Value.bool false)) Tr.nil)) [] (AW.mk 0 Tr.nil Tr.nil) := by kernel_rfl

theorem mkF (r : Mem) (n i : Int) (s : List (Nat × Value)) (kn : KS) (kx : Nat → KS) (kr : KS) : run (SC r) 253 86 1000 (rc (rc cMk)) (lvlT (SC r) tMn .nil 1000 40) none kn kx kr s (TMk n i) [] emptyA =
    kr [(85, Value.bool true)] (Tr.node (Tr.node (Tr.node Tr.nil (some (Value.int IntKind.i64 i)) Tr.nil) none Tr.nil) (some (Value.int IntKind.i64 n)) (Tr.node Tr.nil (some (Value.bool true)) Tr.nil)) [] (AW.mk 0 Tr.nil Tr.nil) := by kernel_rfl

theorem boA_ok (r : Mem) (n : Int) : GrT Try.prog r 17 [I n] (.bool (m_boats n)) :=
  GrT.of (SC_ok r) (t := fun _ => none) TOk.nil .nil rfl ⟨8, 4, by
    rw [boA]
    unfold m_boats
    cases decide (n ≥ 2) <;> cases decide (n ≤ 16) <;> cases (Int.tmod n (Int.ofNat 2) == Int.ofNat 0) <;> rfl⟩
theorem boB_ok (r : Mem) (n : Int) : GrT Try.prog r 7 [I n] (.bool (m_boats n)) :=
  GrT.of (SC_ok r) (t := fun _ => none) TOk.nil .nil rfl ⟨8, 4, by
    rw [boB]
    unfold m_boats
    cases decide (n ≥ 2) <;> cases decide (n ≤ 16) <;> cases (Int.tmod n (Int.ofNat 2) == Int.ofNat 0) <;> rfl⟩

theorem eNo_ok {C : Cfg} {f : Nat} : EOk C f eNo := EOk.ent fun _ _ h => nomatch h

end Go.Proofs

/- The law of schedules made: it answers true. -/
namespace Go.Proofs
open Go Go.Ev
set_option linter.unusedVariables false

theorem gMk_use {s : List (Nat × Value)} {b : Tr Value} {ms : List Nat} {A : AW} {x y z : Value} (h : gMk s b ms A = some (.tuple ⟨[x, y, z]⟩)) : b.get 0 = some x ∧ b.get 3 = some y ∧ b.get 2 = some z ∧ ms = [] := by
  unfold gMk at h
  split at h
  · rename_i h0 h3 h2
    cases h
    exact ⟨h0, h3, h2, rfl⟩
  · cases h

theorem ren_mk {r : Mem} {W0 : World} (s : List (Nat × Value)) (T : Tr Value) (n i : Int) (A : AW) (h0 : T.get 0 = some (I n)) (h3 : T.get 3 = some (I i)) (h2 : T.get 2 = some (.bool false)) : Ren (SC r) 253 86 noG W0 ⟨⟨s, T⟩, [], A⟩ ⟨⟨[], TMk n i⟩, [], emptyA⟩ := by
  refine Ren.of (fun i => i) 0 rfl (fun _ _ => rfl) (Nat.zero_le _) (fun i hi => rfl) ?_ rfl trivial trivial
  simp only [Tr.All, TMk]
  exact ⟨⟨_, h0, rfl⟩, ⟨trivial, ⟨⟨_, h3, rfl⟩, trivial, trivial⟩, trivial⟩, ⟨_, h2, rfl⟩, trivial, trivial⟩

theorem boats_cases (n : Int) (h : m_boats n = true) : n = 2 ∨ n = 4 ∨ n = 6 ∨ n = 8 ∨ n = 10 ∨ n = 12 ∨ n = 14 ∨ n = 16 := by
  unfold m_boats at h
  simp only [Bool.and_eq_true, decide_eq_true_eq, beq_iff_eq] at h
  obtain ⟨h1, h2, h3⟩ := h
  have : Int.tmod n (Int.ofNat 2) = n % 2 := by
    rw [Int.tmod_eq_emod_of_nonneg (by omega)]
    rfl
  rw [this] at h3
  have h3' : n % 2 = 0 := h3
  omega

theorem tMk_ok (r : Mem) : TOk (SC r) tMk := TOk.cons TOk.nil (e0_ok (awake_ok r))
theorem tMn_ok (r : Mem) : TOk (SC r) tMn := by
  have hb : EOk (SC r) 17 eBo := eI1_ok fun a _ => boA_ok r a
  have he : EOk (SC r) 7 eBo := eI1_ok fun a _ => boB_ok r a
  exact TOk.cons (TOk.cons (TOk.cons (TOk.cons (TOk.cons (TOk.cons (TOk.cons (TOk.cons (TOk.cons TOk.nil (e0_ok (awake_ok r))) eNo_ok) eNo_ok) eNo_ok) eNo_ok) eNo_ok) eNo_ok) he) hb

/-- The round's body: whatever the number is, it goes on with some number, the same count. -/
theorem mk_body {r : Mem} {F : Fence} {k : Nat} {W0 : World} (hF : Wide F) (hro : F.round = none) (n i : Int) (s : List (Nat × Value)) {Q : Exit → St → Prop} (hQ : ∀ st n', Ren (SC r) 253 86 noG W0 st ⟨⟨[], TMk n' i⟩, [], emptyA⟩ → Q .normal st) :
    Go.Ev.Reach (SC r) 253 86 F k noG W0 xMk ⟨⟨s, TMk n i⟩, [], emptyA⟩ Q := by
  have key : ∀ m : Int, (run (SC r) 253 86 1000 xMk (lvlT (SC r) tMk .nil 1000 40) none (qv gMk) (fun _ => qF) qF s (TMk n i) [] emptyA = .ret (.tuple ⟨[I m, I i, .bool false]⟩) ⟨0, .nil, .nil⟩) →
      Go.Ev.Reach (SC r) 253 86 F k noG W0 xMk ⟨⟨s, TMk n i⟩, [], emptyA⟩ Q := fun m hm =>
    Reach.segV (SC_ok r) (tMk_ok r) hF hro gMk hm fun s' b ms A h => by
      obtain ⟨h0, h3, h2, rfl⟩ := gMk_use h
      exact hQ _ m (ren_mk _ _ _ _ _ h0 h3 h2)
  cases c : m_boats n with
  | true =>
    rcases boats_cases n c with h | h | h | h | h | h | h | h
    · subst h; exact key _ (mk_2 r i s)
    · subst h; exact key _ (mk_4 r i s)
    · subst h; exact key _ (mk_6 r i s)
    · subst h; exact key _ (mk_8 r i s)
    · subst h; exact key _ (mk_10 r i s)
    · subst h; exact key _ (mk_12 r i s)
    · subst h; exact key _ (mk_14 r i s)
    · subst h; exact key _ (mk_16 r i s)
  | false =>
    refine Go.Ev.Reach.seg (SC_ok r) (tMn_ok r) (tm := .nil) (L := 1000) (L' := 1000) (d := 40) hF hro ((mkN r n i s _ _ _).trans ?_)
    rw [c]
    simp only [cond_false]
    exact qn_ok (hQ _ _ (ren_mk _ _ _ i _ rfl rfl rfl))

theorem cMk_eq : cMk = .seq (lc cMk) (.seq (.seq (lc (lc (rc cMk))) (.block 0 (.loop oMk))) (rc (rc cMk))) := by kernel_rfl
theorem oMk_eq : oMk = .seq (lc oMk) (.seq (.block 1 xMk) (rc (rc oMk))) := by kernel_rfl

theorem makes_ok (r : Mem) (n : Int) : GrT Try.prog r 3 [I n] (.bool true) := by
  refine GrM.plain (fun F hF k W args' hR ha => ?_) rfl
  obtain ⟨fn, h1, h2, h3, h4⟩ := fn_of (C := SC r) (f := 3) (by kernel_rfl)
  have hn : fn.ntmps = 86 := h3.trans (by kernel_rfl)
  have hr : fn.results.toList = [.tmp 2] := h4.trans (by kernel_rfl)
  rw [bodySC] at h2
  refine call_reach (C := SC r) (SC_ok r) (A := emptyA) h1 h2 253 (by rw [hn]; rfl) (fun F k hF hro => ?_) (WRel.empty W) hR ha hF k
  rw [hn, hr]
  show Go.Ev.Reach (SC r) 253 86 F k noG W cMk _ _
  rw [cMk_eq]
  refine Go.Ev.Reach.seq (Go.Ev.Reach.seg (SC_ok r) (tMn_ok r) (tm := .nil) (L := 1000) (L' := 1000) (d := 40) hF hro ((mkA r _ _ n _ _ _).trans (qn_ok ?_)))
  refine Go.Ev.Reach.seq (Go.Ev.Reach.seq (Go.Ev.Reach.seg (SC_ok r) (tMn_ok r) (tm := .nil) (L := 1000) (L' := 1000) (d := 40) hF hro ((mkZ r n _ _ _ _).trans (qn_ok ?_))))
  refine Go.Ev.Reach.block (Go.Ev.Reach.loop (I := fun j st => ∃ st1, Ren (SC r) 253 86 noG W st st1 ∧ ∃ n i, 0 ≤ i ∧ j = (2 - i : Int).toNat ∧ st1 = ⟨⟨[], TMk n i⟩, [], emptyA⟩) (fun j st ⟨st1, hr, n, i, hi, hj, hs⟩ => Go.Ev.Reach.pre hr ?_) ⟨_, Ren.refl _, n, 0, by omega, rfl, rfl⟩)
  subst hs
  rw [oMk_eq]
  by_cases c : i < 2
  · refine Go.Ev.Reach.seq (Go.Ev.Reach.seg (SC_ok r) (tMn_ok r) (tm := .nil) (L := 1000) (L' := 1000) (d := 40) hF hro ((mkH r _ _ n i _ _ _ _).trans ?_))
    rw [dT c, cond_true]
    refine qn_ok ?_
    refine Go.Ev.Reach.seq (Go.Ev.Reach.block (mk_body hF hro n i _ fun st n' hr' => ?_))
    refine Go.Ev.Reach.pre hr' ?_
    refine Go.Ev.Reach.seg (SC_ok r) (tMn_ok r) (tm := .nil) (L := 1000) (L' := 1000) (d := 40) hF hro ((mkI r _ _ n' i _ _ _ _).trans (qn_ok ?_))
    refine ⟨(2 - (i + 1) : Int).toNat, by omega, _, ren_mk _ _ n' (i + 1) _ rfl ?_ rfl, n', i + 1, by omega, rfl, rfl⟩
    show some (Value.int IntKind.i64 (IntKind.wrap IntKind.i64 (i + Int.ofNat 1))) = some (I (i + 1))
    rw [wrI (z := i + Int.ofNat 1) (by constructor <;> (show _ ≤ _; have : (Int.ofNat 1 : Int) = 1 := rfl; omega))]
    rfl
  · refine Go.Ev.Reach.seq (Go.Ev.Reach.seg (SC_ok r) (tMn_ok r) (tm := .nil) (L := 1000) (L' := 1000) (d := 40) hF hro ((mkH r _ _ n i _ _ _ _).trans ?_))
    rw [dF c, cond_false]
    refine qn_ok ?_
    simp only [if_true]
    refine Go.Ev.Reach.pre (st1 := ⟨⟨[], TMk n i⟩, [], emptyA⟩) (ren_mk _ _ n i _ rfl rfl rfl) ?_
    exact Go.Ev.Reach.seg (SC_ok r) (tMn_ok r) (tm := .nil) (L := 1000) (L' := 1000) (d := 40) hF hro ((mkF r n i _ _ _ _).trans (qn_ok ⟨.inr rfl, _, Ren.refl _, rfl⟩))

theorem law_makes (r : Mem) (u0 : Value) (s0 : ArgInt .i64 u0) : GrT Try.prog r 3 [u0] (.bool true) := by
  obtain ⟨n, rfl, _⟩ := s0
  exact makes_ok r n

end Go.Proofs

